/-
  The walk of the document's Run.
-/
import Derived.Test.YtmbpollfgmdinaaDoorMrGW
import Derived.Test.YtmbpollfgmdinaaDoorMrFW
namespace Go.Proofs.YtmbpollfgmdinaaDoor
open Go.RowKit Go.Shelf
theorem own_one (w : World) (lo : Nat) (z : Int) (h : lo ≤ w.heap.size) : OwnI (w.alloc (.cells #[.int .i64 z] 3)) lo (.slice (some ⟨w.heap.size, 0, none⟩) 1 1) [z] :=
  ⟨rfl, .inr ⟨w.heap.size, 1, #[.int .i64 z], rfl, h, heap_alloc_new w _, Nat.le_refl _, by decide, rfl, rfl⟩⟩
set_option maxRecDepth 10000 in
set_option maxHeartbeats 1600000 in
theorem refRun_any (st : Int) (N : List (List Int)) (l : List Int) (aN aO aw : Option Addr) (cN nO cO cw : Nat) (w : World) (hNr : ∀ r ∈ N, r.length ≤ 17592186043904) (hl : l.length ≤ 17592186043904) (ha : RwA w aN N) (hb : IA w aw l) :
    Calls Tryd.prog 7 #[.agg #[.int .i64 st, .slice aN N.length cN, .slice aO nO cO], .slice aw l.length cw] w fun e w' => ∃ v, e = .returned (.tuple #[v, .int .i64 (numC (runF N st l).isSome)]) ∧ OwnI w' w.heap.size v ((runF N st l).getD []) ∧ Below w.heap.size w w' := by
  obtain ⟨w0, hw0⟩ : ∃ w0, w0 = w.alloc (.cells #[.int .i64 st, .slice aN N.length cN, .slice aO nO cO] 24) := ⟨_, rfl⟩
  have hB0 : Below w.heap.size w w0 := by rw [hw0]; exact (Below.refl _ _).alloc (Nat.le_refl _) _
  have hX0 : w0.heap[w.heap.size]? = some (.cells #[.int .i64 st, .slice aN N.length cN, .slice aO nO cO] 24 (0, 0)) := by rw [hw0]; exact heap_alloc_new w _
  have hs0 : w0.heap.size = w.heap.size + 1 := by rw [hw0]; simp
  have HB0 := hid0 hB0
  have HS0 := hid0 hs0
  have HA := hid0 (ha.past hB0)
  have HI := hid0 (hb.past hB0)
  have x0 : w0.cell? ⟨w.heap.size, 0, none⟩ = some (.int .i64 st) := by rw [cell_of_row _ _ _ _ _ _ hX0]; rfl
  have x1 : w0.cell? ⟨w.heap.size, 1, none⟩ = some (.slice aN N.length cN) := by rw [cell_of_row _ _ _ _ _ _ hX0]; rfl
  have HX1 := hid0 x1
  have HNr := hid0 hNr
  clear ha hb hB0 hX0 hNr hs0
  have hfold := hw0.symm
  clear hw0
  by_cases g : st < 0
  case pos =>
    have HV : Hid (runF N st l = none) := hid0 (by unfold runF; rw [(oneOf_not N.length st).2 (by omega)]; rfl)
    go_enter Tryd.func7, Tryd.ntmps7
    go_wp2
    go_returns
    refine ⟨.slice none 0 0, ?_, ?_, ?_⟩
    · rw [HV.out]; rfl
    · rw [HV.out]; exact World.ownsRow_nil _ _ _ _
    · exact HB0.out
  have g0 := g
  clear g
  by_cases g : st ≥ (N.length : Int)
  case pos =>
    have HV : Hid (runF N st l = none) := hid0 (by unfold runF; rw [(oneOf_not N.length st).2 (by omega)]; rfl)
    go_enter Tryd.func7, Tryd.ntmps7
    go_wp2
    go_returns
    refine ⟨.slice none 0 0, ?_, ?_, ?_⟩
    · rw [HV.out]; rfl
    · rw [HV.out]; exact World.ownsRow_nil _ _ _ _
    · exact HB0.out
  have g1 := g
  clear g
  obtain ⟨s0, hs0⟩ : ∃ s0 : Nat, st = (s0 : Int) := ⟨st.toNat, by omega⟩
  subst hs0
  have hs0 : s0 < N.length := by omega
  have HR0 : Hid (goF N [(s0 : Int)] s0 (l.drop 0) = runF N (s0 : Int) l) := hid0 (by unfold runF; rw [(oneOf_iff N.length (s0 : Int)).2 (by omega)]; rfl)
  have HO2 : Hid (OwnI (w0.alloc (.cells #[.int .i64 (s0 : Int)] 3)) w0.heap.size (.slice (some ⟨w0.heap.size, 0, none⟩) 1 1) [(s0 : Int)]) := hid0 (own_one w0 _ _ (Nat.le_refl _))
  have HB2 : Hid (Below w0.heap.size w0 (w0.alloc (.cells #[.int .i64 (s0 : Int)] 3))) := hid0 ((Below.refl _ w0).alloc (Nat.le_refl _) _)
  go_enter Tryd.func7, Tryd.ntmps7
  go_wp2
  go_loopw [6, 7, 8] (fun s v i wr => ∃ (k q : Nat) (acc : List Int), k ≤ l.length ∧ q < N.length ∧ s = .int .i64 (q : Int) ∧ i = .int .i64 (k : Int) ∧ Hid (OwnI wr w0.heap.size v acc) ∧ Hid (acc.length = k + 1) ∧ Hid (goF N acc q (l.drop k) = runF N (s0 : Int) l) ∧ Hid (Below w0.heap.size w0 wr)) (fun _ _ i _ => l.length - (intOf i).toNat)
  case atStart => exact ⟨0, s0, [(s0 : Int)], Nat.zero_le _, hs0, rfl, rfl, HO2, hid0 rfl, HR0, HB2⟩
  case round =>
    clear HO2 HB2 HR0 x0 x1
    obtain ⟨k, q, acc, hk, hq, rfl, rfl, HO, HL, HG, HB⟩ := hrel
    have x1 : wr.cell? ⟨w.heap.size, 1, none⟩ = some (.slice aN N.length cN) := (HB.out.cell (p := ⟨w.heap.size, 1, none⟩) (by have := HS0.out; show w.heap.size < w0.heap.size; omega)).trans HX1.out
    by_cases hlt : k < l.length
    · obtain ⟨b, off, rfl, _, d1⟩ := (HI.out.past HB.out).at' k hlt
      obtain ⟨b2, off2, rfl, _, a2, c2, d2, i2⟩ := (HA.out.past HB.out).at' q hq
      have HI2 := hid0 i2
      clear i2
      have hkI : (k : Int) < (l.length : Int) := by omega
      have hkI0 : (0 : Int) ≤ (k : Int) := by omega
      have hqI : (q : Int) < (N.length : Int) := by omega
      have hqI0 : (0 : Int) ≤ (q : Int) := by omega
      have HGD := hid0 (goF_drop (N := N) (acc := acc) (s := q) hlt)
      have hgd := getD_at hq
      have hrl := HNr.out _ (List.getElem_mem hq)
      generalize l[k] = z at *
      by_cases g2 : z < 0
      case pos =>
        have HV : Hid (runF N (s0 : Int) l = none) := hid0 (by rw [← HG.out, HGD.out, stepF_none1 (by rw [hgd]; omega)])
        have hd : decide (z < 0) = true := decide_eq_true g2
        clear HG HGD HO HI2 hgd
        generalize N[q] = r at *
        go_wp2
        go_quiet ((fail))
        go_wp2
        go_returns
        refine ⟨.slice none 0 0, ?_, ?_, ?_⟩
        · rw [HV.out]; rfl
        · rw [HV.out]; exact World.ownsRow_nil _ _ _ _
        · exact Below.later HB0.out (below_drew' HB.out _)
      have hd0 : decide (z < 0) = false := decide_eq_false g2
      by_cases g3 : z ≥ (N[q].length : Int)
      case pos =>
        have HV : Hid (runF N (s0 : Int) l = none) := hid0 (by rw [← HG.out, HGD.out, stepF_none1 (by rw [hgd]; omega)])
        have hd : decide (z ≥ (N[q].length : Int)) = true := decide_eq_true g3
        clear HG HGD HO HI2 hgd
        generalize N[q] = r at *
        go_wp2
        go_quiet ((fail))
        go_wp2
        go_returns
        refine ⟨.slice none 0 0, ?_, ?_, ?_⟩
        · rw [HV.out]; rfl
        · rw [HV.out]; exact World.ownsRow_nil _ _ _ _
        · exact Below.later HB0.out (below_drew' HB.out _)
      obtain ⟨j, rfl⟩ : ∃ j : Nat, z = (j : Int) := ⟨z.toNat, by omega⟩
      have hj : j < N[q].length := by omega
      have HST := hid0 (stepF_at (N := N) (s := q) (k := j) (by rw [hgd]; exact hj))
      have hgj : (N.getD q [])[j]'(by rw [hgd]; exact hj) = N[q][j] := by simp only [hgd]
      rw [hgj] at HST
      clear hgj hgd
      generalize N[q] = r at *
      obtain ⟨b3, off3, rfl, _, d3⟩ := HI2.out.at' j hj
      have hd1 : decide ((j : Int) ≥ (r.length : Int)) = false := decide_eq_false g3
      have hjI : (j : Int) < (r.length : Int) := by omega
      have hjI0 : (0 : Int) ≤ (j : Int) := by omega
      generalize r[j] = t at *
      by_cases q0 : t < 0
      case pos =>
        have HV : Hid (runF N (s0 : Int) l = none) := hid0 (by rw [← HG.out, HGD.out, HST.out, (oneOf_not N.length t).2 (by omega)]; rfl)
        clear HG HGD HO HI2 HST
        go_wp2
        go_quiet ((fail))
        go_wp2
        go_quiet ((fail))
        go_wp2
        go_returns
        refine ⟨.slice none 0 0, ?_, ?_, ?_⟩
        · rw [HV.out]; rfl
        · rw [HV.out]; exact World.ownsRow_nil _ _ _ _
        · exact Below.later HB0.out (below_drew' HB.out _)
      by_cases q1 : t ≥ (N.length : Int)
      case pos =>
        have HV : Hid (runF N (s0 : Int) l = none) := hid0 (by rw [← HG.out, HGD.out, HST.out, (oneOf_not N.length t).2 (by omega)]; rfl)
        clear HG HGD HO HI2 HST
        go_wp2
        go_quiet ((fail))
        go_wp2
        go_quiet ((fail))
        go_wp2
        go_returns
        refine ⟨.slice none 0 0, ?_, ?_, ?_⟩
        · rw [HV.out]; rfl
        · rw [HV.out]; exact World.ownsRow_nil _ _ _ _
        · exact Below.later HB0.out (below_drew' HB.out _)
      obtain ⟨p, rfl⟩ : ∃ p : Nat, t = (p : Int) := ⟨t.toNat, by omega⟩
      have hp : p < N.length := by omega
      have HG2 : Hid (goF N (acc ++ [(p : Int)]) p (l.drop (k + 1)) = runF N (s0 : Int) l) := hid0 (by rw [← HG.out, HGD.out, HST.out, (oneOf_iff N.length (p : Int)).2 (by omega)]; rfl)
      have HO' : Hid (wr.ownsRow w0.heap.size 3 1 u7 (k + 1) (acc.map (Value.int .i64))) := hid0 (by have h := HO.out; unfold OwnI at h; rw [HL.out] at h; exact h)
      clear HG HGD HST HI2
      obtain ⟨i0, hi, hz0, hz1, hz2⟩ := info_parts infoInt
      have hsz := HB.out.size
      go_wp2
      go_quiet ((fail))
      go_wp2
      go_quiet ((fail))
      go_wp2_with (at_builtin; refine wpList_append_own _ rfl _ _ 25 rfl w0.heap.size 3 i0 (.int .i64 0) 1 8 Tryd.underlying25 hi hz0 hz1 hz2 rfl (by decide) _ (k + 1) (acc.map (Value.int .i64)) rfl (World.ownsRow.alloc (show World.ownsRow (World.drewN wr _) _ _ _ _ _ _ from HO'.out) _) ⟨wr.heap.size, 0, none⟩ 1 1 [.int .i64 (p : Int)] rfl rfl (cell_one_new _ _ _) (by simp [Value.oneCell']) (by unfold maxLen; omega) (by omega) (by simp; omega) ?_; intro v2 w4 hown' hgrow _; have HH := hid0 (ownI_snoc (w := w0) (base := w0.heap.size) (L := acc) (c := (p : Int)) (n := k + 1) HL.out.symm (show OwnI (World.drewN wr _) _ _ _ from HO.out) hown' hgrow (below_drew' HB.out _) (Nat.le_refl _)); clear hown' hgrow)
      have HO4 := hid0 HH.out.1
      have HB4 := hid0 HH.out.2
      have HL4 : Hid ((acc ++ [(p : Int)]).length = k + 1 + 1) := hid0 (by rw [List.length_append, HL.out]; rfl)
      clear HH HO HO' HB HL
      go_roundw
      case rel => exact ⟨k + 1, p, _, by omega, hp, rfl, by go_num, HO4, HL4, HG2, HB4⟩
      case measure => simp [intOf]; omega
    · have hkI : ¬ (k : Int) < (l.length : Int) := by omega
      have HV : Hid (runF N (s0 : Int) l = some acc) := hid0 (by rw [← HG.out, List.drop_of_length_le (by omega), goF])
      clear HG
      go_wp2
      go_returns
      refine ⟨u7, ?_, ?_, ?_⟩
      · rw [HV.out]; rfl
      · rw [HV.out]; exact owns_lower HO.out (by have := HS0.out; omega)
      · exact Below.later HB0.out HB.out
end Go.Proofs.YtmbpollfgmdinaaDoor
