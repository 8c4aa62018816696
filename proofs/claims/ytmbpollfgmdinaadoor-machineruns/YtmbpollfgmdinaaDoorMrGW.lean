/-
  The walk of machine.Run.
-/
import Derived.Test.YtmbpollfgmdinaaDoorMrDW
import Derived.Laws.MakeOwn
namespace Go.Proofs.YtmbpollfgmdinaaDoor
open Go.RowKit Go.Shelf
theorem wpList_make_one {ops : Array Oper} {rest : List Oper} {o : Oper} {a : Act} {w : World} {Q : Exit → Act → World → Prop} (hg : o.guard = none) (l c : Operand) (hop : o.op = Op.makeSlice 25 l c)
    (base : Nat) (C : Int) (n : Nat) (hl : a.eval l = .int .i64 1) (hc : a.eval c = .int .i64 C) (hC : C = (n : Int)) (h1 : 1 ≤ n) (hn : n ≤ 17592186044416) (hb : base ≤ w.heap.size)
    (hK : ∀ w', OwnI w' base (.slice (some ⟨w.heap.size, 0, none⟩) 1 n) [0] → w.grownBy w' none → wpList Tryd.prog ops Q rest (a.put o.dst (.slice (some ⟨w.heap.size, 0, none⟩) 1 n)) w') :
    wpList Tryd.prog ops Q (o :: rest) a w := by
  obtain ⟨i, hi, hz0, hz1, hz2⟩ := info_parts infoInt
  refine wpList_plain hg fun K hK' => ?_
  subst hC
  have hr := run_make (P := Tryd.prog) w 25 3 i (.int .i64 0) Tryd.underlying25 hi hz0 .i64 .i64 1 n (by omega) (by omega) (by rw [hz2]; omega) (by omega)
  have e1 : (1 : Int).toNat = 1 := rfl
  have e2 : ((n : Int)).toNat = n := Int.toNat_natCast n
  simp only [e1, e2, hz1] at hr
  unfold Oper.wp
  simp [execOp, hop, hl, hc, hr, Result.andThen]
  refine hK' _ _ (hK _ ?_ (World.grownBy_alloc w _ none))
  refine ⟨rfl, .inr ⟨w.heap.size, n, _, rfl, hb, heap_alloc_new w _, h1, by unfold maxLen; omega, ?_, ?_⟩⟩
  · first | exact size_madeCells _ _ | (rw [size_madeCells]; simp)
  · obtain ⟨m, rfl⟩ : ∃ m, n = m + 1 := ⟨n - 1, by omega⟩
    simp only [madeCells, Value.cells, Array.toList_map, Array.toList_range, List.range_succ_eq_map]
    simp
theorem oneOf_call {n : Nat} {z : Int} {b : Bool} (h : oneOf n z = b) (w : World) : Calls Tryd.prog 17 #[.int .i64 z, .int .i64 (n : Int)] w fun e w' => e = .returned (.bool b) ∧ w' = w := by subst h; exact isOneOf_any n z w
theorem OwnI.past {w w' : World} {base : Nat} {v : Value} {L : List Int} (h : OwnI w base v L) (hb : Below w.heap.size w w') : OwnI w' base v L := own_blk h (fun k hk => hb.block k (World.ownsRow.lt h k hk).2)
theorem stepF_none1 {N : List (List Int)} {s : Nat} {z : Int} (h : ¬ (0 ≤ z ∧ z < ((N.getD s []).length : Int))) : stepF N s z = none := by unfold stepF; rw [if_neg h]
theorem stepF_at {N : List (List Int)} {s k : Nat} (hk : k < (N.getD s []).length) : stepF N s (k : Int) = if oneOf N.length (N.getD s [])[k] then some ((N.getD s [])[k]).toNat else none := by
  unfold stepF
  rw [if_pos (by omega), Int.toNat_natCast, List.getD_eq_getElem?_getD (l := N.getD s []), List.getElem?_eq_getElem hk]
  rfl
set_option maxRecDepth 10000 in
set_option maxHeartbeats 1600000 in
theorem run_any (A : Nat → Addr) (st : Int) (N : List (List Int)) (l : List Int) (aN aO aw : Option Addr) (cN nO cO cw : Nat) (w : World) (hNr : ∀ r ∈ N, r.length ≤ 17592186043904) (hl : l.length ≤ 17592186043904) (ha : RwA w aN N) (hb : IA w aw l) (he : Sents w A) :
    Calls Tryd.prog 8 #[.agg #[.int .i64 st, .slice aN N.length cN, .slice aO nO cO], .slice aw l.length cw] w fun e w' => ∃ v, e = .returned (.tuple #[v, errC A (runF N st l).isSome]) ∧ OwnI w' w.heap.size v ((runF N st l).getD []) ∧ Below w.heap.size w w' := by
  obtain ⟨w0, hw0⟩ : ∃ w0, w0 = w.alloc (.cells #[.int .i64 st, .slice aN N.length cN, .slice aO nO cO] 24) := ⟨_, rfl⟩
  have hB0 : Below w.heap.size w w0 := by rw [hw0]; exact (Below.refl _ _).alloc (Nat.le_refl _) _
  have hX0 : w0.heap[w.heap.size]? = some (.cells #[.int .i64 st, .slice aN N.length cN, .slice aO nO cO] 24 (0, 0)) := by rw [hw0]; exact heap_alloc_new w _
  have hs0 : w0.heap.size = w.heap.size + 1 := by rw [hw0]; simp
  have HB0 := hid0 hB0
  have HS0 := hid0 hs0
  have HA := hid0 (ha.past hB0)
  have HI := hid0 (hb.past hB0)
  have HE := hid0 (he.below hB0)
  have x0 : w0.cell? ⟨w.heap.size, 0, none⟩ = some (.int .i64 st) := by rw [cell_of_row _ _ _ _ _ _ hX0]; rfl
  have x1 : w0.cell? ⟨w.heap.size, 1, none⟩ = some (.slice aN N.length cN) := by rw [cell_of_row _ _ _ _ _ _ hX0]; rfl
  have HX1 := hid0 x1
  have e0 := HE.out.c0
  have HNr := hid0 hNr
  clear ha hb he hB0 hX0 hNr hs0
  have hfold := hw0.symm
  clear hw0
  have HON := hid0 (fun W => isOneOf_any N.length st W)
  cases h7 : oneOf N.length st with
  | false =>
    rw [h7] at HON
    have HV : Hid (runF N st l = none) := hid0 (by unfold runF; rw [h7]; rfl)
    clear h7
    go_enter Tryd.func8, Tryd.ntmps8
    go_wp2_with (go_at_call 17; refine (HON.out _).mono ?_; rintro e w1 ⟨rfl, hw1⟩; have hw1' := hw1.symm; subst hw1'; clear hw1)
    go_quiet ((fail))
    go_wp2
    go_returns
    refine ⟨.slice none 0 0, ?_, ?_, ?_⟩
    · rw [HV.out]; rfl
    · rw [HV.out]; exact World.ownsRow_nil _ _ _ _
    · exact below_drew' HB0.out _
  | true =>
    rw [h7] at HON
    obtain ⟨s0, hs0⟩ : ∃ s0 : Nat, st = (s0 : Int) := ⟨st.toNat, by have := (oneOf_iff _ _).1 h7; omega⟩
    subst hs0
    have hs0 : s0 < N.length := by have := (oneOf_iff _ _).1 h7; omega
    have HR0 : Hid (goF N [(s0 : Int)] s0 (l.drop 0) = runF N (s0 : Int) l) := hid0 (by unfold runF; rw [h7]; rfl)
    clear h7
    go_enter Tryd.func8, Tryd.ntmps8
    go_wp2_with (first
      | (go_at_call 17; refine (HON.out _).mono ?_; rintro e w1 ⟨rfl, hw1⟩; have hw1' := hw1.symm; subst hw1'; clear hw1)
      | (at_make; refine wpList_make_one rfl _ _ rfl w0.heap.size _ (l.length + 1) rfl rfl (by go_num) (by omega) (by omega) (Nat.le_refl _) ?_; intro w1 hown1 hgrow1; have HO1 := hid0 hown1; have HG1 := hid0 hgrow1; have f1 : w1.frozen? ⟨w0.heap.size, 0, none⟩ = false := World.ownsRow.frozenAt hown1 0; have c1 : w1.cell? ⟨w0.heap.size, 0, none⟩ = some (.int .i64 0) := (World.ownsRow.cellAt hown1 0 (by decide)).trans rfl; clear hown1 hgrow1)
      | fail)
    have HO2 : Hid (OwnI (w1.setCell ⟨w0.heap.size, 0, none⟩ (.int .i64 (s0 : Int))) w0.heap.size (.slice (some ⟨w0.heap.size, 0, none⟩) 1 (l.length + 1)) [(s0 : Int)]) := hid0 (by have h := (World.ownsRow.stored HO1.out 0 (.int .i64 (s0 : Int))).1; exact h)
    have HB2 : Hid (Below w0.heap.size w0 (w1.setCell ⟨w0.heap.size, 0, none⟩ (.int .i64 (s0 : Int)))) := hid0 (((Below.refl _ w0).grown HG1.out (Nat.le_refl _) (fun k hk => by cases hk)).setCell (p := ⟨w0.heap.size, 0, none⟩) (Nat.le_refl _) _)
    clear HO1 HG1
    go_loopw [6, 7, 29] (fun s v i wr => ∃ (k q : Nat) (acc : List Int), k ≤ l.length ∧ q < N.length ∧ s = .int .i64 (q : Int) ∧ i = .int .i64 (k : Int) ∧ Hid (OwnI wr w0.heap.size v acc) ∧ Hid (acc.length = k + 1) ∧ Hid (goF N acc q (l.drop k) = runF N (s0 : Int) l) ∧ Hid (Below w0.heap.size w0 wr)) (fun _ _ i _ => l.length - (intOf i).toNat)
    case atStart => exact ⟨0, s0, [(s0 : Int)], Nat.zero_le _, hs0, rfl, rfl, HO2, hid0 rfl, HR0, HB2⟩
    case round =>
      clear HO2 HB2 HR0 e0 f1 c1 x0 x1 HON
      obtain ⟨k, q, acc, hk, hq, rfl, rfl, HO, HL, HG, HB⟩ := hrel
      have x1 : wr.cell? ⟨w.heap.size, 1, none⟩ = some (.slice aN N.length cN) := (HB.out.cell (p := ⟨w.heap.size, 1, none⟩) (by have := HS0.out; show w.heap.size < w0.heap.size; omega)).trans HX1.out
      have e0 := (HE.out.below HB.out).c0
      by_cases hlt : k < l.length
      · obtain ⟨b, off, rfl, _, d1⟩ := (HI.out.past HB.out).at' k hlt
        obtain ⟨b2, off2, rfl, _, a2, c2, d2, i2⟩ := (HA.out.past HB.out).at' q hq
        have HI2 := hid0 i2
        clear i2
        have hkI : (k : Int) < (l.length : Int) := by omega
        have hkI0 : (0 : Int) ≤ (k : Int) := by omega
        have hqI : (q : Int) < (N.length : Int) := by omega
        have hqI0 : (0 : Int) ≤ (q : Int) := by omega
        have HGD := hid0 (goF_drop (N := N) (acc := acc) (s := q) hlt)
        have hgd := getD_at hq
        have hrl := HNr.out _ (List.getElem_mem hq)
        generalize l[k] = z at *
        by_cases g1 : 0 ≤ z ∧ z < (N[q].length : Int)
        case neg =>
          have HV : Hid (runF N (s0 : Int) l = none) := hid0 (by rw [← HG.out, HGD.out, stepF_none1 (by rw [hgd]; exact g1)])
          have HZ := hid0 ((oneOf_not _ _).2 g1)
          clear HG HGD HO HI2 hgd
          generalize N[q] = r at *
          go_wp2
          go_quiet ((go_at_call 17; exact (oneOf_call HZ.out _).mono (fun _ _ h => ⟨h.1, _, h.2⟩)))
          go_wp2
          go_quiet ((fail))
          go_wp2
          go_returns
          refine ⟨.slice none 0 0, ?_, ?_, ?_⟩
          · rw [HV.out]; rfl
          · rw [HV.out]; exact World.ownsRow_nil _ _ _ _
          · exact Below.later HB0.out (below_drew' (below_drew' HB.out _) _)
        obtain ⟨j, rfl⟩ : ∃ j : Nat, z = (j : Int) := ⟨z.toNat, by omega⟩
        have hj : j < N[q].length := by omega
        have HZ := hid0 ((oneOf_iff _ _).2 g1)
        have HST := hid0 (stepF_at (N := N) (s := q) (k := j) (by rw [hgd]; exact hj))
        have hgj : (N.getD q [])[j]'(by rw [hgd]; exact hj) = N[q][j] := by simp only [hgd]
        rw [hgj] at HST
        clear hgj hgd
        generalize N[q] = r at *
        obtain ⟨b3, off3, rfl, _, d3⟩ := HI2.out.at' j hj
        have hjI : (j : Int) < (r.length : Int) := by omega
        have hjI0 : (0 : Int) ≤ (j : Int) := by omega
        generalize r[j] = t at *
        cases g2 : oneOf N.length t with
        | false =>
          have HT := hid0 g2
          rw [g2] at HST
          have HV : Hid (runF N (s0 : Int) l = none) := hid0 (by rw [← HG.out, HGD.out, HST.out]; rfl)
          clear HG HGD HO HI2 HST g2
          go_wp2
          go_quiet ((go_at_call 17; first | exact (oneOf_call (by first | exact HT.out | exact HZ.out) _).mono (fun _ _ h => ⟨h.1, _, h.2⟩)))
          go_wp2
          go_quiet ((fail))
          go_wp2
          go_returns
          refine ⟨.slice none 0 0, ?_, ?_, ?_⟩
          · rw [HV.out]; rfl
          · rw [HV.out]; exact World.ownsRow_nil _ _ _ _
          · exact Below.later HB0.out (below_drew' (below_drew' HB.out _) _)
        | true =>
          have HT := hid0 g2
          rw [g2] at HST
          have ht := (oneOf_iff _ _).1 g2
          obtain ⟨p, rfl⟩ : ∃ p : Nat, t = (p : Int) := ⟨t.toNat, by omega⟩
          have hp : p < N.length := by omega
          have HG2 : Hid (goF N (acc ++ [(p : Int)]) p (l.drop (k + 1)) = runF N (s0 : Int) l) := hid0 (by rw [← HG.out, HGD.out, HST.out]; rfl)
          have HO' : Hid (wr.ownsRow w0.heap.size 3 1 u7 (k + 1) (acc.map (Value.int .i64))) := hid0 (by have h := HO.out; unfold OwnI at h; rw [HL.out] at h; exact h)
          clear HG HGD HST g2 ht HI2
          obtain ⟨i0, hi, hz0, hz1, hz2⟩ := info_parts infoInt
          go_wp2
          go_quiet ((go_at_call 17; first | exact (oneOf_call (by first | exact HT.out | exact HZ.out) _).mono (fun _ _ h => ⟨h.1, _, h.2⟩)))
          have hsz := HB.out.size
          go_wp2_with (at_builtin; refine wpList_append_own _ rfl _ _ 25 rfl w0.heap.size 3 i0 (.int .i64 0) 1 8 Tryd.underlying25 hi hz0 hz1 hz2 rfl (by decide) _ (k + 1) (acc.map (Value.int .i64)) rfl (World.ownsRow.alloc (show World.ownsRow (World.drewN wr _) _ _ _ _ _ _ from HO'.out) _) ⟨wr.heap.size, 0, none⟩ 1 1 [.int .i64 (p : Int)] rfl rfl (cell_one_new _ _ _) (by simp [Value.oneCell']) (by unfold maxLen; omega) (by omega) (by simp; omega) ?_; intro v2 w4 hown' hgrow _; have HH := hid0 (ownI_snoc (w := w0) (base := w0.heap.size) (L := acc) (c := (p : Int)) (n := k + 1) HL.out.symm (show OwnI (World.drewN wr _) _ _ _ from HO.out) hown' hgrow (below_drew' HB.out _) (Nat.le_refl _)); clear hown' hgrow)
          have HO4 := hid0 HH.out.1
          have HB4 := hid0 HH.out.2
          have HL4 : Hid ((acc ++ [(p : Int)]).length = k + 1 + 1) := hid0 (by rw [List.length_append, HL.out]; rfl)
          clear HH HO HO' HB HL
          go_roundw
          case rel => exact ⟨k + 1, p, _, by omega, hp, rfl, by go_num, HO4, HL4, HG2, HB4⟩
          case measure => simp [intOf]; omega
      · have hkI : ¬ (k : Int) < (l.length : Int) := by omega
        have HV : Hid (runF N (s0 : Int) l = some acc) := hid0 (by rw [← HG.out, List.drop_of_length_le (by omega), goF])
        clear HG
        go_wp2
        go_returns
        refine ⟨u7, ?_, ?_, ?_⟩
        · rw [HV.out]; rfl
        · rw [HV.out]; exact owns_lower HO.out (by have := HS0.out; omega)
        · exact Below.later HB0.out HB.out
end Go.Proofs.YtmbpollfgmdinaaDoor
