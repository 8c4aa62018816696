/-
  PrJW, FjFW, FjLM, PrKW, PrQW, FjNM, FjPW, FjQM.
-/
import Derived.Test.YtekimkdaoblcgaaDoorMff
import Derived.Test.YtekimkdaoblcgaaDoorMfg
import Derived.BigQuiet
import Derived.BigRegion
import Derived.HandedShaped
namespace Go.Proofs.YtekimkdaoblcgaaDoor
open Go.RowKit Go.Shelf
def RDecR (w : World) (ok : Bool) (D : List Int) (e : Ending) (w' : World) : Prop := ∃ v, e = .returned (.tuple #[v, .int .i64 (numC ok)]) ∧ OwnI w' w.heap.size v (if ok then D else []) ∧ Below w.heap.size w w'
theorem all_none {n : Nat} {l : List Int} {k : Nat} (hk : k < l.length) (h : oneOf n l[k] = false) : l.all (oneOf n) = false := by
  rw [List.all_eq_false]
  exact ⟨l[k], List.getElem_mem hk, by rw [h]; simp⟩
set_option maxRecDepth 10000 in
set_option maxHeartbeats 1600000 in
theorem refDecide_good (sl sr : Int) (N O M P : List (List Int)) (B : List Bool) (el : Bool) (aN aO aM aP aB : Option Addr) (cN cO cM cP cB : Nat) (l : List Int) (aw : Option Addr) (cw : Nat) (w : World) (hs : PrS ⟨sl, N, O, sr, M, P, B, el⟩) (ha : PrA w ⟨sl, N, O, sr, M, P, B, el⟩ ⟨aN, aO, aM, aP, aB, cN, cO, cM, cP, cB⟩) (hl : l.length ≤ 1000000000) (hw : IA w aw l) (h1 : chkP sl N O sr M P B.length (symF N : Int) = true) (h2 : l.all (oneOf (symF N)) = true) :
    Calls Tryd.prog 72 #[.agg #[.int .i64 sl, .slice aN N.length cN, .slice aO O.length cO, .int .i64 sr, .slice aM M.length cM, .slice aP P.length cP, .slice aB B.length cB, .bool el], .slice aw l.length cw] w fun e w' => RDecR w true (decF sl N O sr M P l) e w' := by
  obtain ⟨w0, hw0, hB0, hz0, hC0⟩ := box_pr w ⟨sl, N, O, sr, M, P, B, el⟩ ⟨aN, aO, aM, aP, aB, cN, cO, cM, cP, cB⟩
  have HC : Hid (∀ V : World, Below w0.heap.size w0 V → (V.cell? ⟨w.heap.size, 0, none⟩ = some (.int .i64 sl) ∧ V.cell? ⟨w.heap.size, 1, none⟩ = some (.slice aN N.length cN) ∧ V.cell? ⟨w.heap.size, 2, none⟩ = some (.slice aO O.length cO) ∧ V.cell? ⟨w.heap.size, 3, none⟩ = some (.int .i64 sr)) ∧ V.cell? ⟨w.heap.size, 4, none⟩ = some (.slice aM M.length cM) ∧ V.cell? ⟨w.heap.size, 5, none⟩ = some (.slice aP P.length cP) ∧ V.cell? ⟨w.heap.size, 6, none⟩ = some (.slice aB B.length cB) ∧ V.cell? ⟨w.heap.size, 7, none⟩ = some (.bool el)) := hid0 hC0
  replace hw0 : w.alloc (.cells #[.int .i64 sl, .slice aN N.length cN, .slice aO O.length cO, .int .i64 sr, .slice aM M.length cM, .slice aP P.length cP, .slice aB B.length cB, .bool el] 27) = w0 := hw0
  obtain ⟨i0, hi, hy0, hy1, hy2⟩ := info_parts infoInt
  have hf1 : Fine sl N O (symF N) B.length := fine_of (by unfold chkP at h1; simp only [Bool.and_eq_true] at h1; exact h1.1)
  have hf2 : Fine sr M P (symF N) B.length := fine_of (by unfold chkP at h1; simp only [Bool.and_eq_true] at h1; exact h1.2)
  have hsy : ∀ z ∈ l, 0 ≤ z ∧ z < (symF N : Int) := fun z hz => (oneOf_iff _ _).1 (List.all_eq_true.1 h2 z hz)
  have hrev : ∀ z ∈ l.reverse, 0 ≤ z ∧ z < (symF N : Int) := fun z hz => hsy z (List.mem_reverse.1 hz)
  have HAl : Hid (∀ V : World, Below w0.heap.size w0 V → PrA V ⟨sl, N, O, sr, M, P, B, el⟩ ⟨aN, aO, aM, aP, aB, cN, cO, cM, cP, cB⟩ ∧ IA V aw l ∧ Below w.heap.size w V) := hid0 (fun V hV => by
    have h := hB0.trans (hV.mono (by omega))
    exact ⟨ha.past h, hw.past h, h⟩)
  have HSy := hid0 (refSymbols_any sl sr N O M P B el aN aO aM aP aB cN cO cM cP cB w0 hs (HAl.out w0 (Below.refl _ _)).1)
  have HCk : Hid (∀ V : World, Below w0.heap.size w0 V → Calls Tryd.prog 32 #[.agg #[.int .i64 sl, .slice aN N.length cN, .slice aO O.length cO, .int .i64 sr, .slice aM M.length cM, .slice aP P.length cP, .slice aB B.length cB, .bool el], .int .i64 (symF N : Int)] V fun e w' => e = .returned (.int .i64 0) ∧ Below V.heap.size V w') := hid0 (fun V hV => by
    have h := refPairCheck_any sl sr N O M P B el aN aO aM aP aB cN cO cM cP cB (symF N : Int) V hs (HAl.out V hV).1
    rw [h1] at h
    exact h)
  have hrun := hf1.run hsy
  have hrun2 := hf2.run hrev
  have HRu : Hid (∀ V : World, Below w0.heap.size w0 V → Calls Tryd.prog 81 #[.agg #[.int .i64 sl, .slice aN N.length cN, .slice aO O.length cO], .slice aw l.length cw] V fun e w' => ∃ v, e = .returned (.tuple #[v, .int .i64 0]) ∧ OwnI w' V.heap.size v ((List.range (l.length + 1)).map fun k => (stK N sl.toNat l k : Int)) ∧ Below V.heap.size V w') := hid0 (fun V hV => by
    have h := refRun_any sl N l aN aO aw cN O.length cO cw V (fun r hr => by have := hs.nr r hr; omega) (by omega) (HAl.out V hV).1.n.rwa (HAl.out V hV).2.1
    rw [hrun] at h
    exact h)
  have HRu2 : Hid (∀ (V : World) (xt : Option Addr) (ct : Nat), Below w0.heap.size w0 V → IA V xt l.reverse → Calls Tryd.prog 81 #[.agg #[.int .i64 sr, .slice aM M.length cM, .slice aP P.length cP], .slice xt l.length ct] V fun e w' => ∃ v, e = .returned (.tuple #[v, .int .i64 0]) ∧ OwnI w' V.heap.size v ((List.range (l.length + 1)).map fun k => (stK M sr.toNat l.reverse k : Int)) ∧ Below V.heap.size V w') := hid0 (fun V xt ct hV hx => by
    have h := refRun_any sr M l.reverse aM aP xt cM P.length cP ct V (fun r hr => by have := hs.mr r hr; omega) (by rw [List.length_reverse]; omega) (HAl.out V hV).1.m.rwa hx
    rw [hrun2, List.length_reverse] at h
    exact h)
  have HTu : Hid (∀ V : World, Below w0.heap.size w0 V → Calls Tryd.prog 82 #[.slice aw l.length cw] V fun e w' => ∃ v, e = .returned v ∧ OwnI w' V.heap.size v l.reverse ∧ Below V.heap.size V w') := hid0 (fun V hV => turned_any l aw cw V hl (HAl.out V hV).2.1)
  have HS11 : Hid (∀ V : World, Below w0.heap.size w0 V → V.cell? ⟨w.heap.size, 3, none⟩ = some (.int .i64 sr) ∧ V.cell? ⟨w.heap.size, 4, none⟩ = some (.slice aM M.length cM) ∧ V.cell? ⟨w.heap.size, 5, none⟩ = some (.slice aP P.length cP)) := hid0 (fun V hV => ⟨(HC.out V hV).1.2.2.2, (HC.out V hV).2.1, (HC.out V hV).2.2.1⟩)
  have HF1 := hid0 hf1
  have HF2 := hid0 hf2
  have HSl := hid0 hsy
  have HRv := hid0 hrev
  have HOr : Hid (∀ r ∈ O, r.length ≤ 1000000000) := hid0 hs.or
  have HPr : Hid (∀ r ∈ P, r.length ≤ 1000000000) := hid0 hs.pr
  obtain ⟨⟨x0, x1, x2, x3⟩, x4, x5, x6, x7⟩ := HC.out w0 (Below.refl _ _)
  clear hf1 hf2 hsy hrev hrun hrun2 h1 h2 hB0 hC0 hz0 ha hw hs
  generalize hsy : symF N = sy at *
  clear hsy
  go_enter Tryd.func72, Tryd.ntmps72
  go_upto_region 2 with (go_at_call 80; refine HSy.out.mono ?_; rintro e w1 ⟨rfl, hb⟩; have HB1 := hid0 hb; clear hb; clear x0 x1 x2 x3 x4 x5 x6 x7)
  obtain ⟨⟨x0, x1, x2, x3⟩, x4, x5, x6, x7⟩ := HC.out w1 HB1.out
  go_upto_region 5 with (go_at_call 32; refine (HCk.out w1 HB1.out).mono ?_; rintro e w2 ⟨rfl, hb⟩; have HB2 : Hid (Below w0.heap.size w0 w2) := hid0 (HB1.out.trans (hb.mono HB1.out.size)); clear hb; clear x0 x1 x2 x3 x4 x5 x6 x7)
  go_wp2
  go_loopw [8] (fun iv wr => ∃ i : Nat, i ≤ l.length ∧ iv = .int .i64 (i : Int) ∧ wr = w2) (fun iv _ => l.length - (intOf iv).toNat)
  case atStart => exact ⟨0, Nat.zero_le _, rfl, rfl⟩
  case round =>
  obtain ⟨i, hi1, rfl, rfl⟩ := hrel
  by_cases hil : i < l.length
  · have hiI : (i : Int) < (l.length : Int) := by omega
    have hiI0 : (0 : Int) ≤ (i : Int) := by omega
    obtain ⟨b1, o1, rfl, _, d1⟩ := (HAl.out wr HB2.out).2.1.at' i hil
    have hz := HSl.out _ (List.getElem_mem hil)
    generalize l[i] = z at *
    have hz1 : ¬ z < 0 := by omega
    have hz2 : ¬ z ≥ (sy : Int) := by omega
    clear hz
    go_wp2
    go_roundw
    case rel => exact ⟨i + 1, by omega, by go_num, trivial⟩
    case measure => simp [intOf]; omega
  have hiI : ¬ (i : Int) < (l.length : Int) := by omega
  obtain ⟨⟨x0, x1, x2, x3⟩, x4, x5, x6, x7⟩ := HC.out wr HB2.out
  clear hil hi1
  go_upto_region 11 with (go_at_call 81; go_loud ((
    refine (HRu.out wr HB2.out).mono ?_
    rintro e w3 ⟨va, rfl, ho3, hb3⟩
    obtain ⟨xa, ca, hva, ia3⟩ := ho3.ia
    rw [List.length_map, List.length_range] at hva
    subst hva
    have HB3 : Hid (Below w0.heap.size w0 w3) := hid0 (HB2.out.trans (hb3.mono HB2.out.size))
    have HIa := hid0 ia3
    clear ho3 hb3 ia3; clear x0 x1 x2 x3 x4 x5 x6 x7)))
  refine wp_region_noPanic ?_
  refine wp_region_held_drew (S := (fun V => V.cell? ⟨w.heap.size, 3, none⟩ = some (.int .i64 sr) ∧ V.cell? ⟨w.heap.size, 4, none⟩ = some (.slice aM M.length cM) ∧ V.cell? ⟨w.heap.size, 5, none⟩ = some (.slice aP P.length cP))) (by kernel_rfl) ?_ (fun hHeld => ?_)
  · exact HS11.out _ (HB3.out.trans ⟨rfl, rfl, rfl, Nat.le_refl _, fun _ _ => rfl⟩)
  refine tkV (i := 0) (d := some 50) (v := ?_) rfl (by kernel_rfl) (by kernel_rfl) (by kernel_rfl) rfl (fun _ _ _ h => h) (by rfl) ?_ (by assumption) ?_
  rotate_left
  · (intro w hSw; (try dsimp only at hSw); (try simp only [List.getElem_toArray, List.getElem_cons_zero]); go_simp; try with_reducible rfl)
  try simp only [Act.put, List.setIfInBounds_toArray, List.set_cons_zero, List.set_cons_succ]
  refine tkV (i := 1) (d := some 51) (v := ?_) rfl (by kernel_rfl) (by kernel_rfl) (by kernel_rfl) rfl (fun _ _ _ h => h) (by rfl) ?_ (by assumption) ?_
  rotate_left
  · (intro w hSw; (try dsimp only at hSw); (try simp only [List.getElem_toArray, List.getElem_cons_zero, List.getElem_cons_succ]); go_simp; try with_reducible rfl)
  try simp only [Act.put, List.setIfInBounds_toArray, List.set_cons_zero, List.set_cons_succ]
  refine tkV (i := 2) (d := some 52) (v := ?_) rfl (by kernel_rfl) (by kernel_rfl) (by kernel_rfl) rfl (fun _ _ _ h => h) (by rfl) ?_ (by assumption) ?_
  rotate_left
  · (intro w hSw; (try dsimp only at hSw); (try simp only [List.getElem_toArray, List.getElem_cons_zero, List.getElem_cons_succ]); go_simp; try with_reducible rfl)
  try simp only [Act.put, List.setIfInBounds_toArray, List.set_cons_zero, List.set_cons_succ]
  refine wpAnyH_ready (rs := [3]) (by kernel_rfl) (by simp) (AllReadyH.cons rfl (fun K hK => ?_) AllReadyH.nil)
  try simp only [List.getElem_toArray, List.getElem_cons_zero, List.getElem_cons_succ]
  go_simp
  refine (HTu.out w3.drew (HB3.out.trans ⟨rfl, rfl, rfl, Nat.le_refl _, fun _ _ => rfl⟩)).mono ?_
  rintro e w4 ⟨vt, rfl, ho4, hb4⟩
  obtain ⟨xt, ct, hvt, it⟩ := ho4.ia
  rw [List.length_reverse] at hvt
  subst hvt
  have HB34 : Hid (Below w3.heap.size w3 w4) := hid0 ((⟨rfl, rfl, rfl, Nat.le_refl _, fun _ _ => rfl⟩ : Below w3.heap.size w3 w3.drew).trans hb4)
  have HB4 : Hid (Below w0.heap.size w0 w4) := hid0 (HB3.out.trans (HB34.out.mono HB3.out.size))
  have HS4 := hid0 (HS11.out w4 HB4.out)
  have HRr := hid0 (HRu2.out w4 xt ct HB4.out it)
  clear ho4 hb4 it
  go_wp2_with fail
  refine hK.out _ _ ?_ (fun hHeld3 => ?_)
  · exact HS4.out
  clear hK K
  (try simp only [Act.put]); (try simp only [List.setIfInBounds_toArray]); (try simp only [List.set_cons_succ]); (try simp only [List.set_cons_zero])
  refine wpAnyH_ready (rs := [4]) (by kernel_rfl) (by simp) (AllReadyH.cons rfl (fun K hK => ?_) AllReadyH.nil)
  try simp only [List.getElem_toArray, List.getElem_cons_zero, List.getElem_cons_succ]
  go_simp
  refine HRr.out.mono ?_
  rintro e w5 ⟨vb, rfl, ho5, hb5⟩
  obtain ⟨xb, cb, hvb, ib⟩ := ho5.ia
  rw [List.length_map, List.length_range] at hvb
  subst hvb
  have HIb := hid0 ib
  have HB35 : Hid (Below w3.heap.size w3 w5) := hid0 (HB34.out.trans (hb5.mono HB34.out.size))
  have HB5 : Hid (Below w0.heap.size w0 w5) := hid0 (HB4.out.trans (hb5.mono HB4.out.size))
  have HS5 := hid0 (HS11.out w5 HB5.out)
  clear ho5 hb5 ib
  go_wp2_with fail
  refine hK.out _ _ ?_ (fun hHeld4 => ?_)
  · exact HS5.out
  clear hK K
  (try simp only [Act.put]); (try simp only [List.setIfInBounds_toArray]); (try simp only [List.set_cons_succ]); (try simp only [List.set_cons_zero])
  refine tkV (i := 5) (d := some 49) (v := ?_) rfl (by kernel_rfl) (by kernel_rfl) (by kernel_rfl) rfl (fun _ _ _ h => h) (by rfl) ?_ (by assumption) ?_
  rotate_left
  · (intro w hSw; (try dsimp only at hSw); (try simp only [List.getElem_toArray, List.getElem_cons_zero, List.getElem_cons_succ]); go_simp; try with_reducible rfl)
  try simp only [Act.put, List.setIfInBounds_toArray, List.set_cons_zero, List.set_cons_succ]
  refine tkV (i := 6) (d := some 55) (v := ?_) rfl (by kernel_rfl) (by kernel_rfl) (by kernel_rfl) rfl (fun _ _ _ h => h) (by rfl) ?_ (by assumption) ?_
  rotate_left
  · (intro w hSw; (try dsimp only at hSw); (try simp only [List.getElem_toArray, List.getElem_cons_zero, List.getElem_cons_succ]); go_simp; try with_reducible rfl)
  try simp only [Act.put, List.setIfInBounds_toArray, List.set_cons_zero, List.set_cons_succ]
  refine tkV (i := 7) (d := some 56) (v := ?_) rfl (by kernel_rfl) (by kernel_rfl) (by kernel_rfl) rfl (fun _ _ _ h => h) (by rfl) ?_ (by assumption) ?_
  rotate_left
  · (intro w hSw; (try dsimp only at hSw); (try simp only [List.getElem_toArray, List.getElem_cons_zero, List.getElem_cons_succ]); go_simp; try with_reducible rfl)
  try simp only [Act.put, List.setIfInBounds_toArray, List.set_cons_zero, List.set_cons_succ]
  refine tkV (i := 8) (d := some 11) (v := ?_) rfl (by kernel_rfl) (by kernel_rfl) (by kernel_rfl) rfl (fun _ _ _ h => h) (by rfl) ?_ (by assumption) ?_
  rotate_left
  · (intro w hSw; (try dsimp only at hSw); (try simp only [List.getElem_toArray, List.getElem_cons_zero, List.getElem_cons_succ]); go_simp; try with_reducible rfl)
  try simp only [Act.put, List.setIfInBounds_toArray, List.set_cons_zero, List.set_cons_succ]
  refine tkV (i := 9) (d := some 12) (v := ?_) rfl (by kernel_rfl) (by kernel_rfl) (by kernel_rfl) rfl (fun _ _ _ h => h) (by rfl) ?_ (by assumption) ?_
  rotate_left
  · (intro w hSw; (try dsimp only at hSw); (try simp only [List.getElem_toArray, List.getElem_cons_zero, List.getElem_cons_succ]); go_simp; try with_reducible rfl)
  try simp only [Act.put, List.setIfInBounds_toArray, List.set_cons_zero, List.set_cons_succ]
  refine wpAnyH_done (by kernel_rfl) ?_ _
  refine NoPanic.normal ?_
  clear hHeld hHeld3 hHeld4 HS4 HS5
  have HDk : Hid (∀ i, 1 ≤ i → i < l.length → decK sl N O sr M P l (i - 1) = lstF (O.getD (stK N sl.toNat l i) []) (P.getD (stK M sr.toNat l.reverse (l.length - i)) [])) := hid0 (fun i h1 h2 => by
    unfold decK
    rw [show i - 1 + 1 = i by omega, show l.length - 1 - (i - 1) = l.length - i by omega])
  have HDf : Hid (decF sl N O sr M P l = (List.range (l.length - 1)).map (decK sl N O sr M P l)) := hid0 rfl
  have hw5 := (HAl.out w5 HB5.out).2.2
  have HW5 := hid0 hw5
  generalize decK sl N O sr M P l = DK at *
  have HIa5 := hid0 (HIa.out.past HB35.out)
  clear HIa HRr hw5
  go_wp2
  go_loopw [13, 14] (fun v iv wr => ∃ i : Nat, Hid (1 ≤ i ∧ (i ≤ l.length ∨ i = 1)) ∧ iv = .int .i64 (i : Int) ∧ Hid (OwnI wr w5.heap.size v ((List.range (i - 1)).map DK)) ∧ Hid (Below w5.heap.size w5 wr)) (fun _ iv _ => l.length - (intOf iv).toNat)
  case atStart => exact ⟨1, hid0 ⟨Nat.le_refl _, .inr rfl⟩, rfl, hid0 (World.ownsRow_nil _ _ _ _), hid0 (Below.refl _ _)⟩
  case round =>
    obtain ⟨i, HI, rfl, HO, HB⟩ := hrel
    have hbw : Below w0.heap.size w0 wr := HB5.out.trans (HB.out.mono HB5.out.size)
    have HBw := hid0 hbw
    have hsz := HB.out.size
    by_cases hil : i < l.length
    · have hiI : (i : Int) < (l.length : Int) := by omega
      have hiI0 : (0 : Int) ≤ (i : Int) := by omega
      have h1i := HI.out.1
      obtain ⟨ba, hba⟩ : ∃ ba, ba = stK N sl.toNat l i := ⟨_, rfl⟩
      have hbal : ba < N.length := by rw [hba]; exact HF1.out.st HSl.out i (by omega)
      have haO : ba < O.length := by rw [HF1.out.out]; exact hbal
      obtain ⟨j9, hj9⟩ : ∃ j, j = l.length - i := ⟨_, rfl⟩
      obtain ⟨bb, hbb⟩ : ∃ bb, bb = stK M sr.toNat l.reverse j9 := ⟨_, rfl⟩
      have hbbl : bb < M.length := by rw [hbb]; exact HF2.out.st HRv.out j9 (by rw [List.length_reverse]; omega)
      have hbP : bb < P.length := by rw [HF2.out.out]; exact hbbl
      have hpr := (HAl.out wr hbw).1
      obtain ⟨bO, oO, eO, _, a1, c1, e1, i1, _⟩ := hpr.o.at' ba haO
      obtain ⟨bP, oP, eP, _, a2, c2, e6, i2, _⟩ := hpr.p'.at' bb hbP
      have eO' : aO = some ⟨bO, oO, none⟩ := eO
      have eP' : aP = some ⟨bP, oP, none⟩ := eP
      obtain ⟨b8, o8, eA, _, e8⟩ := (HIa5.out.past HB.out).at' i (by simp; omega)
      have hv8 : ((List.range (l.length + 1)).map fun k => (stK N sl.toNat l k : Int))[i]'(by simp; omega) = (ba : Int) := by rw [List.getElem_map, List.getElem_range, hba]
      rw [hv8] at e8
      obtain ⟨b9, o9, eB, _, e9⟩ := (HIb.out.past HB.out).at' j9 (by simp; omega)
      have hv9 : ((List.range (l.length + 1)).map fun k => (stK M sr.toNat l.reverse k : Int))[j9]'(by simp; omega) = (bb : Int) := by rw [List.getElem_map, List.getElem_range, hbb]
      rw [hv9] at e9
      have HDi : Hid (DK (i - 1) = lstF O[ba] P[bb]) := hid0 (by
        rw [HDk.out i h1i hil, ← hba, ← hj9, ← hbb, getD_at haO, getD_at hbP])
      have hr1 := HOr.out _ (List.getElem_mem haO)
      have hr2 := HPr.out _ (List.getElem_mem hbP)
      have HSn : Hid ((List.range (i + 1 - 1)).map DK = (List.range (i - 1)).map DK ++ [lstF O[ba] P[bb]]) := hid0 (by
        rw [← HDi.out, show i + 1 - 1 = (i - 1) + 1 by omega, List.range_succ, List.map_append]
        rfl)
      have hXl : ((List.range (i - 1)).map DK).length ≤ 1000000000 := by rw [List.length_map, List.length_range]; omega
      have hj9I : (l.length : Int) - (i : Int) = (j9 : Int) := by omega
      have hj9W : IntKind.i64.wrap (j9 : Int) = (j9 : Int) := by simp [IntKind.wrap, IntKind.bits, IntKind.signed]; omega
      have hj9a : (j9 : Int) < (l.length : Int) + 1 := by omega
      have hj90 : (0 : Int) ≤ (j9 : Int) := by omega
      have hiA : (i : Int) < (l.length : Int) + 1 := by omega
      have hbaI : (ba : Int) < (O.length : Int) := by omega
      have hba0 : (0 : Int) ≤ (ba : Int) := by omega
      have hbbI : (bb : Int) < (P.length : Int) := by omega
      have hbb0 : (0 : Int) ≤ (bb : Int) := by omega
      subst eO'
      subst eP'
      subst eA
      subst eB
      have e2 := (HC.out wr hbw).1.2.2.1
      have e5 := (HC.out wr hbw).2.2.1
      generalize (List.range (i - 1)).map DK = X at *
      generalize O[ba] = r1 at *
      generalize P[bb] = r2 at *
      have HLe := hid0 (least_any r1 r2 a1 a2 c1 c2 wr.drew hr1 hr2 (i1.past ⟨rfl, rfl, rfl, Nat.le_refl _, fun _ _ => rfl⟩) (i2.past ⟨rfl, rfl, rfl, Nat.le_refl _, fun _ _ => rfl⟩))
      generalize lstF r1 r2 = dv at *
      obtain ⟨pa, pc, ep, _⟩ := HO.out.ia
      subst ep
      clear hba hbal hj9 hbb hbbl hpr eO eP hv8 hv9 HDi i1 i2 hbw h1i HI haO hbP
      go_upto_region 16 with (fail)
      refine wp_region_noPanic ?_
      refine wp_region_held_drew (S := (fun V => V.cell? ⟨w.heap.size, 2, none⟩ = some (.slice (some ⟨bO, oO, none⟩) O.length cO) ∧ V.cell? ⟨w.heap.size, 5, none⟩ = some (.slice (some ⟨bP, oP, none⟩) P.length cP) ∧ V.cell? ⟨b8, o8 + i, none⟩ = some (.int .i64 (ba : Int)) ∧ V.cell? ⟨bO, oO + ba, none⟩ = some (.slice a1 r1.length c1) ∧ V.cell? ⟨b9, o9 + j9, none⟩ = some (.int .i64 (bb : Int)) ∧ V.cell? ⟨bP, oP + bb, none⟩ = some (.slice a2 r2.length c2))) (by kernel_rfl) ?_ (fun hHeld => ?_)
      · exact ⟨e2, e5, e8, e1, e9, e6⟩
      refine tkV (i := 0) (d := some 63) (v := ?_) rfl (by kernel_rfl) (by kernel_rfl) (by kernel_rfl) rfl (fun _ _ _ h => h) (by rfl) ?_ (by assumption) ?_
      rotate_left
      · (intro w hSw; (try dsimp only at hSw); (try simp only [List.getElem_toArray, List.getElem_cons_zero]); go_simp; try with_reducible rfl)
      try simp only [Act.put, List.setIfInBounds_toArray, List.set_cons_zero, List.set_cons_succ]
      refine tkV (i := 1) (d := some 64) (v := ?_) rfl (by kernel_rfl) (by kernel_rfl) (by kernel_rfl) rfl (fun _ _ _ h => h) (by rfl) ?_ (by assumption) ?_
      rotate_left
      · (intro w hSw; (try dsimp only at hSw); (try simp only [List.getElem_toArray, List.getElem_cons_zero, List.getElem_cons_succ]); go_simp; try with_reducible rfl)
      try simp only [Act.put, List.setIfInBounds_toArray, List.set_cons_zero, List.set_cons_succ]
      refine tkV (i := 2) (d := some 65) (v := ?_) rfl (by kernel_rfl) (by kernel_rfl) (by kernel_rfl) rfl (fun _ _ _ h => h) (by rfl) ?_ (by assumption) ?_
      rotate_left
      · (intro w hSw; (try dsimp only at hSw); (try simp only [List.getElem_toArray, List.getElem_cons_zero, List.getElem_cons_succ]); go_simp; try with_reducible rfl)
      try simp only [Act.put, List.setIfInBounds_toArray, List.set_cons_zero, List.set_cons_succ]
      refine tkV (i := 3) (d := some 66) (v := ?_) rfl (by kernel_rfl) (by kernel_rfl) (by kernel_rfl) rfl (fun _ _ _ h => h) (by rfl) ?_ (by assumption) ?_
      rotate_left
      · (intro w hSw; (try dsimp only at hSw); (try simp only [List.getElem_toArray, List.getElem_cons_zero, List.getElem_cons_succ]); go_simp; try with_reducible rfl)
      try simp only [Act.put, List.setIfInBounds_toArray, List.set_cons_zero, List.set_cons_succ]
      refine tkV (i := 4) (d := some 67) (v := ?_) rfl (by kernel_rfl) (by kernel_rfl) (by kernel_rfl) rfl (fun _ _ _ h => h) (by rfl) ?_ (by assumption) ?_
      rotate_left
      · (intro w hSw; (try dsimp only at hSw); (try simp only [List.getElem_toArray, List.getElem_cons_zero, List.getElem_cons_succ]); go_simp; try with_reducible rfl)
      try simp only [Act.put, List.setIfInBounds_toArray, List.set_cons_zero, List.set_cons_succ]
      refine tkV (i := 5) (d := some 68) (v := ?_) rfl (by kernel_rfl) (by kernel_rfl) (by kernel_rfl) rfl (fun _ _ _ h => h) (by rfl) ?_ (by assumption) ?_
      rotate_left
      · (intro w hSw; (try dsimp only at hSw); (try simp only [List.getElem_toArray, List.getElem_cons_zero, List.getElem_cons_succ]); go_simp; try with_reducible rfl)
      try simp only [Act.put, List.setIfInBounds_toArray, List.set_cons_zero, List.set_cons_succ]
      refine tkV (i := 6) (d := some 69) (v := ?_) rfl (by kernel_rfl) (by kernel_rfl) (by kernel_rfl) rfl (fun _ _ _ h => h) (by rfl) ?_ (by assumption) ?_
      rotate_left
      · (intro w hSw; (try dsimp only at hSw); (try simp only [List.getElem_toArray, List.getElem_cons_zero, List.getElem_cons_succ]); go_simp; try with_reducible rfl)
      try simp only [Act.put, List.setIfInBounds_toArray, List.set_cons_zero, List.set_cons_succ]
      refine tkV (i := 7) (d := some 70) (v := ?_) rfl (by kernel_rfl) (by kernel_rfl) (by kernel_rfl) rfl (fun _ _ _ h => h) (by rfl) ?_ (by assumption) ?_
      rotate_left
      · (intro w hSw; (try dsimp only at hSw); (try simp only [List.getElem_toArray, List.getElem_cons_zero, List.getElem_cons_succ]); go_simp; try with_reducible rfl)
      try simp only [Act.put, List.setIfInBounds_toArray, List.set_cons_zero, List.set_cons_succ]
      refine tkV (i := 8) (d := some 71) (v := ?_) rfl (by kernel_rfl) (by kernel_rfl) (by kernel_rfl) rfl (fun _ _ _ h => h) (by rfl) ?_ (by assumption) ?_
      rotate_left
      · (intro w hSw; (try dsimp only at hSw); (try simp only [List.getElem_toArray, List.getElem_cons_zero, List.getElem_cons_succ]); go_simp; try with_reducible rfl)
      try simp only [Act.put, List.setIfInBounds_toArray, List.set_cons_zero, List.set_cons_succ]
      refine tkV (i := 9) (d := some 72) (v := ?_) rfl (by kernel_rfl) (by kernel_rfl) (by kernel_rfl) rfl (fun _ _ _ h => h) (by rfl) ?_ (by assumption) ?_
      rotate_left
      · (intro w hSw; (try dsimp only at hSw); (try simp only [List.getElem_toArray, List.getElem_cons_zero, List.getElem_cons_succ]); go_simp; try with_reducible rfl)
      try simp only [Act.put, List.setIfInBounds_toArray, List.set_cons_zero, List.set_cons_succ]
      refine tkV (i := 10) (d := some 73) (v := ?_) rfl (by kernel_rfl) (by kernel_rfl) (by kernel_rfl) rfl (fun _ _ _ h => h) (by rfl) ?_ (by assumption) ?_
      rotate_left
      · (intro w hSw; (try dsimp only at hSw); (try simp only [List.getElem_toArray, List.getElem_cons_zero, List.getElem_cons_succ]); go_simp; try with_reducible rfl)
      try simp only [Act.put, List.setIfInBounds_toArray, List.set_cons_zero, List.set_cons_succ]
      refine tkV (i := 11) (d := some 74) (v := ?_) rfl (by kernel_rfl) (by kernel_rfl) (by kernel_rfl) rfl (fun _ _ _ h => h) (by rfl) ?_ (by assumption) ?_
      rotate_left
      · (intro w hSw; (try dsimp only at hSw); (try simp only [List.getElem_toArray, List.getElem_cons_zero, List.getElem_cons_succ]); go_simp; try with_reducible rfl)
      try simp only [Act.put, List.setIfInBounds_toArray, List.set_cons_zero, List.set_cons_succ]
      refine tkV (i := 12) (d := some 75) (v := ?_) rfl (by kernel_rfl) (by kernel_rfl) (by kernel_rfl) rfl (fun _ _ _ h => h) (by rfl) ?_ (by assumption) ?_
      rotate_left
      · (intro w hSw; (try dsimp only at hSw); (try simp only [List.getElem_toArray, List.getElem_cons_zero, List.getElem_cons_succ]); go_simp; try with_reducible rfl)
      try simp only [Act.put, List.setIfInBounds_toArray, List.set_cons_zero, List.set_cons_succ]
      refine tkV (i := 13) (d := some 76) (v := ?_) rfl (by kernel_rfl) (by kernel_rfl) (by kernel_rfl) rfl (fun _ _ _ h => h) (by rfl) ?_ (by assumption) ?_
      rotate_left
      · (intro w hSw; (try dsimp only at hSw); (try simp only [List.getElem_toArray, List.getElem_cons_zero, List.getElem_cons_succ]); go_simp; try with_reducible rfl)
      try simp only [Act.put, List.setIfInBounds_toArray, List.set_cons_zero, List.set_cons_succ]
      refine tkV (i := 14) (d := some 77) (v := ?_) rfl (by kernel_rfl) (by kernel_rfl) (by kernel_rfl) rfl (fun _ _ _ h => h) (by rfl) ?_ (by assumption) ?_
      rotate_left
      · (intro w hSw; (try dsimp only at hSw); (try simp only [List.getElem_toArray, List.getElem_cons_zero, List.getElem_cons_succ]); go_simp; try with_reducible rfl)
      try simp only [Act.put, List.setIfInBounds_toArray, List.set_cons_zero, List.set_cons_succ]
      refine tkV (i := 15) (d := some 78) (v := ?_) rfl (by kernel_rfl) (by kernel_rfl) (by kernel_rfl) rfl (fun _ _ _ h => h) (by rfl) ?_ (by assumption) ?_
      rotate_left
      · (intro w hSw; (try dsimp only at hSw); (try simp only [List.getElem_toArray, List.getElem_cons_zero, List.getElem_cons_succ]); go_simp; try with_reducible rfl)
      try simp only [Act.put, List.setIfInBounds_toArray, List.set_cons_zero, List.set_cons_succ]
      refine tkV (i := 16) (d := some 79) (v := ?_) rfl (by kernel_rfl) (by kernel_rfl) (by kernel_rfl) rfl (fun _ _ _ h => h) (by rfl) ?_ (by assumption) ?_
      rotate_left
      · (intro w hSw; (try dsimp only at hSw); (try simp only [List.getElem_toArray, List.getElem_cons_zero, List.getElem_cons_succ]); go_simp; try with_reducible rfl)
      try simp only [Act.put, List.setIfInBounds_toArray, List.set_cons_zero, List.set_cons_succ]
      refine tkV (i := 17) (d := some 80) (v := ?_) rfl (by kernel_rfl) (by kernel_rfl) (by kernel_rfl) rfl (fun _ _ _ h => h) (by rfl) ?_ (by assumption) ?_
      rotate_left
      · (intro w hSw; (try dsimp only at hSw); (try simp only [List.getElem_toArray, List.getElem_cons_zero, List.getElem_cons_succ]); go_simp; try with_reducible rfl)
      try simp only [Act.put, List.setIfInBounds_toArray, List.set_cons_zero, List.set_cons_succ]
      refine tkV (i := 18) (d := some 81) (v := ?_) rfl (by kernel_rfl) (by kernel_rfl) (by kernel_rfl) rfl (fun _ _ _ h => h) (by rfl) ?_ (by assumption) ?_
      rotate_left
      · (intro w hSw; (try dsimp only at hSw); (try simp only [List.getElem_toArray, List.getElem_cons_zero, List.getElem_cons_succ]); go_simp; try with_reducible rfl)
      try simp only [Act.put, List.setIfInBounds_toArray, List.set_cons_zero, List.set_cons_succ]
      refine tkV (i := 19) (d := some 82) (v := ?_) rfl (by kernel_rfl) (by kernel_rfl) (by kernel_rfl) rfl (fun _ _ _ h => h) (by rfl) ?_ (by assumption) ?_
      rotate_left
      · (intro w hSw; (try dsimp only at hSw); (try simp only [List.getElem_toArray, List.getElem_cons_zero, List.getElem_cons_succ]); go_simp; try with_reducible rfl)
      try simp only [Act.put, List.setIfInBounds_toArray, List.set_cons_zero, List.set_cons_succ]
      refine tkV (i := 20) (d := some 83) (v := ?_) rfl (by kernel_rfl) (by kernel_rfl) (by kernel_rfl) rfl (fun _ _ _ h => h) (by rfl) ?_ (by assumption) ?_
      rotate_left
      · (intro w hSw; (try dsimp only at hSw); (try simp only [List.getElem_toArray, List.getElem_cons_zero, List.getElem_cons_succ]); go_simp; try with_reducible rfl)
      try simp only [Act.put, List.setIfInBounds_toArray, List.set_cons_zero, List.set_cons_succ]
      refine wpAnyH_ready (rs := [21]) (by kernel_rfl) (by simp) (AllReadyH.cons rfl (fun K hK => ?_) AllReadyH.nil)
      try simp only [List.getElem_toArray, List.getElem_cons_zero, List.getElem_cons_succ]
      go_simp
      refine HLe.out.mono ?_
      rintro e w6 ⟨rfl, nq, hw6⟩
      have HS6 : Hid ((fun V => V.cell? ⟨w.heap.size, 2, none⟩ = some (.slice (some ⟨bO, oO, none⟩) O.length cO) ∧ V.cell? ⟨w.heap.size, 5, none⟩ = some (.slice (some ⟨bP, oP, none⟩) P.length cP) ∧ V.cell? ⟨b8, o8 + i, none⟩ = some (.int .i64 (ba : Int)) ∧ V.cell? ⟨bO, oO + ba, none⟩ = some (.slice a1 r1.length c1) ∧ V.cell? ⟨b9, o9 + j9, none⟩ = some (.int .i64 (bb : Int)) ∧ V.cell? ⟨bP, oP + bb, none⟩ = some (.slice a2 r2.length c2)) w6) := hid0 (by rw [hw6]; exact ⟨e2, e5, e8, e1, e9, e6⟩)
      have HB6 : Hid (Below wr.heap.size wr w6) := hid0 (by rw [hw6]; exact ⟨rfl, rfl, rfl, Nat.le_refl _, fun _ _ => rfl⟩)
      clear hw6
      go_wp2_with fail
      refine hK.out _ _ ?_ (fun hHeld21 => ?_)
      · exact HS6.out
      clear hK K
      (try simp only [Act.put]); (try simp only [List.setIfInBounds_toArray]); (try simp only [List.set_cons_succ]); (try simp only [List.set_cons_zero])
      refine tkV (i := 22) (d := some 15) (v := ?_) rfl (by kernel_rfl) (by kernel_rfl) (by kernel_rfl) rfl (fun _ _ _ h => h) (by rfl) ?_ (by assumption) ?_
      rotate_left
      · (intro w hSw; (try dsimp only at hSw); (try simp only [List.getElem_toArray, List.getElem_cons_zero, List.getElem_cons_succ]); go_simp; try with_reducible rfl)
      try simp only [Act.put, List.setIfInBounds_toArray, List.set_cons_zero, List.set_cons_succ]
      refine wpAnyH_done (by kernel_rfl) ?_ _
      refine NoPanic.normal ?_
      clear hHeld hHeld21
      have hs6 := HB6.out.size
      go_wp2_with (at_builtin; go_loud ((
        refine wpList_append_own_at _ rfl _ _ 28 rfl w5.heap.size 3 i0 (.int .i64 0) 1 8 Tryd.underlying28 hi hy0 hy1 hy2 rfl (by decide) _ X.length (X.map (Value.int .i64)) rfl (World.ownsRow.alloc (HO.out.past HB6.out) _) ⟨w6.heap.size, 0, none⟩ 1 1 [.int .i64 dv] rfl rfl (cell_one_new _ _ _) (by simp [Value.oneCell']) (by unfold maxLen; omega) (by omega) (by simp; omega) ?_
        intro v3 w7 hown3 hgrow3 _ _
        have R := ownI_snoc rfl (HO.out.past HB6.out) hown3 hgrow3 (HB.out.trans (HB6.out.mono HB.out.size)) (Nat.le_refl _)
        have HO3 := hid0 R.1
        have HB7 := hid0 R.2
        clear R hown3 hgrow3)))
      go_roundw
      case rel => exact ⟨i + 1, hid0 (by omega), by go_num, hid0 (by rw [HSn.out]; exact HO3.out), HB7⟩
      case measure => simp [intOf]; omega
    · have hiI : ¬ (i : Int) < (l.length : Int) := by omega
      have HFi : Hid ((List.range (i - 1)).map DK = decF sl N O sr M P l) := hid0 (by
        rw [HDf.out]
        have := HI.out
        rw [show i - 1 = l.length - 1 by omega])
      rw [HFi.out] at HO
      obtain ⟨pa, pc, ep, _⟩ := HO.out.ia
      subst ep
      have HFin : Hid (RDecR w true (decF sl N O sr M P l) (.returned (.tuple #[.slice pa (decF sl N O sr M P l).length pc, .int .i64 0])) wr) := hid0 ⟨_, rfl, by rw [if_pos rfl]; exact owns_lower HO.out HW5.out.size, HW5.out.trans (HB.out.mono HW5.out.size)⟩
      clear hbw hil
      go_wp2
      go_returns
      exact HFin.out
set_option maxRecDepth 10000 in
set_option maxHeartbeats 1600000 in
theorem refDecide_no (sl sr : Int) (N O M P : List (List Int)) (B : List Bool) (el : Bool) (aN aO aM aP aB : Option Addr) (cN cO cM cP cB : Nat) (l : List Int) (aw : Option Addr) (cw : Nat) (w : World) (hs : PrS ⟨sl, N, O, sr, M, P, B, el⟩) (ha : PrA w ⟨sl, N, O, sr, M, P, B, el⟩ ⟨aN, aO, aM, aP, aB, cN, cO, cM, cP, cB⟩) (hw : IA w aw l) (h1 : chkP sl N O sr M P B.length (symF N : Int) = false) :
    Calls Tryd.prog 72 #[.agg #[.int .i64 sl, .slice aN N.length cN, .slice aO O.length cO, .int .i64 sr, .slice aM M.length cM, .slice aP P.length cP, .slice aB B.length cB, .bool el], .slice aw l.length cw] w fun e w' => RDecR w false (decF sl N O sr M P l) e w' := by
  obtain ⟨w0, hw0, hB0, hz0, hC0⟩ := box_pr w ⟨sl, N, O, sr, M, P, B, el⟩ ⟨aN, aO, aM, aP, aB, cN, cO, cM, cP, cB⟩
  have HC : Hid (∀ V : World, Below w0.heap.size w0 V → (V.cell? ⟨w.heap.size, 0, none⟩ = some (.int .i64 sl) ∧ V.cell? ⟨w.heap.size, 1, none⟩ = some (.slice aN N.length cN) ∧ V.cell? ⟨w.heap.size, 2, none⟩ = some (.slice aO O.length cO) ∧ V.cell? ⟨w.heap.size, 3, none⟩ = some (.int .i64 sr)) ∧ V.cell? ⟨w.heap.size, 4, none⟩ = some (.slice aM M.length cM) ∧ V.cell? ⟨w.heap.size, 5, none⟩ = some (.slice aP P.length cP) ∧ V.cell? ⟨w.heap.size, 6, none⟩ = some (.slice aB B.length cB) ∧ V.cell? ⟨w.heap.size, 7, none⟩ = some (.bool el)) := hid0 hC0
  replace hw0 : w.alloc (.cells #[.int .i64 sl, .slice aN N.length cN, .slice aO O.length cO, .int .i64 sr, .slice aM M.length cM, .slice aP P.length cP, .slice aB B.length cB, .bool el] 27) = w0 := hw0
  have HAl : Hid (∀ V : World, Below w0.heap.size w0 V → PrA V ⟨sl, N, O, sr, M, P, B, el⟩ ⟨aN, aO, aM, aP, aB, cN, cO, cM, cP, cB⟩ ∧ IA V aw l ∧ Below w.heap.size w V) := hid0 (fun V hV => by
    have h := hB0.trans (hV.mono (by omega))
    exact ⟨ha.past h, hw.past h, h⟩)
  have HSy := hid0 (refSymbols_any sl sr N O M P B el aN aO aM aP aB cN cO cM cP cB w0 hs (HAl.out w0 (Below.refl _ _)).1)
  have HCk : Hid (∀ V : World, Below w0.heap.size w0 V → Calls Tryd.prog 32 #[.agg #[.int .i64 sl, .slice aN N.length cN, .slice aO O.length cO, .int .i64 sr, .slice aM M.length cM, .slice aP P.length cP, .slice aB B.length cB, .bool el], .int .i64 (symF N : Int)] V fun e w' => e = .returned (.int .i64 1) ∧ Below V.heap.size V w') := hid0 (fun V hV => by
    have h := refPairCheck_any sl sr N O M P B el aN aO aM aP aB cN cO cM cP cB (symF N : Int) V hs (HAl.out V hV).1
    rw [h1] at h
    exact h)
  obtain ⟨⟨x0, x1, x2, x3⟩, x4, x5, x6, x7⟩ := HC.out w0 (Below.refl _ _)
  clear h1 hB0 hC0 hz0 ha hw hs
  generalize symF N = sy at *
  go_enter Tryd.func72, Tryd.ntmps72
  go_upto_region 2 with (go_at_call 80; refine HSy.out.mono ?_; rintro e w1 ⟨rfl, hb⟩; have HB1 := hid0 hb; clear hb; clear x0 x1 x2 x3 x4 x5 x6 x7)
  obtain ⟨⟨x0, x1, x2, x3⟩, x4, x5, x6, x7⟩ := HC.out w1 HB1.out
  go_wp2_with (go_at_call 32; refine (HCk.out w1 HB1.out).mono ?_; rintro e w2 ⟨rfl, hb⟩; have HB2 : Hid (Below w0.heap.size w0 w2) := hid0 (HB1.out.trans (hb.mono HB1.out.size)); clear hb; clear x0 x1 x2 x3 x4 x5 x6 x7)
  go_returns
  exact ⟨_, rfl, World.ownsRow_nil _ _ _ _, (HAl.out w2 HB2.out).2.2⟩
set_option maxRecDepth 10000 in
set_option maxHeartbeats 1600000 in
theorem refDecide_bad (sl sr : Int) (N O M P : List (List Int)) (B : List Bool) (el : Bool) (aN aO aM aP aB : Option Addr) (cN cO cM cP cB : Nat) (l : List Int) (aw : Option Addr) (cw : Nat) (w : World) (hs : PrS ⟨sl, N, O, sr, M, P, B, el⟩) (ha : PrA w ⟨sl, N, O, sr, M, P, B, el⟩ ⟨aN, aO, aM, aP, aB, cN, cO, cM, cP, cB⟩) (hl : l.length ≤ 1000000000) (hw : IA w aw l) (h1 : chkP sl N O sr M P B.length (symF N : Int) = true) (h2 : l.all (oneOf (symF N)) = false) :
    Calls Tryd.prog 72 #[.agg #[.int .i64 sl, .slice aN N.length cN, .slice aO O.length cO, .int .i64 sr, .slice aM M.length cM, .slice aP P.length cP, .slice aB B.length cB, .bool el], .slice aw l.length cw] w fun e w' => RDecR w false (decF sl N O sr M P l) e w' := by
  obtain ⟨w0, hw0, hB0, hz0, hC0⟩ := box_pr w ⟨sl, N, O, sr, M, P, B, el⟩ ⟨aN, aO, aM, aP, aB, cN, cO, cM, cP, cB⟩
  have HC : Hid (∀ V : World, Below w0.heap.size w0 V → (V.cell? ⟨w.heap.size, 0, none⟩ = some (.int .i64 sl) ∧ V.cell? ⟨w.heap.size, 1, none⟩ = some (.slice aN N.length cN) ∧ V.cell? ⟨w.heap.size, 2, none⟩ = some (.slice aO O.length cO) ∧ V.cell? ⟨w.heap.size, 3, none⟩ = some (.int .i64 sr)) ∧ V.cell? ⟨w.heap.size, 4, none⟩ = some (.slice aM M.length cM) ∧ V.cell? ⟨w.heap.size, 5, none⟩ = some (.slice aP P.length cP) ∧ V.cell? ⟨w.heap.size, 6, none⟩ = some (.slice aB B.length cB) ∧ V.cell? ⟨w.heap.size, 7, none⟩ = some (.bool el)) := hid0 hC0
  replace hw0 : w.alloc (.cells #[.int .i64 sl, .slice aN N.length cN, .slice aO O.length cO, .int .i64 sr, .slice aM M.length cM, .slice aP P.length cP, .slice aB B.length cB, .bool el] 27) = w0 := hw0
  have HAl : Hid (∀ V : World, Below w0.heap.size w0 V → PrA V ⟨sl, N, O, sr, M, P, B, el⟩ ⟨aN, aO, aM, aP, aB, cN, cO, cM, cP, cB⟩ ∧ IA V aw l ∧ Below w.heap.size w V) := hid0 (fun V hV => by
    have h := hB0.trans (hV.mono (by omega))
    exact ⟨ha.past h, hw.past h, h⟩)
  have HSy := hid0 (refSymbols_any sl sr N O M P B el aN aO aM aP aB cN cO cM cP cB w0 hs (HAl.out w0 (Below.refl _ _)).1)
  have HCk : Hid (∀ V : World, Below w0.heap.size w0 V → Calls Tryd.prog 32 #[.agg #[.int .i64 sl, .slice aN N.length cN, .slice aO O.length cO, .int .i64 sr, .slice aM M.length cM, .slice aP P.length cP, .slice aB B.length cB, .bool el], .int .i64 (symF N : Int)] V fun e w' => e = .returned (.int .i64 0) ∧ Below V.heap.size V w') := hid0 (fun V hV => by
    have h := refPairCheck_any sl sr N O M P B el aN aO aM aP aB cN cO cM cP cB (symF N : Int) V hs (HAl.out V hV).1
    rw [h1] at h
    exact h)
  obtain ⟨⟨x0, x1, x2, x3⟩, x4, x5, x6, x7⟩ := HC.out w0 (Below.refl _ _)
  have H2 := hid0 h2
  clear h1 hB0 hC0 hz0 ha hw hs h2
  generalize symF N = sy at *
  go_enter Tryd.func72, Tryd.ntmps72
  go_upto_region 2 with (go_at_call 80; refine HSy.out.mono ?_; rintro e w1 ⟨rfl, hb⟩; have HB1 := hid0 hb; clear hb; clear x0 x1 x2 x3 x4 x5 x6 x7)
  obtain ⟨⟨x0, x1, x2, x3⟩, x4, x5, x6, x7⟩ := HC.out w1 HB1.out
  go_upto_region 5 with (go_at_call 32; refine (HCk.out w1 HB1.out).mono ?_; rintro e w2 ⟨rfl, hb⟩; have HB2 : Hid (Below w0.heap.size w0 w2) := hid0 (HB1.out.trans (hb.mono HB1.out.size)); clear hb; clear x0 x1 x2 x3 x4 x5 x6 x7)
  go_wp2
  go_loopw [8] (fun iv wr => ∃ i : Nat, i ≤ l.length ∧ iv = .int .i64 (i : Int) ∧ Hid ((l.drop i).all (oneOf sy) = false) ∧ wr = w2) (fun iv _ => l.length - (intOf iv).toNat)
  case atStart => exact ⟨0, Nat.zero_le _, rfl, H2, rfl⟩
  case round =>
  obtain ⟨i, hi1, rfl, HD, rfl⟩ := hrel
  by_cases hil : i < l.length
  · have hiI : (i : Int) < (l.length : Int) := by omega
    have hiI0 : (0 : Int) ≤ (i : Int) := by omega
    obtain ⟨b1, o1, rfl, _, d1⟩ := (HAl.out wr HB2.out).2.1.at' i hil
    have HDi := hid0 HD.out
    rw [List.drop_eq_getElem_cons hil, List.all_cons] at HDi
    generalize l[i] = z at *
    have HFin : Hid (RDecR w false (decF sl N O sr M P l) (.returned (.tuple #[.slice none 0 0, .int .i64 1])) wr) := hid0 ⟨_, rfl, World.ownsRow_nil _ _ _ _, (HAl.out wr HB2.out).2.2⟩
    by_cases hz1 : z < 0
    · clear HDi
      go_wp2
      go_returns
      exact HFin.out
    · by_cases hz2 : z ≥ (sy : Int)
      · clear HDi
        go_wp2
        go_returns
        exact HFin.out
      · have HD2 : Hid ((l.drop (i + 1)).all (oneOf sy) = false) := hid0 (by
          have h := HDi.out
          rw [(oneOf_iff sy z).2 (by omega), Bool.true_and] at h
          exact h)
        clear HDi HFin
        go_wp2
        go_roundw
        case rel => exact ⟨i + 1, by omega, by go_num, HD2, trivial⟩
        case measure => simp [intOf]; omega
  · exfalso
    have h := HD.out
    rw [List.drop_eq_nil_of_le (by omega)] at h
    cases h
theorem refDecide_any (sl sr : Int) (N O M P : List (List Int)) (B : List Bool) (el : Bool) (aN aO aM aP aB : Option Addr) (cN cO cM cP cB : Nat) (l : List Int) (aw : Option Addr) (cw : Nat) (w : World) (hs : PrS ⟨sl, N, O, sr, M, P, B, el⟩) (ha : PrA w ⟨sl, N, O, sr, M, P, B, el⟩ ⟨aN, aO, aM, aP, aB, cN, cO, cM, cP, cB⟩) (hl : l.length ≤ 1000000000) (hw : IA w aw l) :
    Calls Tryd.prog 72 #[.agg #[.int .i64 sl, .slice aN N.length cN, .slice aO O.length cO, .int .i64 sr, .slice aM M.length cM, .slice aP P.length cP, .slice aB B.length cB, .bool el], .slice aw l.length cw] w fun e w' => RDecR w (okD sl N O sr M P B.length l) (decF sl N O sr M P l) e w' := by
  unfold okD
  cases h1 : chkP sl N O sr M P B.length (symF N : Int) with
  | false => exact refDecide_no sl sr N O M P B el aN aO aM aP aB cN cO cM cP cB l aw cw w hs ha hw h1
  | true =>
    cases h2 : l.all (oneOf (symF N)) with
    | false => exact refDecide_bad sl sr N O M P B el aN aO aM aP aB cN cO cM cP cB l aw cw w hs ha hl hw h1 h2
    | true => exact refDecide_good sl sr N O M P B el aN aO aM aP aB cN cO cM cP cB l aw cw w hs ha hl hw h1 h2
end Go.Proofs.YtekimkdaoblcgaaDoor
namespace Go.Proofs.YtekimkdaoblcgaaDoor
open Go.RowKit Go.Shelf Go.Maps
theorem has_rhL {E : List (List Int)} (h0 : [] ∉ E) (tr P l : List Int) (bef : Int) (hP : P.length = l.length) (k : Nat) (hk : k < l.length - 1) : decide (((k : Int) + 1) ∈ rhL bef E tr P l) = hdF (decide (0 ≤ bef)) E tr P l (k + 1) := by
  by_cases hb : 0 ≤ bef
  · rw [rhL_same h0 tr P l hb hP]
    exact has_hp _ _ _ hk
  · have e : rhL bef E tr P l = [] := if_pos (.inl (by omega))
    rw [e, decide_eq_false hb, hd_off]
    simp
theorem rhL_len (bef : Int) (E : List (List Int)) (tr P l : List Int) : (rhL bef E tr P l).length ≤ l.length := by
  unfold rhL
  split
  · simp
  · have := hpK_len (rhF E tr P l) (l.length - 1)
    omega
section
variable {w : World} {p : Prg} {q : PrL} {sy bef : Int} {tr : List Int} {E : List (List Int)} {g : RfL}
set_option maxRecDepth 100000 in
set_option maxHeartbeats 4000000 in
theorem refFBreaks_any (P l : List Int) (ap aw : Option Addr) (cp cw : Nat) (h : RfA w p q sy bef tr E g) (hs : RfS p tr E) (hl : l.length ≤ 100000000) (_hl2 : P.length ≤ 100000000) (hp : IA w ap P) (ha : IA w aw l) :
    Calls Tryd.prog 54 #[.pointer (some ⟨g.X, 0, none⟩), .slice ap P.length cp, .slice aw l.length cw] w fun e w' => RDecR w (decide (P.length = l.length) && okD p.sl p.N p.O p.sr p.M p.P p.B.length l) (fbF (decF p.sl p.N p.O p.sr p.M p.P l) p.B p.el bef (hdF (decide (0 ≤ bef)) E tr P l) l.length) e w' := by
  by_cases hP : P.length = l.length
  · have hPI : (P.length : Int) = (l.length : Int) := by omega
    rw [decide_eq_true hP, Bool.true_and]
    have HDe := hid0 (refDecide_any p.sl p.sr p.N p.O p.M p.P p.B p.el q.aN q.aO q.aM q.aP q.aB q.cN q.cO q.cM q.cP q.cB l aw cw w hs.ps h.pr (by omega) ha)
    obtain ⟨⟨x0, x1, x2, x3⟩, x4, x5, x6, x7⟩ := h.pc
    obtain ⟨i0, hi, hy0, hy1, hy2⟩ := info_parts infoInt
    cases hok : okD p.sl p.N p.O p.sr p.M p.P p.B.length l with
    | false =>
      rw [hok] at HDe
      unfold RDecR at HDe
      rw [show numC false = 1 from rfl] at HDe
      clear hok h hs hp ha hP
      go_enter Tryd.func54, Tryd.ntmps54
      go_wp2_with (go_at_call 72; go_loud ((
        refine HDe.out.mono ?_
        rintro e w1 ⟨v, rfl, ho1, hb1⟩
        have HB1 := hid0 hb1
        clear ho1 hb1)))
      go_returns
      exact ⟨_, rfl, World.ownsRow_nil _ _ _ _, HB1.out⟩
    | true =>
      have HLt := hid0 (dec_lt hok)
      have HLn : Hid ((decF p.sl p.N p.O p.sr p.M p.P l).length = l.length - 1) := hid0 (by unfold decF; simp)
      rw [hok] at HDe
      unfold RDecR at HDe
      simp only [if_true] at HDe
      rw [show numC true = 0 from rfl] at HDe
      have HR := hid0 h
      have HS := hid0 hs
      have HP := hid0 hp
      have HA := hid0 ha
      have HPl := hid0 hP
      clear hok h hs hp ha hP
      generalize decF p.sl p.N p.O p.sr p.M p.P l = D at *
      have hDl : D.length ≤ 100000000 := by have := HLn.out; omega
      by_cases h0 : l.length = 0
      · have h0I : (l.length : Int) = 0 := by omega
        have h0b : ((l.length : Int) == 0) = true := by rw [beq_iff_eq]; omega
        have HV : Hid (fbF D p.B p.el bef (hdF (decide (0 ≤ bef)) E tr P l) l.length = []) := hid0 (by unfold fbF; rw [if_pos h0])
        clear h0
        go_enter Tryd.func54, Tryd.ntmps54
        go_wp2_with (go_at_call 72; go_loud ((
          refine HDe.out.mono ?_
          rintro e w1 ⟨v, rfl, ho1, hb1⟩
          have HB1 := hid0 hb1
          clear ho1 hb1)))
        go_returns
        exact ⟨_, rfl, by rw [if_pos rfl, HV.out]; exact World.ownsRow_nil _ _ _ _, HB1.out⟩
      · have h0I : ¬ (l.length : Int) = 0 := by omega
        have h0b : ((l.length : Int) == 0) = false := by rw [beq_eq_false_iff_ne]; exact h0I
        have h0n : ¬ l = [] := fun e => h0 (by rw [e]; rfl)
        have HV : Hid (fbF D p.B p.el bef (hdF (decide (0 ≤ bef)) E tr P l) l.length = (0 :: fbK D p.B p.el bef (hdF (decide (0 ≤ bef)) E tr P l) D.length) ++ [(l.length : Int)]) := hid0 (by unfold fbF; rw [if_neg h0]; rfl)
        have HHl : Hid (∀ k, k < l.length - 1 → decide (((k : Int) + 1) ∈ rhL bef E tr P l) = hdF (decide (0 ≤ bef)) E tr P l (k + 1)) := hid0 (fun k hk => has_rhL HS.out.ne tr P l bef HPl.out k hk)
        have HHn := rhL_len bef E tr P l
        generalize hdF (decide (0 ≤ bef)) E tr P l = hd at *
        clear h0
        go_enter Tryd.func54, Tryd.ntmps54
        go_upto_region 4 with (go_at_call 72; go_loud ((
          refine HDe.out.mono ?_
          rintro e w1 ⟨v, rfl, ho1, hb1⟩
          have HB1 := hid0 hb1
          obtain ⟨av, cv, rfl, iv⟩ := ho1.ia; have HIv := hid0 iv; clear iv; clear x0 x1 x2 x3 x4 x5 x6 x7; clear ho1 hb1)))
        have HHd := hid0 (refHidden_any P l ap aw cp cw (HR.out.past HB1.out) HS.out (by omega) (by omega) (HP.out.past HB1.out) (HA.out.past HB1.out))
        generalize rhL bef E tr P l = Hl at *
        go_upto_region 9 with (go_at_call 53; go_loud ((
          refine HHd.out.mono ?_
          rintro e w2 ⟨v2, rfl, ho2, hb2⟩
          obtain ⟨aH, cH, rfl, iH⟩ := ho2.ia
          have HIH := hid0 iH
          have HB2 := hid0 hb2
          clear iH ho2 hb2 HHd)))
        have HBw2 : Hid (Below w.heap.size w w2) := hid0 (Below.later HB1.out HB2.out)
        have HIv2 := hid0 (HIv.out.past HB2.out)
        have HR2 := hid0 (HR.out.past HBw2.out)
        have hHl : Hl.length ≤ 100000000 := by omega
        clear HB1 HB2 HIv HP HA HR
        go_wp2
        go_loopw [11, 12] (fun pv kv wr => ∃ k : Nat, k ≤ D.length ∧ kv = .int .i64 ((k : Int) + 1) ∧ Hid (OwnI wr w2.heap.size pv (0 :: fbK D p.B p.el bef hd k)) ∧ Hid (Below w2.heap.size w2 wr)) (fun _ kv _ => D.length + 1 - (intOf kv).toNat)
        case atStart => exact ⟨0, Nat.zero_le _, rfl, hid0 (own_one w2 _ 0 (Nat.le_refl _)), hid0 ((Below.refl _ _).alloc (Nat.le_refl _) _)⟩
        case round =>
          obtain ⟨k, hk, rfl, HO, HB⟩ := hrel
          have hsz := HB.out.size
          obtain ⟨pa, pc, ep, _⟩ := HO.out.ia
          subst ep
          have hbl := fbK_len D p.B p.el bef hd k
          have HLe := HLn.out
          have hll0 : 0 < l.length := by omega
          by_cases hkl : k < D.length
          · obtain ⟨m, hm⟩ : ∃ m, m = k + 1 := ⟨_, rfl⟩
            have hmI : (k : Int) + 1 = (m : Int) := by omega
            have hmk : (m : Int) - 1 = (k : Int) := by omega
            have hmL : (m : Int) < (l.length : Int) := by omega
            have hmD : m ≤ D.length := by omega
            have hkI : (k : Int) < (D.length : Int) := by omega
            have hkI0 : (0 : Int) ≤ (k : Int) := by omega
            obtain ⟨b1, o1, rfl, _, d1⟩ := (HIv2.out.past HB.out).at' k hkl
            have hdm := HLt.out _ (List.getElem_mem hkl)
            have HG : Hid (D.getD k 0 = D[k]) := hid0 (by rw [List.getD_eq_getElem?_getD, List.getElem?_eq_getElem hkl]; rfl)
            have HHr := hid0 (refHas_any Hl (m : Int) aH cH wr (HIH.out.past HB.out) (by omega))
            have hq := HHl.out k (by omega)
            rw [hmI, ← hm] at hq
            rw [hq] at HHr
            have HSt : Hid (0 :: fbK D p.B p.el bef hd m = (0 :: fbK D p.B p.el bef hd k) ++ if dcd p.B p.el bef D[k] (hd m) then [(m : Int)] else []) := hid0 (by rw [hm, fbK_step, HG.out, ← hm, hmI]; rfl)
            have hXl : (0 :: fbK D p.B p.el bef hd k).length ≤ 100000001 := by rw [List.length_cons]; omega
            have hf := HR2.out.past HB.out
            obtain ⟨⟨_, _, _, _⟩, _, _, x6, x7⟩ := hf.pc
            have c9 := hf.c9
            have HBo := hid0 hf.pr.b
            rw [hmI]
            clear hq HG hf hm hmI HHl HIv2 HIH HLe
            generalize (0 :: fbK D p.B p.el bef hd k) = X at *
            generalize D[k] = d at *
            generalize hd m = away at *
            by_cases hd0 : d < 0
            · have hdg : ¬ d ≥ 0 := by omega
              clear hdm HBo
              cases away with
              | true =>
                have HE : Hid (0 :: fbK D p.B p.el bef hd m = X) := hid0 (by rw [HSt.out, show dcd p.B p.el bef d true = false by unfold dcd; simp [hd0]]; simp)
                clear HSt
                go_wp2_with (go_at_call 73; go_loud ((
                  refine HHr.out.mono ?_
                  rintro e wz ⟨rfl, rfl⟩)))
                go_roundw
                case rel => exact ⟨m, hmD, by go_num, hid0 (by rw [HE.out]; exact HO.out), HB⟩
                case measure => simp [intOf]; omega
              | false =>
                have hsay : dcd p.B p.el bef d false = p.el := by unfold dcd sayF; simp [hd0]
                generalize p.el = el at *
                cases el with
                | true =>
                  have HE : Hid (0 :: fbK D p.B true bef hd m = X ++ [(m : Int)]) := hid0 (by rw [HSt.out, hsay]; simp)
                  clear HSt
                  go_upto_region 18 with (go_at_call 73; go_loud ((
                    refine HHr.out.mono ?_
                    rintro e wz ⟨rfl, rfl⟩)))
                  go_wp2_with (at_builtin; go_loud ((
                    refine wpList_append_own_at _ rfl _ _ 28 rfl w2.heap.size 3 i0 (.int .i64 0) 1 8 Tryd.underlying28 hi hy0 hy1 hy2 rfl (by decide) _ X.length (X.map (Value.int .i64)) rfl (World.ownsRow.alloc HO.out _) ⟨wz.heap.size, 0, none⟩ 1 1 [.int .i64 (m : Int)] rfl rfl (cell_one_new _ _ _) (by simp [Value.oneCell']) (by unfold maxLen; omega) (by omega) (by simp; omega) ?_
                    intro v3 w3 hown3 hgrow3 _ _
                    have R := ownI_snoc rfl HO.out hown3 hgrow3 HB.out (Nat.le_refl _)
                    have HO3 := hid0 R.1
                    have HB3 := hid0 R.2
                    obtain ⟨av3, cv3, ev3, _⟩ := R.1.ia
                    rw [List.length_append, List.length_singleton] at ev3
                    subst ev3
                    clear R hown3 hgrow3)))
                  go_roundw
                  case rel => exact ⟨m, hmD, by go_num, hid0 (by rw [HE.out]; exact HO3.out), HB3⟩
                  case measure => simp [intOf]; omega
                | false =>
                  have HE : Hid (0 :: fbK D p.B false bef hd m = X) := hid0 (by rw [HSt.out, hsay]; simp)
                  clear HSt
                  go_wp2_with (go_at_call 73; go_loud ((
                    refine HHr.out.mono ?_
                    rintro e wz ⟨rfl, rfl⟩)))
                  go_roundw
                  case rel => exact ⟨m, hmD, by go_num, hid0 (by rw [HE.out]; exact HO.out), HB⟩
                  case measure => simp [intOf]; omega
            · have hdg : d ≥ 0 := by omega
              obtain ⟨n, rfl⟩ : ∃ n : Nat, d = (n : Int) := ⟨d.toNat, by omega⟩
              have hnB : n < p.B.length := by rcases hdm with h | h <;> omega
              obtain ⟨bB, oB, eB, _, dB⟩ := HBo.out.at' n hnB
              rw [eB] at x6
              have hnI : (n : Int) < (p.B.length : Int) := by omega
              have hnI0 : (0 : Int) ≤ (n : Int) := by omega
              have hgD : p.B.getD n false = p.B[n] := by rw [List.getD_eq_getElem?_getD, List.getElem?_eq_getElem hnB]; rfl
              have hsay : dcd p.B p.el bef (n : Int) away = if (away && decide ((n : Int) ≥ bef)) = true then false else p.B[n] := by unfold dcd sayF; rw [decide_eq_false hd0, if_neg hd0, Int.toNat_natCast, hgD, Bool.false_or]
              rw [hsay] at HSt
              clear hdm HBo eB hgD hsay
              generalize p.B[n] = x at *
              cases away with
              | true =>
                by_cases hnb : (n : Int) ≥ bef
                · have hnl : ¬ (n : Int) < bef := by omega
                  rw [decide_eq_true hnb] at HSt
                  have HE : Hid (0 :: fbK D p.B p.el bef hd m = X) := hid0 (by rw [HSt.out]; simp)
                  clear HSt
                  go_wp2_with (go_at_call 73; go_loud ((
                    refine HHr.out.mono ?_
                    rintro e wz ⟨rfl, rfl⟩)))
                  go_roundw
                  case rel => exact ⟨m, hmD, by go_num, hid0 (by rw [HE.out]; exact HO.out), HB⟩
                  case measure => simp [intOf]; omega
                · have hnl : (n : Int) < bef := by omega
                  rw [decide_eq_false hnb] at HSt
                  cases x with
                  | true =>
                    have HE : Hid (0 :: fbK D p.B p.el bef hd m = X ++ [(m : Int)]) := hid0 (by rw [HSt.out]; simp)
                    clear HSt
                    go_upto_region 18 with (go_at_call 73; go_loud ((
                      refine HHr.out.mono ?_
                      rintro e wz ⟨rfl, rfl⟩)))
                    go_wp2_with (at_builtin; go_loud ((
                      refine wpList_append_own_at _ rfl _ _ 28 rfl w2.heap.size 3 i0 (.int .i64 0) 1 8 Tryd.underlying28 hi hy0 hy1 hy2 rfl (by decide) _ X.length (X.map (Value.int .i64)) rfl (World.ownsRow.alloc HO.out _) ⟨wz.heap.size, 0, none⟩ 1 1 [.int .i64 (m : Int)] rfl rfl (cell_one_new _ _ _) (by simp [Value.oneCell']) (by unfold maxLen; omega) (by omega) (by simp; omega) ?_
                      intro v3 w3 hown3 hgrow3 _ _
                      have R := ownI_snoc rfl HO.out hown3 hgrow3 HB.out (Nat.le_refl _)
                      have HO3 := hid0 R.1
                      have HB3 := hid0 R.2
                      obtain ⟨av3, cv3, ev3, _⟩ := R.1.ia
                      rw [List.length_append, List.length_singleton] at ev3
                      subst ev3
                      clear R hown3 hgrow3)))
                    go_roundw
                    case rel => exact ⟨m, hmD, by go_num, hid0 (by rw [HE.out]; exact HO3.out), HB3⟩
                    case measure => simp [intOf]; omega
                  | false =>
                    have HE : Hid (0 :: fbK D p.B p.el bef hd m = X) := hid0 (by rw [HSt.out]; simp)
                    clear HSt
                    go_wp2_with (go_at_call 73; go_loud ((
                      refine HHr.out.mono ?_
                      rintro e wz ⟨rfl, rfl⟩)))
                    go_roundw
                    case rel => exact ⟨m, hmD, by go_num, hid0 (by rw [HE.out]; exact HO.out), HB⟩
                    case measure => simp [intOf]; omega
              | false =>
                cases x with
                | true =>
                  have HE : Hid (0 :: fbK D p.B p.el bef hd m = X ++ [(m : Int)]) := hid0 (by rw [HSt.out]; simp)
                  clear HSt
                  go_upto_region 18 with (go_at_call 73; go_loud ((
                    refine HHr.out.mono ?_
                    rintro e wz ⟨rfl, rfl⟩)))
                  go_wp2_with (at_builtin; go_loud ((
                    refine wpList_append_own_at _ rfl _ _ 28 rfl w2.heap.size 3 i0 (.int .i64 0) 1 8 Tryd.underlying28 hi hy0 hy1 hy2 rfl (by decide) _ X.length (X.map (Value.int .i64)) rfl (World.ownsRow.alloc HO.out _) ⟨wz.heap.size, 0, none⟩ 1 1 [.int .i64 (m : Int)] rfl rfl (cell_one_new _ _ _) (by simp [Value.oneCell']) (by unfold maxLen; omega) (by omega) (by simp; omega) ?_
                    intro v3 w3 hown3 hgrow3 _ _
                    have R := ownI_snoc rfl HO.out hown3 hgrow3 HB.out (Nat.le_refl _)
                    have HO3 := hid0 R.1
                    have HB3 := hid0 R.2
                    obtain ⟨av3, cv3, ev3, _⟩ := R.1.ia
                    rw [List.length_append, List.length_singleton] at ev3
                    subst ev3
                    clear R hown3 hgrow3)))
                  go_roundw
                  case rel => exact ⟨m, hmD, by go_num, hid0 (by rw [HE.out]; exact HO3.out), HB3⟩
                  case measure => simp [intOf]; omega
                | false =>
                  have HE : Hid (0 :: fbK D p.B p.el bef hd m = X) := hid0 (by rw [HSt.out]; simp)
                  clear HSt
                  go_wp2_with (go_at_call 73; go_loud ((
                    refine HHr.out.mono ?_
                    rintro e wz ⟨rfl, rfl⟩)))
                  go_roundw
                  case rel => exact ⟨m, hmD, by go_num, hid0 (by rw [HE.out]; exact HO.out), HB⟩
                  case measure => simp [intOf]; omega
          · have hkI : ¬ (k : Int) + 1 < (l.length : Int) := by omega
            obtain rfl : k = D.length := by omega
            have hXl : (0 :: fbK D p.B p.el bef hd D.length).length ≤ 100000001 := by rw [List.length_cons]; omega
            clear HLe
            generalize (0 :: fbK D p.B p.el bef hd D.length) = X at *
            go_wp2_with (at_builtin; go_loud ((
              refine wpList_append_own_at _ rfl _ _ 28 rfl w2.heap.size 3 i0 (.int .i64 0) 1 8 Tryd.underlying28 hi hy0 hy1 hy2 rfl (by decide) _ X.length (X.map (Value.int .i64)) rfl (World.ownsRow.alloc HO.out _) ⟨wr.heap.size, 0, none⟩ 1 1 [.int .i64 (l.length : Int)] rfl rfl (cell_one_new _ _ _) (by simp [Value.oneCell']) (by unfold maxLen; omega) (by omega) (by simp; omega) ?_
              intro v3 w3 hown3 hgrow3 _ _
              have R := ownI_snoc rfl HO.out hown3 hgrow3 HB.out (Nat.le_refl _)
              have HO3 := hid0 R.1
              have HB3 := hid0 R.2
              clear R hown3 hgrow3)))
            go_returns
            exact ⟨_, rfl, by rw [if_pos rfl, HV.out]; exact owns_lower HO3.out HBw2.out.size, HBw2.out.trans (HB3.out.mono HBw2.out.size)⟩
  · have hPI : ¬ (P.length : Int) = (l.length : Int) := by omega
    rw [decide_eq_false hP, Bool.false_and]
    clear h hs hp ha hP
    go_enter Tryd.func54, Tryd.ntmps54
    go_wp2
    go_returns
    exact ⟨_, rfl, World.ownsRow_nil _ _ _ _, Below.refl _ _⟩
end
end Go.Proofs.YtekimkdaoblcgaaDoor
namespace Go.Proofs.YtekimkdaoblcgaaDoor
open Go.RowKit Go.Shelf Go.Maps
/-- Lists in memory; a nil one has no room. -/
structure RwX (w : World) (a : Option Addr) (L : List (List Int)) : Prop where
  at' : ∀ k (h : k < L.length), ∃ b off, a = some ⟨b, off, none⟩ ∧ b < w.heap.size ∧ ∃ a1 c1, w.cell? ⟨b, off + k, none⟩ = some (.slice a1 (L[k]).length c1) ∧ IA w a1 L[k] ∧ (L[k]).length ≤ c1 ∧ (a1 = none → c1 = 0)
/-- Each list with its marks, and the marks behind all. -/
structure RkI (w : World) (lo : Nat) (vs : List Value) (L : List (List Int)) (k m : Nat) : Prop where
  len : vs.length = k + m
  row : ∀ j (h : j < L.length), j < k → ∃ g c, vs[j]? = some (.slice (some ⟨g, 0, none⟩) (L[j]).length c) ∧ MkL w lo g c L[j]
  mrk : ∀ j, k ≤ j → j < k + m → ∃ g cur fr, vs[j]? = some (.slice (some ⟨g, 0, none⟩) 1 1) ∧ lo ≤ g ∧ w.heap[g]? = some (.cells cur 3 fr) ∧ w.cell? ⟨g, 0, none⟩ = some (.int .i64 (-56))
def RkL (w : World) (lo g c : Nat) (L : List (List Int)) : Prop := ∃ vs, w.ownsRow lo 28 1 (.slice (some ⟨g, 0, none⟩) (L.length + 64) c) (L.length + 64) vs ∧ RkI w lo vs L L.length 64
section
variable {w w' : World} {lo g c k m : Nat} {vs : List Value} {L : List (List Int)} {a : Option Addr} {R : List Int} {v : Value}
theorem RwX.past (h : RwX w a L) (hb : Below w.heap.size w w') : RwX w' a L := ⟨fun k hk => by
  obtain ⟨b, off, e, h1, a1, c1, h2, h3, h4, h5⟩ := h.at' k hk
  exact ⟨b, off, e, Nat.lt_of_lt_of_le h1 hb.size, a1, c1, (hb.cell (p := ⟨b, off + k, none⟩) h1).trans h2, h3.past hb, h4, h5⟩⟩
theorem RwX.rwc (h : RwX w a L) : RwC w a L := ⟨fun k hk => by
  obtain ⟨b, off, e, h1, a1, c1, h2, h3, h4, _⟩ := h.at' k hk
  exact ⟨b, off, e, h1, a1, c1, h2, h3, h4⟩⟩
theorem MkL.ty (h : MkL w lo g c R) : lo ≤ g ∧ g < w.heap.size ∧ ∃ cur fr, w.heap[g]? = some (.cells cur 3 fr) := ⟨(World.ownsRow.lt h g rfl).1, (World.ownsRow.lt h g rfl).2, own_type h rfl⟩
theorem MkL.keep (h : MkL w lo g c R) (hb : w'.heap[g]? = w.heap[g]?) : MkL w' lo g c R := own_blk h (fun b e => by cases e; exact hb)
theorem MkL.lower (h : MkL w lo g c R) {b : Nat} (hb : b ≤ lo) : MkL w b g c R := owns_lower h hb
theorem RkI.nil (L : List (List Int)) : RkI w lo [] L 0 0 := ⟨rfl, fun _ _ hj => absurd hj (Nat.not_lt_zero _), fun _ _ hj => absurd hj (Nat.not_lt_zero _)⟩
theorem RkI.keep (h : RkI w lo vs L k m) (hk : ∀ b cur fr, lo ≤ b → w.heap[b]? = some (.cells cur 3 fr) → w'.heap[b]? = w.heap[b]?) : RkI w' lo vs L k m := ⟨h.len, fun j h1 h2 => by
  obtain ⟨g, c, e, hm⟩ := h.row j h1 h2
  obtain ⟨q1, _, cur, fr, q2⟩ := hm.ty
  exact ⟨g, c, e, hm.keep (hk g cur fr q1 q2)⟩, fun j h1 h2 => by
  obtain ⟨g, cur, fr, e, q1, q2, q3⟩ := h.mrk j h1 h2
  have hh := hk g cur fr q1 q2
  exact ⟨g, cur, fr, e, q1, hh.trans q2, (World.cell?_of_block (w := w) hh).trans q3⟩⟩
theorem heap_lt {b : Nat} {o : Obj} (h : w.heap[b]? = some o) : b < w.heap.size := (Array.getElem?_eq_some_iff.1 h).1
theorem RkI.past (h : RkI w lo vs L k m) (hb : Below w.heap.size w w') : RkI w' lo vs L k m := h.keep (fun b _ _ _ e => hb.block b (heap_lt e))
theorem RkI.lower (h : RkI w lo vs L k m) {b : Nat} (hb : b ≤ lo) : RkI w b vs L k m := ⟨h.len, fun j h1 h2 => by
  obtain ⟨g, c, e, hm⟩ := h.row j h1 h2
  exact ⟨g, c, e, hm.lower hb⟩, fun j h1 h2 => by
  obtain ⟨g, cur, fr, e, q1, q2, q3⟩ := h.mrk j h1 h2
  exact ⟨g, cur, fr, e, by omega, q2, q3⟩⟩
theorem RkI.grow {n lo' : Nat} {xs : List Value} (h : RkI w lo vs L k m) (ho : w.ownsRow lo' 28 1 v n xs) (hg : w.grownBy w' v.ownBlock) : RkI w' lo vs L k m := h.keep (fun b cur fr _ e => hg.block b (heap_lt e) (fun e2 => by
  obtain ⟨c1, f1, r1⟩ := own_type ho e2.symm
  rw [r1] at e
  injection e with e
  injection e with _ e
  cases e))
theorem RkI.snocR (h : RkI w lo vs L k 0) (hk : k < L.length) (hm : MkL w lo g c L[k]) : RkI w lo (vs ++ [.slice (some ⟨g, 0, Option.none⟩) (L[k]).length c]) L (k + 1) 0 := ⟨by rw [List.length_append, h.len]; rfl, fun j h1 h2 => by
  by_cases e : j = k
  · subst e
    exact ⟨g, c, by rw [List.getElem?_append_right (by rw [h.len]; omega), h.len, Nat.add_zero, Nat.sub_self]; rfl, hm⟩
  · obtain ⟨g1, c1, e1, q⟩ := h.row j h1 (by omega)
    exact ⟨g1, c1, by rw [List.getElem?_append_left (by rw [h.len]; omega)]; exact e1, q⟩, fun j h1 h2 => by omega⟩
theorem RkI.snocM (h : RkI w lo vs L k m) {cur : Array Value} {fr : Nat × Nat} (h1 : lo ≤ g) (h2 : w.heap[g]? = some (.cells cur 3 fr)) (h3 : w.cell? ⟨g, 0, Option.none⟩ = some (.int .i64 (-56))) : RkI w lo (vs ++ [.slice (some ⟨g, 0, Option.none⟩) 1 1]) L k (m + 1) := ⟨by rw [List.length_append, h.len]; rfl, fun j q1 q2 => by
  obtain ⟨g1, c1, e1, q⟩ := h.row j q1 q2
  exact ⟨g1, c1, by rw [List.getElem?_append_left (by rw [h.len]; omega)]; exact e1, q⟩, fun j q1 q2 => by
  by_cases e : j = k + m
  · subst e
    exact ⟨g, cur, fr, by rw [List.getElem?_append_right (by rw [h.len]; omega), h.len, Nat.sub_self]; rfl, h1, h2, h3⟩
  · obtain ⟨g1, cu, f1, e1, q⟩ := h.mrk j q1 (by omega)
    exact ⟨g1, cu, f1, by rw [List.getElem?_append_left (by rw [h.len]; omega)]; exact e1, q⟩⟩
theorem RkL.blk (h : RkL w lo g c L) : lo ≤ g ∧ g < w.heap.size := by
  obtain ⟨vs, h1, _⟩ := h
  exact World.ownsRow.lt h1 g rfl
theorem RkL.keep (h : RkL w lo g c L) (hb : ∀ b, lo ≤ b → b < w.heap.size → w'.heap[b]? = w.heap[b]?) : RkL w' lo g c L := by
  obtain ⟨vs, h1, h2⟩ := h
  exact ⟨vs, own_blk h1 (fun b e => hb b (World.ownsRow.lt h1 b e).1 (World.ownsRow.lt h1 b e).2), h2.keep (fun b _ _ q e => hb b q (heap_lt e))⟩
theorem RkL.past (h : RkL w lo g c L) (hb : Below w.heap.size w w') : RkL w' lo g c L := h.keep (fun b _ hb' => hb.block b hb')
theorem RkL.lower (h : RkL w lo g c L) {b : Nat} (hb : b ≤ lo) : RkL w b g c L := by
  obtain ⟨vs, h1, h2⟩ := h
  exact ⟨vs, owns_lower h1 hb, h2.lower hb⟩
theorem RkL.cap (h : RkL w lo g c L) : L.length + 64 ≤ c := by
  obtain ⟨vs, h1, _⟩ := h
  rcases h1.2 with ⟨e, _⟩ | ⟨g', cap, cur, e, _, _, q3, _⟩
  · cases e
  · cases e; exact q3
theorem RkL.row (h : RkL w lo g c L) {j : Nat} (hj : j < L.length) : ∃ g1 c1, w.cell? ⟨g, j, Option.none⟩ = some (.slice (some ⟨g1, 0, Option.none⟩) (L[j]).length c1) ∧ MkL w lo g1 c1 L[j] := by
  obtain ⟨vs, h1, h2⟩ := h
  obtain ⟨g1, c1, e, q⟩ := h2.row j hj hj
  exact ⟨g1, c1, (World.ownsRow.cellAt h1 j (by omega)).trans e, q⟩
theorem RkL.mrk (h : RkL w lo g c L) {j : Nat} (h1 : L.length ≤ j) (h2 : j < L.length + 64) : ∃ g1, w.cell? ⟨g, j, Option.none⟩ = some (.slice (some ⟨g1, 0, Option.none⟩) 1 1) ∧ w.cell? ⟨g1, 0, Option.none⟩ = some (.int .i64 (-56)) := by
  obtain ⟨vs, q1, q2⟩ := h
  obtain ⟨g1, _, _, e, _, _, q⟩ := q2.mrk j h1 h2
  exact ⟨g1, (World.ownsRow.cellAt q1 j (by omega)).trans e, q⟩
theorem RkL.rwx (h : RkL w lo g c L) : RwX w (some ⟨g, 0, Option.none⟩) L := ⟨fun k hk => by
  obtain ⟨g1, c1, h1, h2⟩ := h.row hk
  exact ⟨g, 0, rfl, h.blk.2, _, c1, by rw [Nat.zero_add]; exact h1, h2.ia, by have := h2.all.2; omega, fun e => nomatch e⟩⟩
end
end Go.Proofs.YtekimkdaoblcgaaDoor
namespace Go.Proofs.YtekimkdaoblcgaaDoor
open Go.RowKit Go.Shelf
theorem numC_true : numC true = 0 := rfl
theorem numC_false : numC false = 1 := rfl
end Go.Proofs.YtekimkdaoblcgaaDoor
namespace Go.Proofs.YtekimkdaoblcgaaDoor
open Go.RowKit Go.Shelf
theorem drew_more {w w' : World} {a b : Nat} (h : ∃ m, w' = (w.drewN (a + b)).drewN m) : ∃ n, w' = w.drewN (a + n) := by
  obtain ⟨m, hm⟩ := h
  exact ⟨b + m, by rw [hm, World.drewN_drewN, Nat.add_assoc]⟩
set_option maxRecDepth 10000 in
set_option maxHeartbeats 1600000 in
theorem sameRows (L : List (List Int)) (a b : Option Addr) (ca cb : Nat) (w : World) (hl : L.length ≤ 1000000000) (hr : ∀ r ∈ L, r.length ≤ 1000000000) (ha : RwA w a L) (hb : RwA w b L) :
    Calls Tryd.prog 55 #[.slice a L.length ca, .slice b L.length cb] w fun e w' => e = .returned (.bool true) ∧ ∃ n, w' = w.drewN n := by
  have HA := hid0 ha
  have HB := hid0 hb
  have HR := hid0 hr
  clear ha hb hr
  go_enter Tryd.func55, Tryd.ntmps55
  go_wp2
  go_loopw [5] (fun i wr => ∃ k : Nat, k ≤ L.length ∧ i = .int .i64 (k : Int) ∧ ∃ n, wr = w.drewN n) (fun i _ => L.length - (intOf i).toNat)
  case atStart => exact ⟨0, Nat.zero_le _, rfl, 0, rfl⟩
  case round =>
    obtain ⟨k, hk, rfl, nd, rfl⟩ := hrel
    by_cases hlt : k < L.length
    · obtain ⟨b1, o1, rfl, _, a1, c1, d1, i1⟩ := HA.out.at' k hlt
      obtain ⟨b2, o2, rfl, _, a2, c2, d2, i2⟩ := HB.out.at' k hlt
      have HS := hid0 (fun n => sameI L[k] a1 a2 c1 c2 (w.drewN n) (by have := HR.out _ (List.getElem_mem hlt); omega) ⟨i1.at'⟩ ⟨i2.at'⟩)
      clear i1 i2
      generalize L[k] = s at *
      have hkI : (k : Int) < (L.length : Int) := by omega
      have hkI0 : (0 : Int) ≤ (k : Int) := by omega
      go_wp2
      go_quiet ((go_at_call 10; exact (HS.out _).mono (fun _ _ h => ⟨h.1, drew_more h.2⟩)))
      go_wp2
      go_roundw
      case rel => exact ⟨k + 1, by omega, by go_num, _, rfl⟩
      case measure => simp [intOf]; omega
    · have hkI : ¬ (k : Int) < (L.length : Int) := by omega
      go_wp2
      go_ret
      exact ⟨rfl, nd, rfl⟩
theorem two_boxes (w : World) (a b : Array Value) (t : TypeId) : ∃ w0, (w.alloc (.cells a t)).alloc (.cells b t) = w0 ∧ Below w.heap.size w w0 ∧ w0.heap.size = w.heap.size + 1 + 1 ∧ w0.heap[w.heap.size]? = some (.cells a t (0, 0)) ∧ w0.heap[w.heap.size + 1]? = some (.cells b t (0, 0)) := by
  refine ⟨_, rfl, ((Below.refl _ _).alloc (Nat.le_refl _) _).alloc (by simp) _, by simp, ?_, ?_⟩
  · rw [Below.heap_alloc _ _ _ (by simp)]
    exact heap_alloc_new w _
  · have h := heap_alloc_new (w.alloc (.cells a t)) (.cells b t)
    simpa using h
theorem row3c {W : World} {X : Nat} {t : TypeId} {a b c : Value} (h : W.heap[X]? = some (.cells #[a, b, c] t (0, 0))) : W.cell? ⟨X, 0, none⟩ = some a ∧ W.cell? ⟨X, 1, none⟩ = some b ∧ W.cell? ⟨X, 2, none⟩ = some c :=
  ⟨by rw [cell_of_row _ _ _ _ _ _ h]; rfl, by rw [cell_of_row _ _ _ _ _ _ h]; rfl, by rw [cell_of_row _ _ _ _ _ _ h]; rfl⟩
set_option maxRecDepth 10000 in
set_option maxHeartbeats 1600000 in
theorem sameMachine (st : Int) (N O : List (List Int)) (aN aO aM aP : Option Addr) (cN cO cM cP : Nat) (w : World) (hn : N.length ≤ 1000000000) (hnr : ∀ r ∈ N, r.length ≤ 1000000000) (ho : O.length ≤ 1000000000) (hor : ∀ r ∈ O, r.length ≤ 1000000000) (h1 : RwA w aN N) (h2 : RwA w aO O) (h3 : RwA w aM N) (h4 : RwA w aP O) :
    Calls Tryd.prog 52 #[.agg #[.int .i64 st, .slice aN N.length cN, .slice aO O.length cO], .agg #[.int .i64 st, .slice aM N.length cM, .slice aP O.length cP]] w fun e w' => e = .returned (.bool true) ∧ Below w.heap.size w w' := by
  obtain ⟨w0, hw0, hB0, hsz0, hA0, hM0⟩ := two_boxes w #[.int .i64 st, .slice aN N.length cN, .slice aO O.length cO] #[.int .i64 st, .slice aM N.length cM, .slice aP O.length cP] 24
  obtain ⟨x0, x1, x2⟩ := row3c hA0
  obtain ⟨y0, y1, y2⟩ := row3c hM0
  have HS1 := hid0 (sameRows N aN aM cN cM w0 hn hnr (h1.past hB0) (h3.past hB0))
  have HS2 : Hid (∀ n, Calls Tryd.prog 55 #[.slice aO O.length cO, .slice aP O.length cP] (w0.drewN n) fun e w' => e = .returned (.bool true) ∧ ∃ m, w' = (w0.drewN n).drewN m) := hid0 (fun n => sameRows O aO aP cO cP (w0.drewN n) ho hor ((h2.past hB0).past (below_drew' (Below.refl _ _) n)) ((h4.past hB0).past (below_drew' (Below.refl _ _) n)))
  have HB0 := hid0 hB0
  have hself : (st == st) = true := by simp
  clear hB0 hA0 hM0 h1 h2 h3 h4 hsz0
  go_enter Tryd.func52, Tryd.ntmps52
  go_wp2_with (first
    | (go_at_call 55; have hq := HQ.out; refine (HS2.out n1).mono ?_; rintro e w2 ⟨rfl, n2, hw2⟩; rw [World.drewN_drewN] at hw2; subst hw2; clear hq)
    | (go_at_call 55; refine HS1.out.mono ?_; rintro e w1 ⟨rfl, n1, hw1⟩; subst hw1; have HQ : Hid True := hid0 trivial; clear HS1))
  go_ret
  exact ⟨rfl, below_drew' HB0.out _⟩
set_option maxRecDepth 10000 in
set_option maxHeartbeats 1600000 in
theorem samePairing (sl sr : Int) (N O M P : List (List Int)) (B : List Bool) (el : Bool) (aN aO aM aP aB : Option Addr) (cN cO cM cP cB : Nat) (bN bO bM bP bB : Option Addr) (dN dO dM dP dB : Nat) (w : World) (hs : PrS ⟨sl, N, O, sr, M, P, B, el⟩) (ha : PrA w ⟨sl, N, O, sr, M, P, B, el⟩ ⟨aN, aO, aM, aP, aB, cN, cO, cM, cP, cB⟩) (hb : PrA w ⟨sl, N, O, sr, M, P, B, el⟩ ⟨bN, bO, bM, bP, bB, dN, dO, dM, dP, dB⟩) (ho : O.length ≤ 1000000000) (hp : P.length ≤ 1000000000) :
    Calls Tryd.prog 34 #[.agg #[.int .i64 sl, .slice aN N.length cN, .slice aO O.length cO, .int .i64 sr, .slice aM M.length cM, .slice aP P.length cP, .slice aB B.length cB, .bool el], .agg #[.int .i64 sl, .slice bN N.length dN, .slice bO O.length dO, .int .i64 sr, .slice bM M.length dM, .slice bP P.length dP, .slice bB B.length dB, .bool el]] w fun e w' => e = .returned (.bool true) ∧ Below w.heap.size w w' := by
  obtain ⟨w0, hw0, hB0, hsz0, hA0, hM0⟩ := two_boxes w #[.int .i64 sl, .slice aN N.length cN, .slice aO O.length cO, .int .i64 sr, .slice aM M.length cM, .slice aP P.length cP, .slice aB B.length cB, .bool el] #[.int .i64 sl, .slice bN N.length dN, .slice bO O.length dO, .int .i64 sr, .slice bM M.length dM, .slice bP P.length dP, .slice bB B.length dB, .bool el] 27
  have HC : Hid (∀ V : World, Below w0.heap.size w0 V → ((V.cell? ⟨w.heap.size, 0, none⟩ = some (.int .i64 sl) ∧ V.cell? ⟨w.heap.size, 1, none⟩ = some (.slice aN N.length cN) ∧ V.cell? ⟨w.heap.size, 2, none⟩ = some (.slice aO O.length cO) ∧ V.cell? ⟨w.heap.size, 3, none⟩ = some (.int .i64 sr)) ∧ V.cell? ⟨w.heap.size, 4, none⟩ = some (.slice aM M.length cM) ∧ V.cell? ⟨w.heap.size, 5, none⟩ = some (.slice aP P.length cP) ∧ V.cell? ⟨w.heap.size, 6, none⟩ = some (.slice aB B.length cB) ∧ V.cell? ⟨w.heap.size, 7, none⟩ = some (.bool el)) ∧ ((V.cell? ⟨w.heap.size + 1, 0, none⟩ = some (.int .i64 sl) ∧ V.cell? ⟨w.heap.size + 1, 1, none⟩ = some (.slice bN N.length dN) ∧ V.cell? ⟨w.heap.size + 1, 2, none⟩ = some (.slice bO O.length dO) ∧ V.cell? ⟨w.heap.size + 1, 3, none⟩ = some (.int .i64 sr)) ∧ V.cell? ⟨w.heap.size + 1, 4, none⟩ = some (.slice bM M.length dM) ∧ V.cell? ⟨w.heap.size + 1, 5, none⟩ = some (.slice bP P.length dP) ∧ V.cell? ⟨w.heap.size + 1, 6, none⟩ = some (.slice bB B.length dB) ∧ V.cell? ⟨w.heap.size + 1, 7, none⟩ = some (.bool el))) := hid0 (fun V hV => ⟨row8p ((hV.block _ (by omega)).trans hA0), row8p ((hV.block _ (by omega)).trans hM0)⟩)
  have HAl : Hid (∀ V : World, Below w0.heap.size w0 V → BoA V aB B ∧ BoA V bB B ∧ Below w.heap.size w V) := hid0 (fun V hV => by
    have h := hB0.trans (hV.mono (by omega))
    exact ⟨(ha.past h).b, (hb.past h).b, h⟩)
  have HS1 := hid0 (sameMachine sl N O aN aO bN bO cN cO dN dO w0 hs.n hs.nr ho hs.or (ha.past hB0).n.rwa (ha.past hB0).o.rwa (hb.past hB0).n.rwa (hb.past hB0).o.rwa)
  have HS2 : Hid (∀ V : World, Below w0.heap.size w0 V → Calls Tryd.prog 52 #[.agg #[.int .i64 sr, .slice aM M.length cM, .slice aP P.length cP], .agg #[.int .i64 sr, .slice bM M.length dM, .slice bP P.length dP]] V fun e w' => e = .returned (.bool true) ∧ Below V.heap.size V w') := hid0 (fun V hV => by
    have h := hB0.trans (hV.mono (by omega))
    exact sameMachine sr M P aM aP bM bP cM cP dM dP V hs.m hs.mr hp hs.pr (ha.past h).m.rwa (ha.past h).p'.rwa (hb.past h).m.rwa (hb.past h).p'.rwa)
  have hB : B.length ≤ 1000000000 := hs.b
  have hself : (el == el) = true := by simp
  obtain ⟨⟨⟨x0, x1, x2, x3⟩, x4, x5, x6, x7⟩, ⟨y0, y1, y2, y3⟩, y4, y5, y6, y7⟩ := HC.out w0 (Below.refl _ _)
  clear hB0 hA0 hM0 ha hb hs ho hp
  go_enter Tryd.func34, Tryd.ntmps34
  go_upto_region 2 with (go_at_call 52; refine HS1.out.mono ?_; rintro e w1 ⟨rfl, hb⟩; have HB1 := hid0 hb; clear hb x0 x1 x2 x3 x4 x5 x6 x7 y0 y1 y2 y3 y4 y5 y6 y7)
  obtain ⟨⟨⟨x0, x1, x2, x3⟩, x4, x5, x6, x7⟩, ⟨y0, y1, y2, y3⟩, y4, y5, y6, y7⟩ := HC.out w1 HB1.out
  go_upto_region 3 with (go_at_call 52; refine (HS2.out w1 HB1.out).mono ?_; rintro e w2 ⟨rfl, hb⟩; have HB2 : Hid (Below w0.heap.size w0 w2) := hid0 (HB1.out.trans (hb.mono HB1.out.size)); clear hb x0 x1 x2 x3 x4 x5 x6 x7 y0 y1 y2 y3 y4 y5 y6 y7)
  obtain ⟨⟨⟨x0, x1, x2, x3⟩, x4, x5, x6, x7⟩, ⟨y0, y1, y2, y3⟩, y4, y5, y6, y7⟩ := HC.out w2 HB2.out
  go_wp2
  go_loopw [7] (fun i wr => ∃ k : Nat, k ≤ B.length ∧ i = .int .i64 (k : Int) ∧ ∃ n, wr = w2.drewN n) (fun i _ => B.length - (intOf i).toNat)
  case atStart => exact ⟨0, Nat.zero_le _, rfl, 0, rfl⟩
  case round =>
    obtain ⟨k, hk, rfl, nd, rfl⟩ := hrel
    by_cases hlt : k < B.length
    · obtain ⟨b1, o1, rfl, _, d1⟩ := (HAl.out w2 HB2.out).1.at' k hlt
      obtain ⟨b2, o2, rfl, _, d2⟩ := (HAl.out w2 HB2.out).2.1.at' k hlt
      have hbs : (B[k] == B[k]) = true := by simp
      generalize B[k] = z at *
      have hkI : (k : Int) < (B.length : Int) := by omega
      have hkI0 : (0 : Int) ≤ (k : Int) := by omega
      go_wp2
      go_quiet ((fail))
      go_wp2
      go_roundw
      case rel => exact ⟨k + 1, by omega, by go_num, _, rfl⟩
      case measure => simp [intOf]; omega
    · have hkI : ¬ (k : Int) < (B.length : Int) := by omega
      go_wp2
      go_ret
      exact ⟨rfl, below_drew' (HAl.out w2 HB2.out).2.2 nd⟩
end Go.Proofs.YtekimkdaoblcgaaDoor
namespace Go.Proofs.YtekimkdaoblcgaaDoor
open Go.RowKit Go.Shelf
/-- A pairing in memory; a nil list has no room. -/
structure PrX (w : World) (p : Prg) (q : PrL) : Prop where
  n : RwX w q.aN p.N
  o : RwX w q.aO p.O
  m : RwX w q.aM p.M
  p' : RwX w q.aP p.P
  b : BoA w q.aB p.B
theorem PrX.past {w w' : World} {p : Prg} {q : PrL} (h : PrX w p q) (hb : Below w.heap.size w w') : PrX w' p q := ⟨h.n.past hb, h.o.past hb, h.m.past hb, h.p'.past hb, h.b.past hb⟩
theorem PrX.pra {w : World} {p : Prg} {q : PrL} (h : PrX w p q) : PrA w p q := ⟨h.n.rwc, h.o.rwc, h.m.rwc, h.p'.rwc, h.b⟩
/-- Numbers, whatever they are; D says in which blocks they lie. -/
structure XI (w : World) (D : Nat → Prop) (a : Option Addr) (n : Nat) : Prop where
  at' : ∀ j, j < n → ∃ b o, a = some ⟨b, o, none⟩ ∧ D b ∧ b < w.heap.size ∧ (∃ z, w.cell? ⟨b, o + j, none⟩ = some (.int .i64 z)) ∧ w.frozen? ⟨b, o + j, none⟩ = false
structure XB (w : World) (D : Nat → Prop) (a : Option Addr) (n : Nat) : Prop where
  at' : ∀ j, j < n → ∃ b o, a = some ⟨b, o, none⟩ ∧ D b ∧ b < w.heap.size ∧ (∃ z, w.cell? ⟨b, o + j, none⟩ = some (.bool z)) ∧ w.frozen? ⟨b, o + j, none⟩ = false
structure XR (w : World) (D : Nat → Prop) (a : Option Addr) (n : Nat) : Prop where
  at' : ∀ k, k < n → ∃ b o, a = some ⟨b, o, none⟩ ∧ b < w.heap.size ∧ ∃ a1 n1 c1, w.cell? ⟨b, o + k, none⟩ = some (.slice a1 n1 c1) ∧ n1 ≤ 1000000000 ∧ n1 ≤ c1 ∧ XI w D a1 n1 ∧ (a1 = none → c1 = 0)
theorem frozen_set (w : World) (p q : Addr) (v : Value) : (w.setCell p v).frozen? q = w.frozen? q := World.frozen?_setCell w p q v
section
variable {w w' : World} {D : Nat → Prop} {a : Option Addr} {n : Nat}
theorem frozen_past (hb : Below w.heap.size w w') {b o : Nat} (h : b < w.heap.size) : w'.frozen? ⟨b, o, none⟩ = w.frozen? ⟨b, o, none⟩ := by
  unfold World.frozen?
  rw [show w'.heap[(⟨b, o, none⟩ : Addr).block]? = w.heap[(⟨b, o, none⟩ : Addr).block]? from hb.block b h]
theorem XI.past (h : XI w D a n) (hb : Below w.heap.size w w') : XI w' D a n := ⟨fun j hj => by
  obtain ⟨b, o, e, hd, h1, ⟨z, h2⟩, h3⟩ := h.at' j hj
  exact ⟨b, o, e, hd, Nat.lt_of_lt_of_le h1 hb.size, ⟨z, (hb.cell (p := ⟨b, o + j, none⟩) h1).trans h2⟩, by rw [frozen_past hb h1]; exact h3⟩⟩
theorem XB.past (h : XB w D a n) (hb : Below w.heap.size w w') : XB w' D a n := ⟨fun j hj => by
  obtain ⟨b, o, e, hd, h1, ⟨z, h2⟩, h3⟩ := h.at' j hj
  exact ⟨b, o, e, hd, Nat.lt_of_lt_of_le h1 hb.size, ⟨z, (hb.cell (p := ⟨b, o + j, none⟩) h1).trans h2⟩, by rw [frozen_past hb h1]; exact h3⟩⟩
theorem XR.past (h : XR w D a n) (hb : Below w.heap.size w w') : XR w' D a n := ⟨fun k hk => by
  obtain ⟨b, o, e, h1, a1, n1, c1, h2, h3, h4, h5, h6⟩ := h.at' k hk
  exact ⟨b, o, e, Nat.lt_of_lt_of_le h1 hb.size, a1, n1, c1, (hb.cell (p := ⟨b, o + k, none⟩) h1).trans h2, h3, h4, h5.past hb, h6⟩⟩
theorem set_size (w : World) (p : Addr) (v : Value) : (w.setCell p v).heap.size = w.heap.size := by simp [World.setCell]
theorem XI.setI (h : XI w D a n) (p : Addr) (z : Int) : XI (w.setCell p (.int .i64 z)) D a n := ⟨fun j hj => by
  obtain ⟨b, o, e, hd, h1, h2, h3⟩ := h.at' j hj
  exact ⟨b, o, e, hd, by rw [set_size]; exact h1, someInt_setCell h2 _ z, by rw [frozen_set]; exact h3⟩⟩
theorem XI.setB (h : XI w D a n) {p : Addr} {z0 : Bool} (hp : w.cell? p = some (.bool z0)) (z : Bool) : XI (w.setCell p (.bool z)) D a n := ⟨fun j hj => by
  obtain ⟨b, o, e, hd, h1, ⟨y, h2⟩, h3⟩ := h.at' j hj
  have hne : p ≠ ⟨b, o + j, none⟩ := fun e => by rw [← e, hp] at h2; cases h2
  exact ⟨b, o, e, hd, by rw [set_size]; exact h1, ⟨y, (World.cell?_setCell_other _ _ _ _ hne).trans h2⟩, by rw [frozen_set]; exact h3⟩⟩
theorem XB.setI (h : XB w D a n) {p : Addr} {z0 : Int} (hp : w.cell? p = some (.int .i64 z0)) (z : Int) : XB (w.setCell p (.int .i64 z)) D a n := ⟨fun j hj => by
  obtain ⟨b, o, e, hd, h1, ⟨y, h2⟩, h3⟩ := h.at' j hj
  have hne : p ≠ ⟨b, o + j, none⟩ := fun e => by rw [← e, hp] at h2; cases h2
  exact ⟨b, o, e, hd, by rw [set_size]; exact h1, ⟨y, (World.cell?_setCell_other _ _ _ _ hne).trans h2⟩, by rw [frozen_set]; exact h3⟩⟩
theorem XB.setB (h : XB w D a n) {p : Addr} {z0 : Bool} (hp : w.cell? p = some (.bool z0)) (z : Bool) : XB (w.setCell p (.bool z)) D a n := ⟨fun j hj => by
  obtain ⟨b, o, e, hd, h1, ⟨y, h2⟩, h3⟩ := h.at' j hj
  refine ⟨b, o, e, hd, by rw [set_size]; exact h1, ?_, by rw [frozen_set]; exact h3⟩
  by_cases hq : p = ⟨b, o + j, none⟩
  · subst hq
    exact ⟨z, World.cell?_setCell_same _ _ _ hp⟩
  · exact ⟨y, (World.cell?_setCell_other _ _ _ _ hq).trans h2⟩⟩
theorem XR.setI (h : XR w D a n) {p : Addr} {z0 : Int} (hp : w.cell? p = some (.int .i64 z0)) (z : Int) : XR (w.setCell p (.int .i64 z)) D a n := ⟨fun k hk => by
  obtain ⟨b, o, e, h1, a1, n1, c1, h2, h3, h4, h5, h6⟩ := h.at' k hk
  have hne : p ≠ ⟨b, o + k, none⟩ := fun e => by rw [← e, hp] at h2; cases h2
  exact ⟨b, o, e, by rw [set_size]; exact h1, a1, n1, c1, (World.cell?_setCell_other _ _ _ _ hne).trans h2, h3, h4, h5.setI p z, h6⟩⟩
theorem XR.setB (h : XR w D a n) {p : Addr} {z0 : Bool} (hp : w.cell? p = some (.bool z0)) (z : Bool) : XR (w.setCell p (.bool z)) D a n := ⟨fun k hk => by
  obtain ⟨b, o, e, h1, a1, n1, c1, h2, h3, h4, h5, h6⟩ := h.at' k hk
  have hne : p ≠ ⟨b, o + k, none⟩ := fun e => by rw [← e, hp] at h2; cases h2
  exact ⟨b, o, e, by rw [set_size]; exact h1, a1, n1, c1, (World.cell?_setCell_other _ _ _ _ hne).trans h2, h3, h4, h5.setB hp z, h6⟩⟩
theorem XR.less (h : XR w D a n) {m : Nat} (hm : m ≤ n) : XR w D a m := ⟨fun k hk => h.at' k (by omega)⟩
theorem chooseX {α : Type} {n : Nat} (d : α) {P : Nat → α → Prop} (h : ∀ j, j < n → ∃ z, P j z) : ∃ l : List α, l.length = n ∧ ∀ j (hj : j < l.length), P j l[j] := by
  have h2 : ∀ j, ∃ z, j < n → P j z := fun j => by
    by_cases hj : j < n
    · obtain ⟨z, hz⟩ := h j hj; exact ⟨z, fun _ => hz⟩
    · exact ⟨d, fun q => absurd q hj⟩
  obtain ⟨f, hf⟩ := Classical.axiomOfChoice h2
  refine ⟨(List.range n).map f, by simp, fun j hj => ?_⟩
  have : j < n := by simpa using hj
  simpa using hf j this
theorem XI.read (h : XI w D a n) : ∃ L : List Int, L.length = n ∧ IA w a L := by
  obtain ⟨L, h1, h2⟩ := chooseX (n := n) (0 : Int) (P := fun j z => ∃ b o, a = some ⟨b, o, none⟩ ∧ b < w.heap.size ∧ w.cell? ⟨b, o + j, none⟩ = some (.int .i64 z)) (fun j hj => by
    obtain ⟨b, o, e, _, h3, ⟨z, h4⟩, _⟩ := h.at' j hj
    exact ⟨z, b, o, e, h3, h4⟩)
  exact ⟨L, h1, ⟨fun j hj => h2 j hj⟩⟩
theorem XB.read (h : XB w D a n) : ∃ L : List Bool, L.length = n ∧ BoA w a L := by
  obtain ⟨L, h1, h2⟩ := chooseX (n := n) false (P := fun j z => ∃ b o, a = some ⟨b, o, none⟩ ∧ b < w.heap.size ∧ w.cell? ⟨b, o + j, none⟩ = some (.bool z)) (fun j hj => by
    obtain ⟨b, o, e, _, h3, ⟨z, h4⟩, _⟩ := h.at' j hj
    exact ⟨z, b, o, e, h3, h4⟩)
  exact ⟨L, h1, ⟨fun j hj => h2 j hj⟩⟩
theorem XR.read (h : XR w D a n) : ∃ L : List (List Int), L.length = n ∧ RwX w a L ∧ ∀ r ∈ L, r.length ≤ 1000000000 := by
  obtain ⟨L, h1, h2⟩ := chooseX (n := n) ([] : List Int) (P := fun k r => r.length ≤ 1000000000 ∧ ∃ b o, a = some ⟨b, o, none⟩ ∧ b < w.heap.size ∧ ∃ a1 c1, w.cell? ⟨b, o + k, none⟩ = some (.slice a1 r.length c1) ∧ IA w a1 r ∧ r.length ≤ c1 ∧ (a1 = none → c1 = 0)) (fun k hk => by
    obtain ⟨b, o, e, h3, a1, n1, c1, h4, h5, h6, h7, h9⟩ := h.at' k hk
    obtain ⟨r, e1, h8⟩ := h7.read
    exact ⟨r, by omega, b, o, e, h3, a1, c1, by rw [e1]; exact h4, h8, by omega, h9⟩)
  exact ⟨L, h1, ⟨fun j hj => (h2 j hj).2⟩, fun r hr => by
    obtain ⟨k, hk, rfl⟩ := List.getElem_of_mem hr
    exact (h2 k hk).1⟩
end
/-- A pairing whose contents are whatever they are. -/
structure PX (w : World) (D : Nat → Prop) (q : PrL) (nN nO nM nP nB : Nat) : Prop where
  n : XR w D q.aN nN
  o : XR w D q.aO nO
  m : XR w D q.aM nM
  p' : XR w D q.aP nP
  b : XB w D q.aB nB
section
variable {w w' : World} {D : Nat → Prop} {q : PrL} {nN nO nM nP nB : Nat}
theorem PX.past (h : PX w D q nN nO nM nP nB) (hb : Below w.heap.size w w') : PX w' D q nN nO nM nP nB := ⟨h.n.past hb, h.o.past hb, h.m.past hb, h.p'.past hb, h.b.past hb⟩
theorem PX.setI (h : PX w D q nN nO nM nP nB) {p : Addr} {z0 : Int} (hp : w.cell? p = some (.int .i64 z0)) (z : Int) : PX (w.setCell p (.int .i64 z)) D q nN nO nM nP nB := ⟨h.n.setI hp z, h.o.setI hp z, h.m.setI hp z, h.p'.setI hp z, h.b.setI hp z⟩
theorem PX.setB (h : PX w D q nN nO nM nP nB) {p : Addr} {z0 : Bool} (hp : w.cell? p = some (.bool z0)) (z : Bool) : PX (w.setCell p (.bool z)) D q nN nO nM nP nB := ⟨h.n.setB hp z, h.o.setB hp z, h.m.setB hp z, h.p'.setB hp z, h.b.setB hp z⟩
theorem PX.read (h : PX w D q nN nO nM nP nB) (sl sr : Int) (el : Bool) (hn : nN ≤ 1000000000) (hm : nM ≤ 1000000000) (hB : nB ≤ 1000000000) : ∃ N O M P B, N.length = nN ∧ O.length = nO ∧ M.length = nM ∧ P.length = nP ∧ B.length = nB ∧ PrX w ⟨sl, N, O, sr, M, P, B, el⟩ q ∧ PrS ⟨sl, N, O, sr, M, P, B, el⟩ := by
  obtain ⟨N, e1, h1, s1⟩ := h.n.read
  obtain ⟨O, e2, h2, s2⟩ := h.o.read
  obtain ⟨M, e3, h3, s3⟩ := h.m.read
  obtain ⟨P, e4, h4, s4⟩ := h.p'.read
  obtain ⟨B, e5, h5⟩ := h.b.read
  exact ⟨N, O, M, P, B, e1, e2, e3, e4, e5, ⟨h1, h2, h3, h4, h5⟩, ⟨by show N.length ≤ _; omega, by show M.length ≤ _; omega, by show B.length ≤ _; omega, s1, s2, s3, s4⟩⟩
end
/-- What is written over: blocks of a kind alone. -/
structure Kpd (w w' : World) (D : Nat → Prop) : Prop where
  os : w'.os = w.os
  tape : w'.tape = w.tape
  output : w'.output = w.output
  size : w.heap.size ≤ w'.heap.size
  oth : ∀ k, k < w.heap.size → ¬ D k → w'.heap[k]? = w.heap[k]?
theorem Kpd.refl (w : World) (D : Nat → Prop) : Kpd w w D := ⟨rfl, rfl, rfl, Nat.le_refl _, fun _ _ _ => rfl⟩
theorem Kpd.trans {a b c : World} {D : Nat → Prop} (h : Kpd a b D) (k : Kpd b c D) : Kpd a c D := ⟨k.os.trans h.os, k.tape.trans h.tape, k.output.trans h.output, Nat.le_trans h.size k.size, fun i hi hd => (k.oth i (Nat.lt_of_lt_of_le hi h.size) hd).trans (h.oth i hi hd)⟩
theorem Kpd.of {w w' : World} (h : Below w.heap.size w w') (D : Nat → Prop) : Kpd w w' D := ⟨h.os, h.tape, h.output, h.size, fun k hk _ => h.block k hk⟩
theorem Kpd.set (w : World) {D : Nat → Prop} {b : Nat} (hb : D b) (o : Nat) (v : Value) : Kpd w (w.setCell ⟨b, o, none⟩ v) D := ⟨rfl, rfl, rfl, by simp [World.setCell], fun k _ hk => Below.heap_setCell w _ _ k (fun e => hk (by subst e; exact hb))⟩
theorem Kpd.cell {w w' : World} {D : Nat → Prop} (h : Kpd w w' D) {b o : Nat} {u : Value} (hb : ¬ D b) (hc : w.cell? ⟨b, o, none⟩ = some u) : w'.cell? ⟨b, o, none⟩ = some u := (World.cell?_of_block (w := w) (h.oth b (World.block_lt_of_cell? _ _ hc) hb)).trans hc
theorem three_boxes (w : World) (a b c : Array Value) (t : TypeId) : ∃ w0 w1 w2, w.alloc (.cells a t) = w0 ∧ w0.alloc (.cells b t) = w1 ∧ w1.alloc (.cells c t) = w2 ∧ w0.heap.size = w.heap.size + 1 ∧ w1.heap.size = w.heap.size + 2 ∧ w2.heap.size = w.heap.size + 3 ∧ w1.heap[w.heap.size]? = some (.cells a t (0, 0)) ∧ w2.heap[w.heap.size]? = some (.cells a t (0, 0)) ∧ w2.heap[w0.heap.size]? = some (.cells b t (0, 0)) ∧ w2.heap[w1.heap.size]? = some (.cells c t (0, 0)) ∧ Below w.heap.size w w2 := by
  have h0 : (w.alloc (.cells a t)).heap[w.heap.size]? = some (.cells a t (0, 0)) := heap_alloc_new w _
  have h1 : ((w.alloc (.cells a t)).alloc (.cells b t)).heap[w.heap.size]? = some (.cells a t (0, 0)) := by rw [Below.heap_alloc _ _ _ (by simp)]; exact h0
  refine ⟨_, _, _, rfl, rfl, rfl, by simp, by simp, by simp, h1, ?_, ?_, ?_, ?_⟩
  · rw [Below.heap_alloc _ _ _ (by simp; omega)]; exact h1
  · rw [Below.heap_alloc _ _ _ (by simp)]; exact heap_alloc_new _ _
  · exact heap_alloc_new _ _
  · exact (((Below.refl _ _).alloc (Nat.le_refl _) _).alloc (by simp) _).alloc (by simp; omega) _
theorem frz {V : World} {X : Nat} {cs : Array Value} {t : TypeId} (h : V.heap[X]? = some (.cells cs t (0, 0))) (k : Nat) : V.frozen? ⟨X, k, none⟩ = false := by simp [World.frozen?, h]
/-- The three boxes of Pairing. -/
structure Bx3 (w V : World) (X R Q : Nat) (p r q : Array Value) : Prop where
  x : V.heap[X]? = some (.cells p 27 (0, 0))
  r : V.heap[R]? = some (.cells r 27 (0, 0))
  q : V.heap[Q]? = some (.cells q 27 (0, 0))
  ne : X ≠ Q ∧ R ≠ Q ∧ X ≠ R
  lo : w.heap.size ≤ X ∧ w.heap.size ≤ R ∧ w.heap.size ≤ Q
  lt : X < V.heap.size ∧ R < V.heap.size ∧ Q < V.heap.size
  bel : Below w.heap.size w V
theorem Bx3.past {w V V' : World} {X R Q : Nat} {p r q : Array Value} (h : Bx3 w V X R Q p r q) (hb : Below V.heap.size V V') : Bx3 w V' X R Q p r q :=
  ⟨(hb.block _ h.lt.1).trans h.x, (hb.block _ h.lt.2.1).trans h.r, (hb.block _ h.lt.2.2).trans h.q, h.ne, h.lo, ⟨Nat.lt_of_lt_of_le h.lt.1 hb.size, Nat.lt_of_lt_of_le h.lt.2.1 hb.size, Nat.lt_of_lt_of_le h.lt.2.2 hb.size⟩, h.bel.trans (hb.mono h.bel.size)⟩
theorem Bx3.past' {w V V' : World} {X R Q B : Nat} {p r q : Array Value} (h : Bx3 w V X R Q p r q) (hb : Below B V V') (hx : X < B ∧ R < B ∧ Q < B) (hw : w.heap.size ≤ B) : Bx3 w V' X R Q p r q :=
  ⟨(hb.block _ hx.1).trans h.x, (hb.block _ hx.2.1).trans h.r, (hb.block _ hx.2.2).trans h.q, h.ne, h.lo, ⟨Nat.lt_of_lt_of_le h.lt.1 hb.size, Nat.lt_of_lt_of_le h.lt.2.1 hb.size, Nat.lt_of_lt_of_le h.lt.2.2 hb.size⟩, h.bel.trans (hb.mono hw)⟩
theorem Bx3.putR {w V : World} {X R Q : Nat} {p r q : Array Value} (h : Bx3 w V X R Q p r q) (k : Nat) (v : Value) : Bx3 w (V.setCell ⟨R, k, none⟩ v) X R Q p (r.setIfInBounds k v) q :=
  ⟨(Below.heap_setCell _ _ _ _ h.ne.2.2).trans h.x, heap_setCell_same _ _ k _ _ v h.r, (Below.heap_setCell _ _ _ _ (fun e => h.ne.2.1 e.symm)).trans h.q, h.ne, h.lo, by rw [set_size]; exact h.lt, h.bel.setCell (p := ⟨R, k, none⟩) h.lo.2.1 _⟩
theorem Bx3.put {w V : World} {X R Q : Nat} {p r q : Array Value} (h : Bx3 w V X R Q p r q) (k : Nat) (v : Value) : Bx3 w (V.setCell ⟨Q, k, none⟩ v) X R Q p r (q.setIfInBounds k v) :=
  ⟨(Below.heap_setCell _ _ _ _ h.ne.1).trans h.x, (Below.heap_setCell _ _ _ _ h.ne.2.1).trans h.r, heap_setCell_same _ _ k _ _ v h.q, h.ne, h.lo, by rw [set_size]; exact h.lt, h.bel.setCell (p := ⟨Q, k, none⟩) h.lo.2.2 _⟩
theorem Bx3.cells {w V : World} {X R Q : Nat} {p : Array Value} {q : Array Value} {r0 r1 r2 r3 r4 r5 r6 r7 : Value} (h : Bx3 w V X R Q p q #[r0, r1, r2, r3, r4, r5, r6, r7]) : (V.cell? ⟨Q, 0, none⟩ = some r0 ∧ V.cell? ⟨Q, 1, none⟩ = some r1 ∧ V.cell? ⟨Q, 2, none⟩ = some r2 ∧ V.cell? ⟨Q, 3, none⟩ = some r3) ∧ V.cell? ⟨Q, 4, none⟩ = some r4 ∧ V.cell? ⟨Q, 5, none⟩ = some r5 ∧ V.cell? ⟨Q, 6, none⟩ = some r6 ∧ V.cell? ⟨Q, 7, none⟩ = some r7 := row8p h.q
theorem Bx3.pcells {w V : World} {X R Q : Nat} {p : Array Value} {q : Array Value} {r0 r1 r2 r3 r4 r5 r6 r7 : Value} (h : Bx3 w V X R Q #[r0, r1, r2, r3, r4, r5, r6, r7] p q) : (V.cell? ⟨X, 0, none⟩ = some r0 ∧ V.cell? ⟨X, 1, none⟩ = some r1 ∧ V.cell? ⟨X, 2, none⟩ = some r2 ∧ V.cell? ⟨X, 3, none⟩ = some r3) ∧ V.cell? ⟨X, 4, none⟩ = some r4 ∧ V.cell? ⟨X, 5, none⟩ = some r5 ∧ V.cell? ⟨X, 6, none⟩ = some r6 ∧ V.cell? ⟨X, 7, none⟩ = some r7 := row8p h.x
def OwnB (w : World) (base : Nat) (v : Value) (ps : List Bool) : Prop := w.ownsRow base 4 1 v ps.length (ps.map Value.bool)
theorem OwnB.form {w : World} {base : Nat} {v : Value} {L : List Bool} (h : OwnB w base v L) : ∃ a c, v = .slice a L.length c := by
  rcases h.2 with ⟨e, h2⟩ | ⟨g, cap, cur, e, _⟩
  · have hl : L.length = 0 := by have := h.1; simp at h2; simp [h2]
    exact ⟨none, 0, by rw [e, hl]⟩
  · exact ⟨_, cap, e⟩
theorem app_nilB (w : World) (ty : TypeId) : (Builtin.append_ #[25, 25] ty #[.slice none 0 0, .slice none 0 0]).run Tryd.prog w = .ok (.slice none 0 0) w := by
  go_simp
theorem wpList_spreadB {ops : Array Oper} {rest : List Oper} {op : Oper} {a : Act} {w : World} {Q : Exit → Act → World → Prop} (hgd : op.guard = none) (s x : Operand) (ho : op.op = .call { callee := .builtin .append, args := #[s, x], argTypes := #[25, 25] })
    (aN : Option Addr) (L : List Bool) (cN base : Nat) (hs : a.eval s = .slice none 0 0) (hx : a.eval x = .slice aN L.length cN) (hnil : aN = none → cN = 0) (ha : BoA w aN L) (hl : L.length ≤ 17592186044416) (hb : base ≤ w.heap.size)
    (h : ∀ v' w', OwnB w' base v' L → w.grownBy w' none → wpList Tryd.prog ops Q rest (a.put op.dst v') w') : wpList Tryd.prog ops Q (op :: rest) a w := by
  obtain ⟨i0, hi, hz0, hz1, hz2⟩ := info_parts infoBool
  cases aN with
  | none =>
    have hL : L = [] := by
      cases L with
      | nil => rfl
      | cons y r => obtain ⟨b, off, e, _⟩ := ha.at' 0 (by simp); cases e
    subst hL
    have hc := hnil rfl
    subst hc
    refine wpList_plain hgd fun K hK => ?_
    have hr := app_nilB w op.type
    unfold Oper.wp execOp
    simp only [ho, resolve, invoke, builtin, Sem.run_bind, Sem.run_pure, Result.andThen_ok, List.map_toArray, List.map_cons, List.map_nil, hs, hx, List.length_nil, hr]
    exact hK _ _ (h _ _ (World.ownsRow_nil _ _ _ _) ⟨rfl, rfl, rfl, Nat.le_refl _, fun _ _ _ => rfl⟩)
  | some ad =>
    refine wpList_append_own _ hgd s x 25 ho base 4 i0 (.bool false) 1 1 Tryd.underlying25 hi hz0 hz1 hz2 rfl (by decide) (.slice none 0 0) 0 [] hs (World.ownsRow_nil _ _ _ _) ad L.length cN (L.map (Value.bool)) hx (by simp) (fun j u hu => ?_) (fun u hu => by obtain ⟨y, _, rfl⟩ := List.mem_map.1 hu; rfl) (by unfold maxLen; omega) (by omega) hb (fun v' w' h1 h2 _ => h v' w' (by rw [Nat.zero_add] at h1; exact h1) h2)
    have hj : j < L.length := by have := (List.getElem?_eq_some_iff.1 hu).1; simpa using this
    obtain ⟨b, off, e, h1, h2⟩ := ha.at' j hj
    cases e
    rw [Addr.add_mid, h2]
    have : (L.map (Value.bool))[j]? = some (.bool L[j]) := by simp [hj]
    rw [this] at hu
    exact hu
theorem RkL.putQ {V : World} {lo g c Q k : Nat} {L : List (List Int)} (h : RkL V lo g c L) (hq : Q < lo) (v : Value) : RkL (V.setCell ⟨Q, k, none⟩ v) lo g c L := h.keep (fun j hj _ => Below.heap_setCell _ _ _ _ (by show j ≠ Q; omega))
/-- The marks behind bools. -/
def mkB (k : Nat) : List Bool := (List.range k).map (fun i => decide (i % 2 = 0))
theorem mkB_succ (k : Nat) : mkB (k + 1) = mkB k ++ [decide (k % 2 = 0)] := by unfold mkB; rw [List.range_succ, List.map_append]; rfl
theorem mkB_len (k : Nat) : (mkB k).length = k := by simp [mkB]
/-- Bools with marks behind them. -/
def BoM (w : World) (lo g c : Nat) (B : List Bool) : Prop := OwnB w lo (.slice (some ⟨g, 0, none⟩) (B ++ mkB 64).length c) (B ++ mkB 64)
section
variable {w w' : World} {lo g c : Nat} {B : List Bool}
theorem BoM.past (h : BoM w lo g c B) (hb : Below w.heap.size w w') : BoM w' lo g c B := row_later h hb
theorem BoM.lower (h : BoM w lo g c B) {b : Nat} (hb : b ≤ lo) : BoM w b g c B := owns_lower h hb
theorem BoM.cell (h : BoM w lo g c B) {k : Nat} (hk : k < B.length + 64) : w.cell? ⟨g, k, none⟩ = ((B ++ mkB 64).map Value.bool)[k]? := World.ownsRow.cellAt h k (by rw [List.length_append, mkB_len]; omega)
theorem BoM.at (h : BoM w lo g c B) {k : Nat} (hk : k < B.length) : w.cell? ⟨g, k, none⟩ = some (.bool B[k]) := by
  rw [h.cell (by omega), List.getElem?_map, List.getElem?_append_left hk, List.getElem?_eq_getElem hk]
  rfl
theorem BoM.mark (h : BoM w lo g c B) {k : Nat} (hk : k < 64) : w.cell? ⟨g, B.length + k, none⟩ = some (.bool (decide (k % 2 = 0))) := by
  rw [h.cell (by omega), List.getElem?_map, List.getElem?_append_right (by omega), Nat.add_sub_cancel_left]
  simp [mkB, hk]
theorem BoM.boa (h : BoM w lo g c B) : BoA w (some ⟨g, 0, none⟩) B := ⟨fun k hk => ⟨g, 0, rfl, (World.ownsRow.lt h g rfl).2, by rw [Nat.zero_add]; exact h.at hk⟩⟩
theorem BoM.cap (h : BoM w lo g c B) : B.length + 64 ≤ c := by
  rcases h.2 with ⟨e, _⟩ | ⟨g', cap, cur, e, _, _, q3, _⟩
  · cases e
  · cases e; rw [List.length_append, mkB_len] at q3; exact q3
theorem BoM.xb {D : Nat → Prop} (h : BoM w lo g c B) (hd : D g) : XB w D (some ⟨g, 0, none⟩) B.length := ⟨fun j hj => ⟨g, 0, rfl, hd, (World.ownsRow.lt h g rfl).2, ⟨_, by rw [Nat.zero_add]; exact h.at hj⟩, World.ownsRow.frozenAt h _⟩⟩
end
theorem MkL.xi {w : World} {lo g c : Nat} {L : List Int} {D : Nat → Prop} (h : MkL w lo g c L) (hd : D g) : XI w D (some ⟨g, 0, none⟩) L.length := ⟨fun j hj => by
  obtain ⟨b, o, e, h1, h2⟩ := h.ia.at' j hj
  cases e
  exact ⟨g, 0, rfl, hd, h1, ⟨_, h2⟩, World.ownsRow.frozenAt h _⟩⟩
theorem RkL.xr {w : World} {lo hi g c : Nat} {L : List (List Int)} (h : RkL w lo g c L) (hh : w.heap.size ≤ hi) (hr : ∀ r ∈ L, r.length ≤ 1000000000) : XR w (fun b => lo ≤ b ∧ b < hi) (some ⟨g, 0, none⟩) L.length := ⟨fun k hk => by
  obtain ⟨g1, c1, h1, h2⟩ := h.row hk
  exact ⟨g, 0, rfl, h.blk.2, _, _, c1, by rw [Nat.zero_add]; exact h1, hr _ (List.getElem_mem hk), by have := h2.all.2; omega, h2.xi ⟨h2.ty.1, by have := h2.ty.2.1; omega⟩, fun e => nomatch e⟩⟩
/-- A pairing that pairing made. -/
structure PgM (w : World) (lo : Nat) (p : Prg) (G1 G2 G3 G4 g7 d1 d2 d3 d4 c7 : Nat) : Prop where
  n : RkL w lo G1 d1 p.N
  o : RkL w lo G2 d2 p.O
  m : RkL w lo G3 d3 p.M
  p' : RkL w lo G4 d4 p.P
  b : BoM w lo g7 c7 p.B
section
variable {w w' : World} {lo G1 G2 G3 G4 g7 d1 d2 d3 d4 c7 : Nat} {p : Prg}
theorem PgM.past (h : PgM w lo p G1 G2 G3 G4 g7 d1 d2 d3 d4 c7) (hb : Below w.heap.size w w') : PgM w' lo p G1 G2 G3 G4 g7 d1 d2 d3 d4 c7 := ⟨h.n.past hb, h.o.past hb, h.m.past hb, h.p'.past hb, h.b.past hb⟩
theorem PgM.prx (h : PgM w lo p G1 G2 G3 G4 g7 d1 d2 d3 d4 c7) : PrX w p ⟨some ⟨G1, 0, none⟩, some ⟨G2, 0, none⟩, some ⟨G3, 0, none⟩, some ⟨G4, 0, none⟩, some ⟨g7, 0, none⟩, d1, d2, d3, d4, c7⟩ := ⟨h.n.rwx, h.o.rwx, h.m.rwx, h.p'.rwx, h.b.boa⟩
theorem PgM.px (h : PgM w lo p G1 G2 G3 G4 g7 d1 d2 d3 d4 c7) (hs : PrS p) {hi : Nat} (hh : w.heap.size ≤ hi) : PX w (fun b => lo ≤ b ∧ b < hi) ⟨some ⟨G1, 0, none⟩, some ⟨G2, 0, none⟩, some ⟨G3, 0, none⟩, some ⟨G4, 0, none⟩, some ⟨g7, 0, none⟩, d1, d2, d3, d4, c7⟩ p.N.length p.O.length p.M.length p.P.length p.B.length :=
  ⟨h.n.xr hh hs.nr, h.o.xr hh hs.or, h.m.xr hh hs.mr, h.p'.xr hh hs.pr, h.b.xb ⟨(World.ownsRow.lt h.b g7 rfl).1, by have := (World.ownsRow.lt h.b g7 rfl).2; omega⟩⟩
end
end Go.Proofs.YtekimkdaoblcgaaDoor
namespace Go.Proofs.YtekimkdaoblcgaaDoor
open Go.RowKit Go.Shelf
/-- What New was handed, whatever its contents are. -/
structure FX (w : World) (D : Nat → Prop) (q : PrL) (nN nO nM nP nB : Nat) (aT : Option Addr) (nT : Nat) (aE : Option Addr) (nE : Nat) : Prop where
  px : PX w D q nN nO nM nP nB
  t : XI w D aT nT
  e : XR w D aE nE
section
variable {w w' : World} {D : Nat → Prop} {q : PrL} {nN nO nM nP nB nT nE : Nat} {aT aE : Option Addr}
theorem FX.past (h : FX w D q nN nO nM nP nB aT nT aE nE) (hb : Below w.heap.size w w') : FX w' D q nN nO nM nP nB aT nT aE nE := ⟨h.px.past hb, h.t.past hb, h.e.past hb⟩
theorem FX.setI (h : FX w D q nN nO nM nP nB aT nT aE nE) {p : Addr} {z0 : Int} (hp : w.cell? p = some (.int .i64 z0)) (z : Int) : FX (w.setCell p (.int .i64 z)) D q nN nO nM nP nB aT nT aE nE := ⟨h.px.setI hp z, h.t.setI p z, h.e.setI hp z⟩
theorem FX.setB (h : FX w D q nN nO nM nP nB aT nT aE nE) {p : Addr} {z0 : Bool} (hp : w.cell? p = some (.bool z0)) (z : Bool) : FX (w.setCell p (.bool z)) D q nN nO nM nP nB aT nT aE nE := ⟨h.px.setB hp z, h.t.setB hp z, h.e.setB hp z⟩
end
theorem cellS_setI {w : World} {p : Addr} {b o : Nat} {z0 : Int} {a : Option Addr} {n c : Nat} (h : w.cell? ⟨b, o, none⟩ = some (.slice a n c)) (hp : w.cell? p = some (.int .i64 z0)) (z : Int) : (w.setCell p (.int .i64 z)).cell? ⟨b, o, none⟩ = some (.slice a n c) :=
  (World.cell?_setCell_other _ _ _ _ (fun e => by rw [← e, hp] at h; cases h)).trans h
theorem two_rows (w : World) (a b : Array Value) (t t' : TypeId) : ∃ w0, (w.alloc (.cells a t)).alloc (.cells b t') = w0 ∧ Below w.heap.size w w0 ∧ w0.heap.size = w.heap.size + 1 + 1 ∧ w0.heap[w.heap.size]? = some (.cells a t (0, 0)) ∧ w0.heap[w.heap.size + 1]? = some (.cells b t' (0, 0)) := by
  refine ⟨_, rfl, ((Below.refl _ _).alloc (Nat.le_refl _) _).alloc (by simp) _, by simp, ?_, ?_⟩
  · rw [Below.heap_alloc _ _ _ (by simp)]
    exact heap_alloc_new w _
  · have h := heap_alloc_new (w.alloc (.cells a t)) (.cells b t')
    simpa using h
def sel4 {α : Type} (a b c d : α) (j : Nat) : α := if j = 0 then a else if j = 1 then b else if j = 2 then c else d
theorem row4c {W : World} {X : Nat} {t : TypeId} {a b c d : Value} (h : W.heap[X]? = some (.cells #[a, b, c, d] t (0, 0))) {j : Nat} (hj : j < 4) : W.cell? ⟨X, j, none⟩ = some (sel4 a b c d j) := by
  rw [cell_of_row _ _ _ _ _ _ h]
  match j, hj with
  | 0, _ => rfl
  | 1, _ => rfl
  | 2, _ => rfl
  | 3, _ => rfl
theorem sel4_slice (a b c d : Option Addr) (n1 n2 n3 n4 c1 c2 c3 c4 j : Nat) (hj : j < 4) : sel4 (Value.slice a n1 c1) (.slice b n2 c2) (.slice c n3 c3) (.slice d n4 c4) j = .slice (sel4 a b c d j) (sel4 n1 n2 n3 n4 j) (sel4 c1 c2 c3 c4 j) := by
  match j, hj with
  | 0, _ => rfl
  | 1, _ => rfl
  | 2, _ => rfl
  | 3, _ => rfl
theorem PX.sel {w : World} {D : Nat → Prop} {q : PrL} {nN nO nM nP nB : Nat} (h : PX w D q nN nO nM nP nB) {j : Nat} (hj : j < 4) : XR w D (sel4 q.aN q.aO q.aM q.aP j) (sel4 nN nO nM nP j) := by
  match j, hj with
  | 0, _ => exact h.n
  | 1, _ => exact h.o
  | 2, _ => exact h.m
  | 3, _ => exact h.p'
theorem sel4_le {a b c d m j : Nat} (ha : a ≤ m) (hb : b ≤ m) (hc : c ≤ m) (hd : d ≤ m) : sel4 a b c d j ≤ m := by
  unfold sel4
  (repeat' split) <;> assumption
set_option maxRecDepth 100000 in
set_option maxHeartbeats 1600000 in
theorem wreck_any (sl sr : Int) (el : Bool) (nN nO nM nP nB nT nE cN cO cM cP cB : Nat) (aN aO aM aP aB aT aE : Option Addr) (D : Nat → Prop) (w : World) (hD : ∀ k, D k → k < w.heap.size) (hx : FX w D ⟨aN, aO, aM, aP, aB, cN, cO, cM, cP, cB⟩ nN nO nM nP nB aT nT aE nE) (h1 : nN ≤ 1000000000) (h2 : nO ≤ 1000000000) (h3 : nM ≤ 1000000000) (h4 : nP ≤ 1000000000) (h5 : nB ≤ 1000000000) :
    Calls Tryd.prog 19 #[.agg #[.int .i64 sl, .slice aN nN cN, .slice aO nO cO, .int .i64 sr, .slice aM nM cM, .slice aP nP cP, .slice aB nB cB, .bool el]] w fun e w' => e = .returned (.tuple #[]) ∧ FX w' D ⟨aN, aO, aM, aP, aB, cN, cO, cM, cP, cB⟩ nN nO nM nP nB aT nT aE nE ∧ Kpd w w' D := by
  obtain ⟨w1, hw1, hb1, hz1, g1, g2⟩ := two_rows w #[.int .i64 sl, .slice aN nN cN, .slice aO nO cO, .int .i64 sr, .slice aM nM cM, .slice aP nP cP, .slice aB nB cB, .bool el] #[.slice aN nN cN, .slice aO nO cO, .slice aM nM cM, .slice aP nP cP] 27 22
  have hx1 : (w.alloc (.cells #[.int .i64 sl, .slice aN nN cN, .slice aO nO cO, .int .i64 sr, .slice aM nM cM, .slice aP nP cP, .slice aB nB cB, .bool el] 27)).heap[w.heap.size]? = some (.cells #[.int .i64 sl, .slice aN nN cN, .slice aO nO cO, .int .i64 sr, .slice aM nM cM, .slice aP nP cP, .slice aB nB cB, .bool el] 27 (0, 0)) := heap_alloc_new _ _
  obtain ⟨⟨x0, x1, x2, x3⟩, x4, x5, x6, x7⟩ := row8p hx1
  have HC : Hid (∀ V : World, Kpd w1 V D → V.cell? ⟨w.heap.size, 6, none⟩ = some (.slice aB nB cB) ∧ ∀ j, j < 4 → V.cell? ⟨w.heap.size + 1, j, none⟩ = some (.slice (sel4 aN aO aM aP j) (sel4 nN nO nM nP j) (sel4 cN cO cM cP j))) := hid0 (fun V hV => ⟨hV.cell (fun h => by have := hD _ h; omega) (row8p g1).2.2.2.1, fun j hj => hV.cell (fun h => by have := hD _ h; omega) ((row4c g2 hj).trans (by rw [sel4_slice _ _ _ _ _ _ _ _ _ _ _ _ _ hj]))⟩)
  obtain ⟨F, hF⟩ : ∃ F : World → Prop, F = fun V => FX V D ⟨aN, aO, aM, aP, aB, cN, cO, cM, cP, cB⟩ nN nO nM nP nB aT nT aE nE := ⟨_, rfl⟩
  have HX0 : Hid (F w1) := hid0 (by rw [hF]; exact hx.past hb1)
  have HXR : Hid (∀ V, F V → (∀ j, j < 4 → XR V D (sel4 aN aO aM aP j) (sel4 nN nO nM nP j)) ∧ XB V D aB nB) := hid0 (fun V hV => by rw [hF] at hV; exact ⟨fun j hj => hV.px.sel hj, hV.px.b⟩)
  have HSI : Hid (∀ (V : World) (p : Addr) (z0 : Int), F V → V.cell? p = some (.int .i64 z0) → F (V.setCell p (.int .i64 0))) := hid0 (fun V p z0 hV hp => by rw [hF] at hV ⊢; exact hV.setI hp 0)
  have HSB : Hid (∀ (V : World) (p : Addr) (z0 z : Bool), F V → V.cell? p = some (.bool z0) → F (V.setCell p (.bool z))) := hid0 (fun V p z0 z hV hp => by rw [hF] at hV ⊢; exact hV.setB hp z)
  have HNl : Hid (∀ j, sel4 nN nO nM nP j ≤ 1000000000) := hid0 (fun j => sel4_le h1 h2 h3 h4)
  have HE : Hid (∀ V : World, F V → Kpd w1 V D → FX V D ⟨aN, aO, aM, aP, aB, cN, cO, cM, cP, cB⟩ nN nO nM nP nB aT nT aE nE ∧ Kpd w V D) := hid0 (fun V hV hk => ⟨by rw [hF] at hV; exact hV, (Kpd.of hb1 D).trans hk⟩)
  have HDr : Hid (∀ V : World, F V → F V.drew) := hid0 (fun V hV => by rw [hF] at hV ⊢; exact hV.past (Below.refl _ _).drew)
  have HKr := hid0 (Kpd.refl w1 D)
  clear hx1 hx hF hb1 hz1 g1 g2
  go_enter Tryd.func19, Tryd.ntmps19
  go_upto_region 3 with (fail)
  clear x0 x1 x2 x3 x4 x5 x6 x7 hw1
  generalize sel4 aN aO aM aP = aj at *
  generalize sel4 nN nO nM nP = nj at *
  generalize sel4 cN cO cM cP = cj at *
  go_loopw [3, 4, 5] (fun x _ _ wr => ∃ i : Nat, i ≤ 4 ∧ x = .int .i64 (i : Int) ∧ Hid (F wr) ∧ Hid (Kpd w1 wr D)) (fun x _ _ _ => 4 - (intOf x).toNat)
  case atStart => exact ⟨0, Nat.zero_le _, rfl, HX0, HKr⟩
  case round =>
    clear HX0 HKr
    obtain ⟨i, hi4, rfl, HF, HK⟩ := hrel
    by_cases hlt : i < 4
    · have hiI : (i : Int) < 4 := by omega
      have hiI0 : (0 : Int) ≤ (i : Int) := by omega
      have hni := HNl.out i
      go_wp2
      go_loopw [4, 5] (fun x _ wr => ∃ k : Nat, k ≤ nj i ∧ x = .int .i64 (k : Int) ∧ Hid (F wr) ∧ Hid (Kpd w1 wr D)) (fun x _ _ => nj i - (intOf x).toNat)
      case atStart => exact ⟨0, Nat.zero_le _, rfl, HF, HK⟩
      case round =>
        clear HF HK
        obtain ⟨k, hk, rfl, HF, HK⟩ := hrel
        have y0 := (HC.out wr HK.out).2 i hlt
        by_cases hkn : k < nj i
        · have hkI : (k : Int) < (nj i : Int) := by omega
          have hkI0 : (0 : Int) ≤ (k : Int) := by omega
          obtain ⟨b, o, ea, _, a1, n1, c1, d1, hn1, _, hxi, _⟩ := ((HXR.out wr HF.out).1 i hlt).at' k hkn
          have HXI := hid0 hxi
          have HD1 := hid0 d1
          rw [ea] at y0
          have HEa := hid0 ea
          clear hxi ea d1
          go_wp2
          go_loopw [5] (fun x wr => ∃ c : Nat, c ≤ n1 ∧ x = .int .i64 (c : Int) ∧ Hid (F wr) ∧ Hid (Kpd w1 wr D) ∧ Hid (wr.cell? ⟨b, o + k, none⟩ = some (.slice a1 n1 c1)) ∧ Hid (XI wr D a1 n1)) (fun x _ => n1 - (intOf x).toNat)
          case atStart => exact ⟨0, Nat.zero_le _, rfl, HF, HK, HD1, HXI⟩
          case round =>
            clear HF HK HD1 HXI y0
            obtain ⟨c, hc, rfl, HF, HK, HD1, HXI⟩ := hrel
            have y0 := (HC.out wr HK.out).2 i hlt
            rw [HEa.out] at y0
            have d1 := HD1.out
            by_cases hcn : c < n1
            · have hcI : (c : Int) < (n1 : Int) := by omega
              have hcI0 : (0 : Int) ≤ (c : Int) := by omega
              obtain ⟨b1, o1, e1, hd, _, ⟨z, m1⟩, f1⟩ := HXI.out.at' c hcn
              have HF2 : Hid (F (wr.setCell ⟨b1, o1 + c, none⟩ (.int .i64 0))) := hid0 (HSI.out wr _ z HF.out m1)
              have HK2 : Hid (Kpd w1 (wr.setCell ⟨b1, o1 + c, none⟩ (.int .i64 0)) D) := hid0 (HK.out.trans (Kpd.set _ hd _ _))
              have HD2 := hid0 (cellS_setI d1 m1 0)
              have HXI2 : Hid (XI (wr.setCell ⟨b1, o1 + c, none⟩ (.int .i64 0)) D a1 n1) := hid0 (HXI.out.setI _ 0)
              subst e1
              clear HF HK HD1 HXI hd
              go_wp2
              go_roundw
              case rel => exact ⟨c + 1, hcn, by go_num, HF2, HK2, HD2, HXI2⟩
              case measure => simp [intOf]; omega
            · have hcI : ¬ (c : Int) < (n1 : Int) := by omega
              go_wp2
              go_roundw
              case rel => exact ⟨k + 1, hkn, by go_num, HF, HK⟩
              case measure => simp [intOf]; omega
        · have hkI : ¬ (k : Int) < (nj i : Int) := by omega
          go_wp2
          go_roundw
          case rel => exact ⟨i + 1, hlt, by go_num, HF, HK⟩
          case measure => simp [intOf]; omega
    · have hiI : ¬ (i : Int) < 4 := by omega
      clear hi4 hlt
      go_wp2
      go_loopw [6] (fun x wr => ∃ k : Nat, k ≤ nB ∧ x = .int .i64 (k : Int) ∧ Hid (F wr) ∧ Hid (Kpd w1 wr D)) (fun x _ => nB - (intOf x).toNat)
      case atStart => exact ⟨0, Nat.zero_le _, rfl, HF, HK⟩
      case round =>
        clear HF HK
        obtain ⟨k, hk, rfl, HF, HK⟩ := hrel
        have y0 := (HC.out wr HK.out).1
        by_cases hkn : k < nB
        · have hkI : (k : Int) < (nB : Int) := by omega
          have hkI0 : (0 : Int) ≤ (k : Int) := by omega
          obtain ⟨b, o, ea, hd, _, ⟨z, m1⟩, f1⟩ := (HXR.out wr HF.out).2.at' k hkn
          have HF2 : Hid (F (wr.setCell ⟨b, o + k, none⟩ (.bool (!z)))) := hid0 (HSB.out wr _ z _ HF.out m1)
          have HK2 : Hid (Kpd w1 (wr.setCell ⟨b, o + k, none⟩ (.bool (!z))) D) := hid0 (HK.out.trans (Kpd.set _ hd _ _))
          rw [ea] at y0
          clear HF HK hd ea
          go_wp2
          go_region
          go_wp2
          go_roundw
          case rel => exact ⟨k + 1, hkn, by go_num, hid0 (HDr.out _ HF2.out), hid0 (HK2.out.trans (Kpd.of (Below.refl _ _).drew D))⟩
          case measure => simp [intOf]; omega
        · have hkI : ¬ (k : Int) < (nB : Int) := by omega
          go_wp2
          refine bodyPost_end (results_none rfl _ _ _) rfl ?_
          have h := HE.out wr HF.out HK.out
          exact ⟨rfl, h.1, h.2⟩
end Go.Proofs.YtekimkdaoblcgaaDoor
namespace Go.Proofs.YtekimkdaoblcgaaDoor
open Go.RowKit Go.Shelf Go.Maps
theorem num_errC (A : Nat → Addr) (b : Bool) (w : World) (h : Sents w A) : Calls Tryd.prog 9 #[errC A b] w fun e w' => e = .returned (.int .i64 (numC b)) ∧ w' = w := by
  cases b with
  | true => exact kitNum_nil w
  | false => exact kitNum_at w A h 0 (by omega)
set_option maxRecDepth 10000 in
set_option maxHeartbeats 800000 in
theorem ints_any (L : List Int) (a : Option Addr) (cap : Nat) (w : World) (hl : L.length ≤ 1000000000) (ha : IA w a L) :
    Calls Tryd.prog 36 #[.slice a L.length cap] w fun e w' => ∃ v, e = .returned v ∧ OwnI w' w.heap.size v L ∧ Below w.heap.size w w' := by
  obtain ⟨i0, hi, hz0, hz1, hz2⟩ := info_parts infoInt
  have HA := hid0 ha
  clear ha
  go_enter Tryd.func36, Tryd.ntmps36
  go_wp2
  go_loopw [3, 4] (fun v i wr => ∃ k : Nat, k ≤ L.length ∧ i = .int .i64 (k : Int) ∧ Hid (OwnI wr w.heap.size v (L.take k)) ∧ Hid (Below w.heap.size w wr)) (fun _ i _ => L.length - (intOf i).toNat)
  case atStart => exact ⟨0, Nat.zero_le _, rfl, hid0 (World.ownsRow_nil _ _ _ _), hid0 (Below.refl _ _)⟩
  case round =>
    obtain ⟨k, hk, rfl, HO, HB⟩ := hrel
    have hbs := HB.out.size
    by_cases hlt : k < L.length
    · obtain ⟨b, off, rfl, hbw, hc⟩ := HA.out.at' k hlt
      have hc' := (HB.out.cell (p := ⟨b, off + k, none⟩) hbw).trans hc
      have hkI : (k : Int) < (L.length : Int) := by omega
      have hkI0 : (0 : Int) ≤ (k : Int) := by omega
      have HTK : Hid (L.take (k + 1) = L.take k ++ [L[k]]) := hid0 (by rw [List.take_add_one, List.getElem?_eq_getElem hlt]; rfl)
      have htl : (L.take k).length = k := by rw [List.length_take]; omega
      have hOO : wr.ownsRow w.heap.size 3 1 u3 k ((L.take k).map (Value.int .i64)) := by have h := HO.out; unfold OwnI at h; rw [htl] at h; exact h
      have HOO := hid0 hOO
      have HTL := hid0 htl
      generalize L[k] = s at *
      clear hc hOO htl
      go_wp2_with (at_builtin; refine wpList_append_own _ rfl _ _ 28 rfl w.heap.size 3 i0 (.int .i64 0) 1 8 Tryd.underlying28 hi hz0 hz1 hz2 rfl (by decide) _ _ _ rfl (HOO.out.alloc _) ⟨wr.heap.size, 0, none⟩ 1 1 [.int .i64 s] rfl rfl (cell_one_new _ _ _) ?c2b ?c3b ?c4b ?c5b ?_)
      case c2b => simp [Value.oneCell']
      case c3b => unfold maxLen; omega
      case c4b => omega
      case c5b => simp; omega
      intro v2 w4 hown' hgrow _
      rw [← List.map_take] at hown'
      obtain ⟨g1, g2⟩ := ownI_snoc (w := w) (base := w.heap.size) (L := L.take k) (c := s) (n := k) HTL.out.symm HO.out hown' hgrow HB.out (Nat.le_refl _)
      have HO4 : Hid (OwnI w4 w.heap.size v2 (L.take (k + 1))) := hid0 (by rw [HTK.out]; exact g1)
      have HB4 := hid0 g2
      clear hown' hgrow g1 g2 HOO HO HB
      go_wp2
      go_roundw
      case rel => exact ⟨k + 1, by omega, by go_num, HO4, HB4⟩
      case measure => simp [intOf]; omega
    · have hkI : ¬ (k : Int) < (L.length : Int) := by omega
      have HE : Hid (OwnI wr w.heap.size u3 L) := hid0 (by have h := HO.out; rw [List.take_of_length_le (by omega)] at h; exact h)
      go_wp2
      go_ret
      exact ⟨u3, rfl, HE.out, HB.out⟩
theorem fb_len (D : List Int) (B : List Bool) (el : Bool) (bef : Int) (hd : Nat → Bool) (n : Nat) : (fbF D B el bef hd n).length ≤ D.length + 2 := by
  unfold fbF
  split
  · simp
  · have h : (fbK D B el bef hd D.length).length ≤ D.length := by
      unfold fbK
      rw [List.length_map]
      exact Nat.le_trans (List.length_filter_le _ _) (by simp)
    simp only [List.length_cons, List.length_append, List.length_nil]
    omega
theorem sel4_all (a b c d : Option Addr) (n1 n2 n3 n4 c1 c2 c3 c4 : Nat) : slI (sel4 a b c d) (sel4 n1 n2 n3 n4) (sel4 c1 c2 c3 c4) = sel4 (Value.slice a n1 c1) (.slice b n2 c2) (.slice c n3 c3) (.slice d n4 c4) := by
  funext j
  unfold slI sel4
  repeat' split
  all_goals rfl
/-- Four lists, each made behind the one ahead. -/
theorem LoI.four {w W1 W2 W3 W4 V : World} {va vb vc vd : Value} {a b c d : List Int} (o1 : OwnI W1 w.heap.size va a) (o2 : OwnI W2 W1.heap.size vb b) (o3 : OwnI W3 W2.heap.size vc c) (o4 : OwnI W4 W3.heap.size vd d)
    (b0 : Below w.heap.size w W1) (b1 : Below W1.heap.size W1 W2) (b2 : Below W2.heap.size W2 W3) (b3 : Below W3.heap.size W3 W4) (b4 : Below W4.heap.size W4 V) : LoI V w.heap.size (sel4 va vb vc vd) (sel4 a b c d) := by
  have s0 := b0.size
  have s1 := b1.size
  have s2 := b2.size
  have s3 := b3.size
  have p1 : OwnI V w.heap.size va a := (((o1.past b1).past b2).past b3).past b4
  have p2 : OwnI V W1.heap.size vb b := ((o2.past b2).past b3).past b4
  have p3 : OwnI V W2.heap.size vc c := (o3.past b3).past b4
  have p4 : OwnI V W3.heap.size vd d := o4.past b4
  have l1 : ∀ g, va.ownBlock = some g → w.heap.size ≤ g ∧ g < W1.heap.size := fun g h => World.ownsRow.lt o1 g h
  have l2 : ∀ g, vb.ownBlock = some g → W1.heap.size ≤ g ∧ g < W2.heap.size := fun g h => World.ownsRow.lt o2 g h
  have l3 : ∀ g, vc.ownBlock = some g → W2.heap.size ≤ g ∧ g < W3.heap.size := fun g h => World.ownsRow.lt o3 g h
  have l4 : ∀ g, vd.ownBlock = some g → W3.heap.size ≤ g ∧ g < W4.heap.size := fun g h => World.ownsRow.lt o4 g h
  refine ⟨fun j hj => ?_, fun i j hi hj hne g h1 h2 => ?_⟩
  · match j, hj with
    | 0, _ => exact p1
    | 1, _ => exact owns_lower p2 (by omega)
    | 2, _ => exact owns_lower p3 (by omega)
    | 3, _ => exact owns_lower p4 (by omega)
  · have key : ∀ j, j < 4 → ∀ g, (sel4 va vb vc vd j).ownBlock = some g → (j = 0 → g < W1.heap.size) ∧ (j = 1 → W1.heap.size ≤ g ∧ g < W2.heap.size) ∧ (j = 2 → W2.heap.size ≤ g ∧ g < W3.heap.size) ∧ (j = 3 → W3.heap.size ≤ g) := fun j hj g h => by
      match j, hj with
      | 0, _ => have := l1 g h; omega
      | 1, _ => have := l2 g h; omega
      | 2, _ => have := l3 g h; omega
      | 3, _ => have := l4 g h; omega
    have k1 := key i hi g h1
    have k2 := key j hj g h2
    omega
section
variable {w : World} {p : Prg} {q : PrL} {tr : List Int} {E : List (List Int)} {bef : Int} {f : FlL}
set_option maxRecDepth 100000 in
set_option maxHeartbeats 800000 in
theorem hidden_ne (n m : Nat) (ap aw : Option Addr) (cp cw : Nat) (hne : n ≠ m) :
    Calls Tryd.prog 21 #[.pointer (some ⟨f.X, 0, none⟩), .slice ap n cp, .slice aw m cw] w fun e w' => e = .returned (.slice none 0 0) ∧ w' = w := by
  have hnI : ¬ (n : Int) = (m : Int) := by omega
  clear hne
  go_enter Tryd.func21, Tryd.ntmps21
  go_wp2
  go_ret
  exact ⟨rfl, rfl⟩
theorem hiddenE_any (P l : List Int) (ap aw : Option Addr) (cp cw : Nat) (h : FlA w p q (decide (0 ≤ bef)) tr E bef f) (hs : FlS p tr E) (hl : l.length ≤ 100000000) (hp : IA w ap P) (ha : IA w aw l) (hI : ∀ c ∈ P, inI c) :
    Calls Tryd.prog 21 #[.pointer (some ⟨f.X, 0, none⟩), .slice ap P.length cp, .slice aw l.length cw] w fun e w' => ∃ v, e = .returned v ∧ OwnI w' w.heap.size v (rhL bef E tr P l) ∧ Below w.heap.size w w' := by
  by_cases hP : P.length = l.length
  · have h1 := hidden_any P l ap aw cp cw h hs hl hP hp ha hI
    have e : rhL bef E tr P l = hpK (hdF (decide (0 ≤ bef)) E tr P l) (l.length - 1) := by
      by_cases hb : 0 ≤ bef
      · exact rhL_same hs.good.ne tr P l hb hP
      · rw [decide_eq_false hb, hpK_off]
        unfold rhL
        rw [if_pos (.inl (by omega))]
    rw [e]
    rw [← hP] at h1
    rw [← hP]
    exact h1
  · refine (hidden_ne (w := w) (f := f) P.length l.length ap aw cp cw hP).mono ?_
    rintro e w' ⟨rfl, rfl⟩
    refine ⟨_, rfl, ?_, Below.refl _ _⟩
    unfold rhL
    rw [if_pos (.inr hP)]
    exact World.ownsRow_nil _ _ _ _
end
theorem OwnI.ia' {w : World} {base n c : Nat} {a : Option Addr} {L : List Int} (h : OwnI w base (.slice a n c) L) : IA w a L := by
  obtain ⟨a', c', e, hi⟩ := h.ia
  injection e with e1
  rw [e1]
  exact hi
theorem RwA.four {W : World} {X : Nat} {a b c d : Option Addr} {c1 c2 c3 c4 : Nat} {A B C D : List Int} (h : W.heap[X]? = some (.cells #[.slice a A.length c1, .slice b B.length c2, .slice c C.length c3, .slice d D.length c4] 28 (0, 0))) (hX : X < W.heap.size) (h1 : IA W a A) (h2 : IA W b B) (h3 : IA W c C) (h4 : IA W d D) : RwA W (some ⟨X, 0, none⟩) [A, B, C, D] := ⟨fun k hk => by
  refine ⟨X, 0, rfl, hX, ?_⟩
  have hk4 : k < 4 := hk
  rw [Nat.zero_add]
  match k, hk4 with
  | 0, _ => exact ⟨a, c1, row4c h (j := 0) (by omega), h1⟩
  | 1, _ => exact ⟨b, c2, row4c h (j := 1) (by omega), h2⟩
  | 2, _ => exact ⟨c, c3, row4c h (j := 2) (by omega), h3⟩
  | 3, _ => exact ⟨d, c4, row4c h (j := 3) (by omega), h4⟩⟩
theorem FlS.rfs {p : Prg} {tr : List Int} {E : List (List Int)} (h : FlS p tr E) : RfS p tr E := ⟨h.ps, h.tl, by have := h.el; omega, fun e he => by have := h.good.len e he; omega, h.good.ne⟩
end Go.Proofs.YtekimkdaoblcgaaDoor
