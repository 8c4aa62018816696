/-
  PrJW, PrKW, PrQW, PrRM.
-/
import Derived.Test.YtilnanefkbdbkaaDoorMxb
import Derived.BigQuiet
import Derived.Test.YtilnanefkbdbkaaDoorMxa
import Derived.HandedShaped
namespace Go.Proofs.YtilnanefkbdbkaaDoor
open Go.RowKit Go.Shelf
def RDecR (w : World) (ok : Bool) (D : List Int) (e : Ending) (w' : World) : Prop := ∃ v, e = .returned (.tuple #[v, .int .i64 (numC ok)]) ∧ OwnI w' w.heap.size v (if ok then D else []) ∧ Below w.heap.size w w'
theorem all_none {n : Nat} {l : List Int} {k : Nat} (hk : k < l.length) (h : oneOf n l[k] = false) : l.all (oneOf n) = false := by
  rw [List.all_eq_false]
  exact ⟨l[k], List.getElem_mem hk, by rw [h]; simp⟩
set_option maxRecDepth 10000 in
set_option maxHeartbeats 1600000 in
theorem refDecide_good (sl sr : Int) (N O M P : List (List Int)) (B : List Bool) (el : Bool) (aN aO aM aP aB : Option Addr) (cN cO cM cP cB : Nat) (l : List Int) (aw : Option Addr) (cw : Nat) (w : World) (hs : PrS ⟨sl, N, O, sr, M, P, B, el⟩) (ha : PrA w ⟨sl, N, O, sr, M, P, B, el⟩ ⟨aN, aO, aM, aP, aB, cN, cO, cM, cP, cB⟩) (hl : l.length ≤ 1000000000) (hw : IA w aw l) (h1 : chkP sl N O sr M P B.length (symF N : Int) = true) (h2 : l.all (oneOf (symF N)) = true) :
    Calls Tryd.prog 8 #[.agg #[.int .i64 sl, .slice aN N.length cN, .slice aO O.length cO, .int .i64 sr, .slice aM M.length cM, .slice aP P.length cP, .slice aB B.length cB, .bool el], .slice aw l.length cw] w fun e w' => RDecR w true (decF sl N O sr M P l) e w' := by
  obtain ⟨w0, hw0, hB0, hz0, hC0⟩ := box_pr w ⟨sl, N, O, sr, M, P, B, el⟩ ⟨aN, aO, aM, aP, aB, cN, cO, cM, cP, cB⟩
  have HC : Hid (∀ V : World, Below w0.heap.size w0 V → (V.cell? ⟨w.heap.size, 0, none⟩ = some (.int .i64 sl) ∧ V.cell? ⟨w.heap.size, 1, none⟩ = some (.slice aN N.length cN) ∧ V.cell? ⟨w.heap.size, 2, none⟩ = some (.slice aO O.length cO) ∧ V.cell? ⟨w.heap.size, 3, none⟩ = some (.int .i64 sr)) ∧ V.cell? ⟨w.heap.size, 4, none⟩ = some (.slice aM M.length cM) ∧ V.cell? ⟨w.heap.size, 5, none⟩ = some (.slice aP P.length cP) ∧ V.cell? ⟨w.heap.size, 6, none⟩ = some (.slice aB B.length cB) ∧ V.cell? ⟨w.heap.size, 7, none⟩ = some (.bool el)) := hid0 hC0
  replace hw0 : w.alloc (.cells #[.int .i64 sl, .slice aN N.length cN, .slice aO O.length cO, .int .i64 sr, .slice aM M.length cM, .slice aP P.length cP, .slice aB B.length cB, .bool el] 27) = w0 := hw0
  obtain ⟨i0, hi, hy0, hy1, hy2⟩ := info_parts infoInt
  have hf1 : Fine sl N O (symF N) B.length := fine_of (by unfold chkP at h1; simp only [Bool.and_eq_true] at h1; exact h1.1)
  have hf2 : Fine sr M P (symF N) B.length := fine_of (by unfold chkP at h1; simp only [Bool.and_eq_true] at h1; exact h1.2)
  have hsy : ∀ z ∈ l, 0 ≤ z ∧ z < (symF N : Int) := fun z hz => (oneOf_iff _ _).1 (List.all_eq_true.1 h2 z hz)
  have hrev : ∀ z ∈ l.reverse, 0 ≤ z ∧ z < (symF N : Int) := fun z hz => hsy z (List.mem_reverse.1 hz)
  have HAl : Hid (∀ V : World, Below w0.heap.size w0 V → PrA V ⟨sl, N, O, sr, M, P, B, el⟩ ⟨aN, aO, aM, aP, aB, cN, cO, cM, cP, cB⟩ ∧ IA V aw l ∧ Below w.heap.size w V) := hid0 (fun V hV => by
    have h := hB0.trans (hV.mono (by omega))
    exact ⟨ha.past h, hw.past h, h⟩)
  have HSy := hid0 (refSymbols_any sl sr N O M P B el aN aO aM aP aB cN cO cM cP cB w0 hs (HAl.out w0 (Below.refl _ _)).1)
  have HCk : Hid (∀ V : World, Below w0.heap.size w0 V → Calls Tryd.prog 17 #[.agg #[.int .i64 sl, .slice aN N.length cN, .slice aO O.length cO, .int .i64 sr, .slice aM M.length cM, .slice aP P.length cP, .slice aB B.length cB, .bool el], .int .i64 (symF N : Int)] V fun e w' => e = .returned (.int .i64 0) ∧ Below V.heap.size V w') := hid0 (fun V hV => by
    have h := refPairCheck_any sl sr N O M P B el aN aO aM aP aB cN cO cM cP cB (symF N : Int) V hs (HAl.out V hV).1
    rw [h1] at h
    exact h)
  have hrun := hf1.run hsy
  have hrun2 := hf2.run hrev
  have HRu : Hid (∀ V : World, Below w0.heap.size w0 V → Calls Tryd.prog 30 #[.agg #[.int .i64 sl, .slice aN N.length cN, .slice aO O.length cO], .slice aw l.length cw] V fun e w' => ∃ v, e = .returned (.tuple #[v, .int .i64 0]) ∧ OwnI w' V.heap.size v ((List.range (l.length + 1)).map fun k => (stK N sl.toNat l k : Int)) ∧ Below V.heap.size V w') := hid0 (fun V hV => by
    have h := refRun_any sl N l aN aO aw cN O.length cO cw V (fun r hr => by have := hs.nr r hr; omega) (by omega) (HAl.out V hV).1.n.rwa (HAl.out V hV).2.1
    rw [hrun] at h
    exact h)
  have HRu2 : Hid (∀ (V : World) (xt : Option Addr) (ct : Nat), Below w0.heap.size w0 V → IA V xt l.reverse → Calls Tryd.prog 30 #[.agg #[.int .i64 sr, .slice aM M.length cM, .slice aP P.length cP], .slice xt l.length ct] V fun e w' => ∃ v, e = .returned (.tuple #[v, .int .i64 0]) ∧ OwnI w' V.heap.size v ((List.range (l.length + 1)).map fun k => (stK M sr.toNat l.reverse k : Int)) ∧ Below V.heap.size V w') := hid0 (fun V xt ct hV hx => by
    have h := refRun_any sr M l.reverse aM aP xt cM P.length cP ct V (fun r hr => by have := hs.mr r hr; omega) (by rw [List.length_reverse]; omega) (HAl.out V hV).1.m.rwa hx
    rw [hrun2, List.length_reverse] at h
    exact h)
  have HTu : Hid (∀ V : World, Below w0.heap.size w0 V → Calls Tryd.prog 31 #[.slice aw l.length cw] V fun e w' => ∃ v, e = .returned v ∧ OwnI w' V.heap.size v l.reverse ∧ Below V.heap.size V w') := hid0 (fun V hV => turned_any l aw cw V hl (HAl.out V hV).2.1)
  have HS11 : Hid (∀ V : World, Below w0.heap.size w0 V → V.cell? ⟨w.heap.size, 3, none⟩ = some (.int .i64 sr) ∧ V.cell? ⟨w.heap.size, 4, none⟩ = some (.slice aM M.length cM) ∧ V.cell? ⟨w.heap.size, 5, none⟩ = some (.slice aP P.length cP)) := hid0 (fun V hV => ⟨(HC.out V hV).1.2.2.2, (HC.out V hV).2.1, (HC.out V hV).2.2.1⟩)
  have HF1 := hid0 hf1
  have HF2 := hid0 hf2
  have HSl := hid0 hsy
  have HRv := hid0 hrev
  have HOr : Hid (∀ r ∈ O, r.length ≤ 1000000000) := hid0 hs.or
  have HPr : Hid (∀ r ∈ P, r.length ≤ 1000000000) := hid0 hs.pr
  obtain ⟨⟨x0, x1, x2, x3⟩, x4, x5, x6, x7⟩ := HC.out w0 (Below.refl _ _)
  clear hf1 hf2 hsy hrev hrun hrun2 h1 h2 hB0 hC0 hz0 ha hw hs
  generalize hsy : symF N = sy at *
  clear hsy
  go_enter Tryd.func8, Tryd.ntmps8
  go_upto_region 2 with (go_at_call 29; refine HSy.out.mono ?_; rintro e w1 ⟨rfl, hb⟩; have HB1 := hid0 hb; clear hb; clear x0 x1 x2 x3 x4 x5 x6 x7)
  obtain ⟨⟨x0, x1, x2, x3⟩, x4, x5, x6, x7⟩ := HC.out w1 HB1.out
  go_upto_region 5 with (go_at_call 17; refine (HCk.out w1 HB1.out).mono ?_; rintro e w2 ⟨rfl, hb⟩; have HB2 : Hid (Below w0.heap.size w0 w2) := hid0 (HB1.out.trans (hb.mono HB1.out.size)); clear hb; clear x0 x1 x2 x3 x4 x5 x6 x7)
  go_wp2
  go_loopw [8] (fun iv wr => ∃ i : Nat, i ≤ l.length ∧ iv = .int .i64 (i : Int) ∧ wr = w2) (fun iv _ => l.length - (intOf iv).toNat)
  case atStart => exact ⟨0, Nat.zero_le _, rfl, rfl⟩
  case round =>
  obtain ⟨i, hi1, rfl, rfl⟩ := hrel
  by_cases hil : i < l.length
  · have hiI : (i : Int) < (l.length : Int) := by omega
    have hiI0 : (0 : Int) ≤ (i : Int) := by omega
    obtain ⟨b1, o1, rfl, _, d1⟩ := (HAl.out wr HB2.out).2.1.at' i hil
    have hz := HSl.out _ (List.getElem_mem hil)
    generalize l[i] = z at *
    have hz1 : ¬ z < 0 := by omega
    have hz2 : ¬ z ≥ (sy : Int) := by omega
    clear hz
    go_wp2
    go_roundw
    case rel => exact ⟨i + 1, by omega, by go_num, trivial⟩
    case measure => simp [intOf]; omega
  have hiI : ¬ (i : Int) < (l.length : Int) := by omega
  obtain ⟨⟨x0, x1, x2, x3⟩, x4, x5, x6, x7⟩ := HC.out wr HB2.out
  clear hil hi1
  go_upto_region 11 with (go_at_call 30; go_loud ((
    refine (HRu.out wr HB2.out).mono ?_
    rintro e w3 ⟨va, rfl, ho3, hb3⟩
    obtain ⟨xa, ca, hva, ia3⟩ := ho3.ia
    rw [List.length_map, List.length_range] at hva
    subst hva
    have HB3 : Hid (Below w0.heap.size w0 w3) := hid0 (HB2.out.trans (hb3.mono HB2.out.size))
    have HIa := hid0 ia3
    clear ho3 hb3 ia3; clear x0 x1 x2 x3 x4 x5 x6 x7)))
  refine wp_region_noPanic ?_
  refine wp_region_held_drew (S := (fun V => V.cell? ⟨w.heap.size, 3, none⟩ = some (.int .i64 sr) ∧ V.cell? ⟨w.heap.size, 4, none⟩ = some (.slice aM M.length cM) ∧ V.cell? ⟨w.heap.size, 5, none⟩ = some (.slice aP P.length cP))) (by kernel_rfl) ?_ (fun hHeld => ?_)
  · exact HS11.out _ (HB3.out.trans ⟨rfl, rfl, rfl, Nat.le_refl _, fun _ _ => rfl⟩)
  refine tkV (i := 0) (d := some 50) (v := ?_) rfl (by kernel_rfl) (by kernel_rfl) (by kernel_rfl) rfl (fun _ _ _ h => h) (by rfl) ?_ (by assumption) ?_
  rotate_left
  · (intro w hSw; (try dsimp only at hSw); (try simp only [List.getElem_toArray, List.getElem_cons_zero]); go_simp; try with_reducible rfl)
  try simp only [Act.put, List.setIfInBounds_toArray, List.set_cons_zero, List.set_cons_succ]
  refine tkV (i := 1) (d := some 51) (v := ?_) rfl (by kernel_rfl) (by kernel_rfl) (by kernel_rfl) rfl (fun _ _ _ h => h) (by rfl) ?_ (by assumption) ?_
  rotate_left
  · (intro w hSw; (try dsimp only at hSw); (try simp only [List.getElem_toArray, List.getElem_cons_zero, List.getElem_cons_succ]); go_simp; try with_reducible rfl)
  try simp only [Act.put, List.setIfInBounds_toArray, List.set_cons_zero, List.set_cons_succ]
  refine tkV (i := 2) (d := some 52) (v := ?_) rfl (by kernel_rfl) (by kernel_rfl) (by kernel_rfl) rfl (fun _ _ _ h => h) (by rfl) ?_ (by assumption) ?_
  rotate_left
  · (intro w hSw; (try dsimp only at hSw); (try simp only [List.getElem_toArray, List.getElem_cons_zero, List.getElem_cons_succ]); go_simp; try with_reducible rfl)
  try simp only [Act.put, List.setIfInBounds_toArray, List.set_cons_zero, List.set_cons_succ]
  refine wpAnyH_ready (rs := [3]) (by kernel_rfl) (by simp) (AllReadyH.cons rfl (fun K hK => ?_) AllReadyH.nil)
  try simp only [List.getElem_toArray, List.getElem_cons_zero, List.getElem_cons_succ]
  go_simp
  refine (HTu.out w3.drew (HB3.out.trans ⟨rfl, rfl, rfl, Nat.le_refl _, fun _ _ => rfl⟩)).mono ?_
  rintro e w4 ⟨vt, rfl, ho4, hb4⟩
  obtain ⟨xt, ct, hvt, it⟩ := ho4.ia
  rw [List.length_reverse] at hvt
  subst hvt
  have HB34 : Hid (Below w3.heap.size w3 w4) := hid0 ((⟨rfl, rfl, rfl, Nat.le_refl _, fun _ _ => rfl⟩ : Below w3.heap.size w3 w3.drew).trans hb4)
  have HB4 : Hid (Below w0.heap.size w0 w4) := hid0 (HB3.out.trans (HB34.out.mono HB3.out.size))
  have HS4 := hid0 (HS11.out w4 HB4.out)
  have HRr := hid0 (HRu2.out w4 xt ct HB4.out it)
  clear ho4 hb4 it
  go_wp2_with fail
  refine hK.out _ _ ?_ (fun hHeld3 => ?_)
  · exact HS4.out
  clear hK K
  (try simp only [Act.put]); (try simp only [List.setIfInBounds_toArray]); (try simp only [List.set_cons_succ]); (try simp only [List.set_cons_zero])
  refine wpAnyH_ready (rs := [4]) (by kernel_rfl) (by simp) (AllReadyH.cons rfl (fun K hK => ?_) AllReadyH.nil)
  try simp only [List.getElem_toArray, List.getElem_cons_zero, List.getElem_cons_succ]
  go_simp
  refine HRr.out.mono ?_
  rintro e w5 ⟨vb, rfl, ho5, hb5⟩
  obtain ⟨xb, cb, hvb, ib⟩ := ho5.ia
  rw [List.length_map, List.length_range] at hvb
  subst hvb
  have HIb := hid0 ib
  have HB35 : Hid (Below w3.heap.size w3 w5) := hid0 (HB34.out.trans (hb5.mono HB34.out.size))
  have HB5 : Hid (Below w0.heap.size w0 w5) := hid0 (HB4.out.trans (hb5.mono HB4.out.size))
  have HS5 := hid0 (HS11.out w5 HB5.out)
  clear ho5 hb5 ib
  go_wp2_with fail
  refine hK.out _ _ ?_ (fun hHeld4 => ?_)
  · exact HS5.out
  clear hK K
  (try simp only [Act.put]); (try simp only [List.setIfInBounds_toArray]); (try simp only [List.set_cons_succ]); (try simp only [List.set_cons_zero])
  refine tkV (i := 5) (d := some 49) (v := ?_) rfl (by kernel_rfl) (by kernel_rfl) (by kernel_rfl) rfl (fun _ _ _ h => h) (by rfl) ?_ (by assumption) ?_
  rotate_left
  · (intro w hSw; (try dsimp only at hSw); (try simp only [List.getElem_toArray, List.getElem_cons_zero, List.getElem_cons_succ]); go_simp; try with_reducible rfl)
  try simp only [Act.put, List.setIfInBounds_toArray, List.set_cons_zero, List.set_cons_succ]
  refine tkV (i := 6) (d := some 55) (v := ?_) rfl (by kernel_rfl) (by kernel_rfl) (by kernel_rfl) rfl (fun _ _ _ h => h) (by rfl) ?_ (by assumption) ?_
  rotate_left
  · (intro w hSw; (try dsimp only at hSw); (try simp only [List.getElem_toArray, List.getElem_cons_zero, List.getElem_cons_succ]); go_simp; try with_reducible rfl)
  try simp only [Act.put, List.setIfInBounds_toArray, List.set_cons_zero, List.set_cons_succ]
  refine tkV (i := 7) (d := some 56) (v := ?_) rfl (by kernel_rfl) (by kernel_rfl) (by kernel_rfl) rfl (fun _ _ _ h => h) (by rfl) ?_ (by assumption) ?_
  rotate_left
  · (intro w hSw; (try dsimp only at hSw); (try simp only [List.getElem_toArray, List.getElem_cons_zero, List.getElem_cons_succ]); go_simp; try with_reducible rfl)
  try simp only [Act.put, List.setIfInBounds_toArray, List.set_cons_zero, List.set_cons_succ]
  refine tkV (i := 8) (d := some 11) (v := ?_) rfl (by kernel_rfl) (by kernel_rfl) (by kernel_rfl) rfl (fun _ _ _ h => h) (by rfl) ?_ (by assumption) ?_
  rotate_left
  · (intro w hSw; (try dsimp only at hSw); (try simp only [List.getElem_toArray, List.getElem_cons_zero, List.getElem_cons_succ]); go_simp; try with_reducible rfl)
  try simp only [Act.put, List.setIfInBounds_toArray, List.set_cons_zero, List.set_cons_succ]
  refine tkV (i := 9) (d := some 12) (v := ?_) rfl (by kernel_rfl) (by kernel_rfl) (by kernel_rfl) rfl (fun _ _ _ h => h) (by rfl) ?_ (by assumption) ?_
  rotate_left
  · (intro w hSw; (try dsimp only at hSw); (try simp only [List.getElem_toArray, List.getElem_cons_zero, List.getElem_cons_succ]); go_simp; try with_reducible rfl)
  try simp only [Act.put, List.setIfInBounds_toArray, List.set_cons_zero, List.set_cons_succ]
  refine wpAnyH_done (by kernel_rfl) ?_ _
  refine NoPanic.normal ?_
  clear hHeld hHeld3 hHeld4 HS4 HS5
  have HDk : Hid (∀ i, 1 ≤ i → i < l.length → decK sl N O sr M P l (i - 1) = lstF (O.getD (stK N sl.toNat l i) []) (P.getD (stK M sr.toNat l.reverse (l.length - i)) [])) := hid0 (fun i h1 h2 => by
    unfold decK
    rw [show i - 1 + 1 = i by omega, show l.length - 1 - (i - 1) = l.length - i by omega])
  have HDf : Hid (decF sl N O sr M P l = (List.range (l.length - 1)).map (decK sl N O sr M P l)) := hid0 rfl
  have hw5 := (HAl.out w5 HB5.out).2.2
  have HW5 := hid0 hw5
  generalize decK sl N O sr M P l = DK at *
  have HIa5 := hid0 (HIa.out.past HB35.out)
  clear HIa HRr hw5
  go_wp2
  go_loopw [13, 14] (fun v iv wr => ∃ i : Nat, Hid (1 ≤ i ∧ (i ≤ l.length ∨ i = 1)) ∧ iv = .int .i64 (i : Int) ∧ Hid (OwnI wr w5.heap.size v ((List.range (i - 1)).map DK)) ∧ Hid (Below w5.heap.size w5 wr)) (fun _ iv _ => l.length - (intOf iv).toNat)
  case atStart => exact ⟨1, hid0 ⟨Nat.le_refl _, .inr rfl⟩, rfl, hid0 (World.ownsRow_nil _ _ _ _), hid0 (Below.refl _ _)⟩
  case round =>
    obtain ⟨i, HI, rfl, HO, HB⟩ := hrel
    have hbw : Below w0.heap.size w0 wr := HB5.out.trans (HB.out.mono HB5.out.size)
    have HBw := hid0 hbw
    have hsz := HB.out.size
    by_cases hil : i < l.length
    · have hiI : (i : Int) < (l.length : Int) := by omega
      have hiI0 : (0 : Int) ≤ (i : Int) := by omega
      have h1i := HI.out.1
      obtain ⟨ba, hba⟩ : ∃ ba, ba = stK N sl.toNat l i := ⟨_, rfl⟩
      have hbal : ba < N.length := by rw [hba]; exact HF1.out.st HSl.out i (by omega)
      have haO : ba < O.length := by rw [HF1.out.out]; exact hbal
      obtain ⟨j9, hj9⟩ : ∃ j, j = l.length - i := ⟨_, rfl⟩
      obtain ⟨bb, hbb⟩ : ∃ bb, bb = stK M sr.toNat l.reverse j9 := ⟨_, rfl⟩
      have hbbl : bb < M.length := by rw [hbb]; exact HF2.out.st HRv.out j9 (by rw [List.length_reverse]; omega)
      have hbP : bb < P.length := by rw [HF2.out.out]; exact hbbl
      have hpr := (HAl.out wr hbw).1
      obtain ⟨bO, oO, eO, _, a1, c1, e1, i1, _⟩ := hpr.o.at' ba haO
      obtain ⟨bP, oP, eP, _, a2, c2, e6, i2, _⟩ := hpr.p'.at' bb hbP
      have eO' : aO = some ⟨bO, oO, none⟩ := eO
      have eP' : aP = some ⟨bP, oP, none⟩ := eP
      obtain ⟨b8, o8, eA, _, e8⟩ := (HIa5.out.past HB.out).at' i (by simp; omega)
      have hv8 : ((List.range (l.length + 1)).map fun k => (stK N sl.toNat l k : Int))[i]'(by simp; omega) = (ba : Int) := by rw [List.getElem_map, List.getElem_range, hba]
      rw [hv8] at e8
      obtain ⟨b9, o9, eB, _, e9⟩ := (HIb.out.past HB.out).at' j9 (by simp; omega)
      have hv9 : ((List.range (l.length + 1)).map fun k => (stK M sr.toNat l.reverse k : Int))[j9]'(by simp; omega) = (bb : Int) := by rw [List.getElem_map, List.getElem_range, hbb]
      rw [hv9] at e9
      have HDi : Hid (DK (i - 1) = lstF O[ba] P[bb]) := hid0 (by
        rw [HDk.out i h1i hil, ← hba, ← hj9, ← hbb, getD_at haO, getD_at hbP])
      have hr1 := HOr.out _ (List.getElem_mem haO)
      have hr2 := HPr.out _ (List.getElem_mem hbP)
      have HSn : Hid ((List.range (i + 1 - 1)).map DK = (List.range (i - 1)).map DK ++ [lstF O[ba] P[bb]]) := hid0 (by
        rw [← HDi.out, show i + 1 - 1 = (i - 1) + 1 by omega, List.range_succ, List.map_append]
        rfl)
      have hXl : ((List.range (i - 1)).map DK).length ≤ 1000000000 := by rw [List.length_map, List.length_range]; omega
      have hj9I : (l.length : Int) - (i : Int) = (j9 : Int) := by omega
      have hj9W : IntKind.i64.wrap (j9 : Int) = (j9 : Int) := by simp [IntKind.wrap, IntKind.bits, IntKind.signed]; omega
      have hj9a : (j9 : Int) < (l.length : Int) + 1 := by omega
      have hj90 : (0 : Int) ≤ (j9 : Int) := by omega
      have hiA : (i : Int) < (l.length : Int) + 1 := by omega
      have hbaI : (ba : Int) < (O.length : Int) := by omega
      have hba0 : (0 : Int) ≤ (ba : Int) := by omega
      have hbbI : (bb : Int) < (P.length : Int) := by omega
      have hbb0 : (0 : Int) ≤ (bb : Int) := by omega
      subst eO'
      subst eP'
      subst eA
      subst eB
      have e2 := (HC.out wr hbw).1.2.2.1
      have e5 := (HC.out wr hbw).2.2.1
      generalize (List.range (i - 1)).map DK = X at *
      generalize O[ba] = r1 at *
      generalize P[bb] = r2 at *
      have HLe := hid0 (least_any r1 r2 a1 a2 c1 c2 wr.drew hr1 hr2 (i1.past ⟨rfl, rfl, rfl, Nat.le_refl _, fun _ _ => rfl⟩) (i2.past ⟨rfl, rfl, rfl, Nat.le_refl _, fun _ _ => rfl⟩))
      generalize lstF r1 r2 = dv at *
      obtain ⟨pa, pc, ep, _⟩ := HO.out.ia
      subst ep
      clear hba hbal hj9 hbb hbbl hpr eO eP hv8 hv9 HDi i1 i2 hbw h1i HI haO hbP
      go_upto_region 16 with (fail)
      refine wp_region_noPanic ?_
      refine wp_region_held_drew (S := (fun V => V.cell? ⟨w.heap.size, 2, none⟩ = some (.slice (some ⟨bO, oO, none⟩) O.length cO) ∧ V.cell? ⟨w.heap.size, 5, none⟩ = some (.slice (some ⟨bP, oP, none⟩) P.length cP) ∧ V.cell? ⟨b8, o8 + i, none⟩ = some (.int .i64 (ba : Int)) ∧ V.cell? ⟨bO, oO + ba, none⟩ = some (.slice a1 r1.length c1) ∧ V.cell? ⟨b9, o9 + j9, none⟩ = some (.int .i64 (bb : Int)) ∧ V.cell? ⟨bP, oP + bb, none⟩ = some (.slice a2 r2.length c2))) (by kernel_rfl) ?_ (fun hHeld => ?_)
      · exact ⟨e2, e5, e8, e1, e9, e6⟩
      refine tkV (i := 0) (d := some 63) (v := ?_) rfl (by kernel_rfl) (by kernel_rfl) (by kernel_rfl) rfl (fun _ _ _ h => h) (by rfl) ?_ (by assumption) ?_
      rotate_left
      · (intro w hSw; (try dsimp only at hSw); (try simp only [List.getElem_toArray, List.getElem_cons_zero]); go_simp; try with_reducible rfl)
      try simp only [Act.put, List.setIfInBounds_toArray, List.set_cons_zero, List.set_cons_succ]
      refine tkV (i := 1) (d := some 64) (v := ?_) rfl (by kernel_rfl) (by kernel_rfl) (by kernel_rfl) rfl (fun _ _ _ h => h) (by rfl) ?_ (by assumption) ?_
      rotate_left
      · (intro w hSw; (try dsimp only at hSw); (try simp only [List.getElem_toArray, List.getElem_cons_zero, List.getElem_cons_succ]); go_simp; try with_reducible rfl)
      try simp only [Act.put, List.setIfInBounds_toArray, List.set_cons_zero, List.set_cons_succ]
      refine tkV (i := 2) (d := some 65) (v := ?_) rfl (by kernel_rfl) (by kernel_rfl) (by kernel_rfl) rfl (fun _ _ _ h => h) (by rfl) ?_ (by assumption) ?_
      rotate_left
      · (intro w hSw; (try dsimp only at hSw); (try simp only [List.getElem_toArray, List.getElem_cons_zero, List.getElem_cons_succ]); go_simp; try with_reducible rfl)
      try simp only [Act.put, List.setIfInBounds_toArray, List.set_cons_zero, List.set_cons_succ]
      refine tkV (i := 3) (d := some 66) (v := ?_) rfl (by kernel_rfl) (by kernel_rfl) (by kernel_rfl) rfl (fun _ _ _ h => h) (by rfl) ?_ (by assumption) ?_
      rotate_left
      · (intro w hSw; (try dsimp only at hSw); (try simp only [List.getElem_toArray, List.getElem_cons_zero, List.getElem_cons_succ]); go_simp; try with_reducible rfl)
      try simp only [Act.put, List.setIfInBounds_toArray, List.set_cons_zero, List.set_cons_succ]
      refine tkV (i := 4) (d := some 67) (v := ?_) rfl (by kernel_rfl) (by kernel_rfl) (by kernel_rfl) rfl (fun _ _ _ h => h) (by rfl) ?_ (by assumption) ?_
      rotate_left
      · (intro w hSw; (try dsimp only at hSw); (try simp only [List.getElem_toArray, List.getElem_cons_zero, List.getElem_cons_succ]); go_simp; try with_reducible rfl)
      try simp only [Act.put, List.setIfInBounds_toArray, List.set_cons_zero, List.set_cons_succ]
      refine tkV (i := 5) (d := some 68) (v := ?_) rfl (by kernel_rfl) (by kernel_rfl) (by kernel_rfl) rfl (fun _ _ _ h => h) (by rfl) ?_ (by assumption) ?_
      rotate_left
      · (intro w hSw; (try dsimp only at hSw); (try simp only [List.getElem_toArray, List.getElem_cons_zero, List.getElem_cons_succ]); go_simp; try with_reducible rfl)
      try simp only [Act.put, List.setIfInBounds_toArray, List.set_cons_zero, List.set_cons_succ]
      refine tkV (i := 6) (d := some 69) (v := ?_) rfl (by kernel_rfl) (by kernel_rfl) (by kernel_rfl) rfl (fun _ _ _ h => h) (by rfl) ?_ (by assumption) ?_
      rotate_left
      · (intro w hSw; (try dsimp only at hSw); (try simp only [List.getElem_toArray, List.getElem_cons_zero, List.getElem_cons_succ]); go_simp; try with_reducible rfl)
      try simp only [Act.put, List.setIfInBounds_toArray, List.set_cons_zero, List.set_cons_succ]
      refine tkV (i := 7) (d := some 70) (v := ?_) rfl (by kernel_rfl) (by kernel_rfl) (by kernel_rfl) rfl (fun _ _ _ h => h) (by rfl) ?_ (by assumption) ?_
      rotate_left
      · (intro w hSw; (try dsimp only at hSw); (try simp only [List.getElem_toArray, List.getElem_cons_zero, List.getElem_cons_succ]); go_simp; try with_reducible rfl)
      try simp only [Act.put, List.setIfInBounds_toArray, List.set_cons_zero, List.set_cons_succ]
      refine tkV (i := 8) (d := some 71) (v := ?_) rfl (by kernel_rfl) (by kernel_rfl) (by kernel_rfl) rfl (fun _ _ _ h => h) (by rfl) ?_ (by assumption) ?_
      rotate_left
      · (intro w hSw; (try dsimp only at hSw); (try simp only [List.getElem_toArray, List.getElem_cons_zero, List.getElem_cons_succ]); go_simp; try with_reducible rfl)
      try simp only [Act.put, List.setIfInBounds_toArray, List.set_cons_zero, List.set_cons_succ]
      refine tkV (i := 9) (d := some 72) (v := ?_) rfl (by kernel_rfl) (by kernel_rfl) (by kernel_rfl) rfl (fun _ _ _ h => h) (by rfl) ?_ (by assumption) ?_
      rotate_left
      · (intro w hSw; (try dsimp only at hSw); (try simp only [List.getElem_toArray, List.getElem_cons_zero, List.getElem_cons_succ]); go_simp; try with_reducible rfl)
      try simp only [Act.put, List.setIfInBounds_toArray, List.set_cons_zero, List.set_cons_succ]
      refine tkV (i := 10) (d := some 73) (v := ?_) rfl (by kernel_rfl) (by kernel_rfl) (by kernel_rfl) rfl (fun _ _ _ h => h) (by rfl) ?_ (by assumption) ?_
      rotate_left
      · (intro w hSw; (try dsimp only at hSw); (try simp only [List.getElem_toArray, List.getElem_cons_zero, List.getElem_cons_succ]); go_simp; try with_reducible rfl)
      try simp only [Act.put, List.setIfInBounds_toArray, List.set_cons_zero, List.set_cons_succ]
      refine tkV (i := 11) (d := some 74) (v := ?_) rfl (by kernel_rfl) (by kernel_rfl) (by kernel_rfl) rfl (fun _ _ _ h => h) (by rfl) ?_ (by assumption) ?_
      rotate_left
      · (intro w hSw; (try dsimp only at hSw); (try simp only [List.getElem_toArray, List.getElem_cons_zero, List.getElem_cons_succ]); go_simp; try with_reducible rfl)
      try simp only [Act.put, List.setIfInBounds_toArray, List.set_cons_zero, List.set_cons_succ]
      refine tkV (i := 12) (d := some 75) (v := ?_) rfl (by kernel_rfl) (by kernel_rfl) (by kernel_rfl) rfl (fun _ _ _ h => h) (by rfl) ?_ (by assumption) ?_
      rotate_left
      · (intro w hSw; (try dsimp only at hSw); (try simp only [List.getElem_toArray, List.getElem_cons_zero, List.getElem_cons_succ]); go_simp; try with_reducible rfl)
      try simp only [Act.put, List.setIfInBounds_toArray, List.set_cons_zero, List.set_cons_succ]
      refine tkV (i := 13) (d := some 76) (v := ?_) rfl (by kernel_rfl) (by kernel_rfl) (by kernel_rfl) rfl (fun _ _ _ h => h) (by rfl) ?_ (by assumption) ?_
      rotate_left
      · (intro w hSw; (try dsimp only at hSw); (try simp only [List.getElem_toArray, List.getElem_cons_zero, List.getElem_cons_succ]); go_simp; try with_reducible rfl)
      try simp only [Act.put, List.setIfInBounds_toArray, List.set_cons_zero, List.set_cons_succ]
      refine tkV (i := 14) (d := some 77) (v := ?_) rfl (by kernel_rfl) (by kernel_rfl) (by kernel_rfl) rfl (fun _ _ _ h => h) (by rfl) ?_ (by assumption) ?_
      rotate_left
      · (intro w hSw; (try dsimp only at hSw); (try simp only [List.getElem_toArray, List.getElem_cons_zero, List.getElem_cons_succ]); go_simp; try with_reducible rfl)
      try simp only [Act.put, List.setIfInBounds_toArray, List.set_cons_zero, List.set_cons_succ]
      refine tkV (i := 15) (d := some 78) (v := ?_) rfl (by kernel_rfl) (by kernel_rfl) (by kernel_rfl) rfl (fun _ _ _ h => h) (by rfl) ?_ (by assumption) ?_
      rotate_left
      · (intro w hSw; (try dsimp only at hSw); (try simp only [List.getElem_toArray, List.getElem_cons_zero, List.getElem_cons_succ]); go_simp; try with_reducible rfl)
      try simp only [Act.put, List.setIfInBounds_toArray, List.set_cons_zero, List.set_cons_succ]
      refine tkV (i := 16) (d := some 79) (v := ?_) rfl (by kernel_rfl) (by kernel_rfl) (by kernel_rfl) rfl (fun _ _ _ h => h) (by rfl) ?_ (by assumption) ?_
      rotate_left
      · (intro w hSw; (try dsimp only at hSw); (try simp only [List.getElem_toArray, List.getElem_cons_zero, List.getElem_cons_succ]); go_simp; try with_reducible rfl)
      try simp only [Act.put, List.setIfInBounds_toArray, List.set_cons_zero, List.set_cons_succ]
      refine tkV (i := 17) (d := some 80) (v := ?_) rfl (by kernel_rfl) (by kernel_rfl) (by kernel_rfl) rfl (fun _ _ _ h => h) (by rfl) ?_ (by assumption) ?_
      rotate_left
      · (intro w hSw; (try dsimp only at hSw); (try simp only [List.getElem_toArray, List.getElem_cons_zero, List.getElem_cons_succ]); go_simp; try with_reducible rfl)
      try simp only [Act.put, List.setIfInBounds_toArray, List.set_cons_zero, List.set_cons_succ]
      refine tkV (i := 18) (d := some 81) (v := ?_) rfl (by kernel_rfl) (by kernel_rfl) (by kernel_rfl) rfl (fun _ _ _ h => h) (by rfl) ?_ (by assumption) ?_
      rotate_left
      · (intro w hSw; (try dsimp only at hSw); (try simp only [List.getElem_toArray, List.getElem_cons_zero, List.getElem_cons_succ]); go_simp; try with_reducible rfl)
      try simp only [Act.put, List.setIfInBounds_toArray, List.set_cons_zero, List.set_cons_succ]
      refine tkV (i := 19) (d := some 82) (v := ?_) rfl (by kernel_rfl) (by kernel_rfl) (by kernel_rfl) rfl (fun _ _ _ h => h) (by rfl) ?_ (by assumption) ?_
      rotate_left
      · (intro w hSw; (try dsimp only at hSw); (try simp only [List.getElem_toArray, List.getElem_cons_zero, List.getElem_cons_succ]); go_simp; try with_reducible rfl)
      try simp only [Act.put, List.setIfInBounds_toArray, List.set_cons_zero, List.set_cons_succ]
      refine tkV (i := 20) (d := some 83) (v := ?_) rfl (by kernel_rfl) (by kernel_rfl) (by kernel_rfl) rfl (fun _ _ _ h => h) (by rfl) ?_ (by assumption) ?_
      rotate_left
      · (intro w hSw; (try dsimp only at hSw); (try simp only [List.getElem_toArray, List.getElem_cons_zero, List.getElem_cons_succ]); go_simp; try with_reducible rfl)
      try simp only [Act.put, List.setIfInBounds_toArray, List.set_cons_zero, List.set_cons_succ]
      refine wpAnyH_ready (rs := [21]) (by kernel_rfl) (by simp) (AllReadyH.cons rfl (fun K hK => ?_) AllReadyH.nil)
      try simp only [List.getElem_toArray, List.getElem_cons_zero, List.getElem_cons_succ]
      go_simp
      refine HLe.out.mono ?_
      rintro e w6 ⟨rfl, nq, hw6⟩
      have HS6 : Hid ((fun V => V.cell? ⟨w.heap.size, 2, none⟩ = some (.slice (some ⟨bO, oO, none⟩) O.length cO) ∧ V.cell? ⟨w.heap.size, 5, none⟩ = some (.slice (some ⟨bP, oP, none⟩) P.length cP) ∧ V.cell? ⟨b8, o8 + i, none⟩ = some (.int .i64 (ba : Int)) ∧ V.cell? ⟨bO, oO + ba, none⟩ = some (.slice a1 r1.length c1) ∧ V.cell? ⟨b9, o9 + j9, none⟩ = some (.int .i64 (bb : Int)) ∧ V.cell? ⟨bP, oP + bb, none⟩ = some (.slice a2 r2.length c2)) w6) := hid0 (by rw [hw6]; exact ⟨e2, e5, e8, e1, e9, e6⟩)
      have HB6 : Hid (Below wr.heap.size wr w6) := hid0 (by rw [hw6]; exact ⟨rfl, rfl, rfl, Nat.le_refl _, fun _ _ => rfl⟩)
      clear hw6
      go_wp2_with fail
      refine hK.out _ _ ?_ (fun hHeld21 => ?_)
      · exact HS6.out
      clear hK K
      (try simp only [Act.put]); (try simp only [List.setIfInBounds_toArray]); (try simp only [List.set_cons_succ]); (try simp only [List.set_cons_zero])
      refine tkV (i := 22) (d := some 15) (v := ?_) rfl (by kernel_rfl) (by kernel_rfl) (by kernel_rfl) rfl (fun _ _ _ h => h) (by rfl) ?_ (by assumption) ?_
      rotate_left
      · (intro w hSw; (try dsimp only at hSw); (try simp only [List.getElem_toArray, List.getElem_cons_zero, List.getElem_cons_succ]); go_simp; try with_reducible rfl)
      try simp only [Act.put, List.setIfInBounds_toArray, List.set_cons_zero, List.set_cons_succ]
      refine wpAnyH_done (by kernel_rfl) ?_ _
      refine NoPanic.normal ?_
      clear hHeld hHeld21
      have hs6 := HB6.out.size
      go_wp2_with (at_builtin; go_loud ((
        refine wpList_append_own_at _ rfl _ _ 28 rfl w5.heap.size 3 i0 (.int .i64 0) 1 8 Tryd.underlying28 hi hy0 hy1 hy2 rfl (by decide) _ X.length (X.map (Value.int .i64)) rfl (World.ownsRow.alloc (HO.out.past HB6.out) _) ⟨w6.heap.size, 0, none⟩ 1 1 [.int .i64 dv] rfl rfl (cell_one_new _ _ _) (by simp [Value.oneCell']) (by unfold maxLen; omega) (by omega) (by simp; omega) ?_
        intro v3 w7 hown3 hgrow3 _ _
        have R := ownI_snoc rfl (HO.out.past HB6.out) hown3 hgrow3 (HB.out.trans (HB6.out.mono HB.out.size)) (Nat.le_refl _)
        have HO3 := hid0 R.1
        have HB7 := hid0 R.2
        clear R hown3 hgrow3)))
      go_roundw
      case rel => exact ⟨i + 1, hid0 (by omega), by go_num, hid0 (by rw [HSn.out]; exact HO3.out), HB7⟩
      case measure => simp [intOf]; omega
    · have hiI : ¬ (i : Int) < (l.length : Int) := by omega
      have HFi : Hid ((List.range (i - 1)).map DK = decF sl N O sr M P l) := hid0 (by
        rw [HDf.out]
        have := HI.out
        rw [show i - 1 = l.length - 1 by omega])
      rw [HFi.out] at HO
      obtain ⟨pa, pc, ep, _⟩ := HO.out.ia
      subst ep
      have HFin : Hid (RDecR w true (decF sl N O sr M P l) (.returned (.tuple #[.slice pa (decF sl N O sr M P l).length pc, .int .i64 0])) wr) := hid0 ⟨_, rfl, by rw [if_pos rfl]; exact owns_lower HO.out HW5.out.size, HW5.out.trans (HB.out.mono HW5.out.size)⟩
      clear hbw hil
      go_wp2
      go_returns
      exact HFin.out
set_option maxRecDepth 10000 in
set_option maxHeartbeats 1600000 in
theorem refDecide_no (sl sr : Int) (N O M P : List (List Int)) (B : List Bool) (el : Bool) (aN aO aM aP aB : Option Addr) (cN cO cM cP cB : Nat) (l : List Int) (aw : Option Addr) (cw : Nat) (w : World) (hs : PrS ⟨sl, N, O, sr, M, P, B, el⟩) (ha : PrA w ⟨sl, N, O, sr, M, P, B, el⟩ ⟨aN, aO, aM, aP, aB, cN, cO, cM, cP, cB⟩) (hw : IA w aw l) (h1 : chkP sl N O sr M P B.length (symF N : Int) = false) :
    Calls Tryd.prog 8 #[.agg #[.int .i64 sl, .slice aN N.length cN, .slice aO O.length cO, .int .i64 sr, .slice aM M.length cM, .slice aP P.length cP, .slice aB B.length cB, .bool el], .slice aw l.length cw] w fun e w' => RDecR w false (decF sl N O sr M P l) e w' := by
  obtain ⟨w0, hw0, hB0, hz0, hC0⟩ := box_pr w ⟨sl, N, O, sr, M, P, B, el⟩ ⟨aN, aO, aM, aP, aB, cN, cO, cM, cP, cB⟩
  have HC : Hid (∀ V : World, Below w0.heap.size w0 V → (V.cell? ⟨w.heap.size, 0, none⟩ = some (.int .i64 sl) ∧ V.cell? ⟨w.heap.size, 1, none⟩ = some (.slice aN N.length cN) ∧ V.cell? ⟨w.heap.size, 2, none⟩ = some (.slice aO O.length cO) ∧ V.cell? ⟨w.heap.size, 3, none⟩ = some (.int .i64 sr)) ∧ V.cell? ⟨w.heap.size, 4, none⟩ = some (.slice aM M.length cM) ∧ V.cell? ⟨w.heap.size, 5, none⟩ = some (.slice aP P.length cP) ∧ V.cell? ⟨w.heap.size, 6, none⟩ = some (.slice aB B.length cB) ∧ V.cell? ⟨w.heap.size, 7, none⟩ = some (.bool el)) := hid0 hC0
  replace hw0 : w.alloc (.cells #[.int .i64 sl, .slice aN N.length cN, .slice aO O.length cO, .int .i64 sr, .slice aM M.length cM, .slice aP P.length cP, .slice aB B.length cB, .bool el] 27) = w0 := hw0
  have HAl : Hid (∀ V : World, Below w0.heap.size w0 V → PrA V ⟨sl, N, O, sr, M, P, B, el⟩ ⟨aN, aO, aM, aP, aB, cN, cO, cM, cP, cB⟩ ∧ IA V aw l ∧ Below w.heap.size w V) := hid0 (fun V hV => by
    have h := hB0.trans (hV.mono (by omega))
    exact ⟨ha.past h, hw.past h, h⟩)
  have HSy := hid0 (refSymbols_any sl sr N O M P B el aN aO aM aP aB cN cO cM cP cB w0 hs (HAl.out w0 (Below.refl _ _)).1)
  have HCk : Hid (∀ V : World, Below w0.heap.size w0 V → Calls Tryd.prog 17 #[.agg #[.int .i64 sl, .slice aN N.length cN, .slice aO O.length cO, .int .i64 sr, .slice aM M.length cM, .slice aP P.length cP, .slice aB B.length cB, .bool el], .int .i64 (symF N : Int)] V fun e w' => e = .returned (.int .i64 1) ∧ Below V.heap.size V w') := hid0 (fun V hV => by
    have h := refPairCheck_any sl sr N O M P B el aN aO aM aP aB cN cO cM cP cB (symF N : Int) V hs (HAl.out V hV).1
    rw [h1] at h
    exact h)
  obtain ⟨⟨x0, x1, x2, x3⟩, x4, x5, x6, x7⟩ := HC.out w0 (Below.refl _ _)
  clear h1 hB0 hC0 hz0 ha hw hs
  generalize symF N = sy at *
  go_enter Tryd.func8, Tryd.ntmps8
  go_upto_region 2 with (go_at_call 29; refine HSy.out.mono ?_; rintro e w1 ⟨rfl, hb⟩; have HB1 := hid0 hb; clear hb; clear x0 x1 x2 x3 x4 x5 x6 x7)
  obtain ⟨⟨x0, x1, x2, x3⟩, x4, x5, x6, x7⟩ := HC.out w1 HB1.out
  go_wp2_with (go_at_call 17; refine (HCk.out w1 HB1.out).mono ?_; rintro e w2 ⟨rfl, hb⟩; have HB2 : Hid (Below w0.heap.size w0 w2) := hid0 (HB1.out.trans (hb.mono HB1.out.size)); clear hb; clear x0 x1 x2 x3 x4 x5 x6 x7)
  go_returns
  exact ⟨_, rfl, World.ownsRow_nil _ _ _ _, (HAl.out w2 HB2.out).2.2⟩
set_option maxRecDepth 10000 in
set_option maxHeartbeats 1600000 in
theorem refDecide_bad (sl sr : Int) (N O M P : List (List Int)) (B : List Bool) (el : Bool) (aN aO aM aP aB : Option Addr) (cN cO cM cP cB : Nat) (l : List Int) (aw : Option Addr) (cw : Nat) (w : World) (hs : PrS ⟨sl, N, O, sr, M, P, B, el⟩) (ha : PrA w ⟨sl, N, O, sr, M, P, B, el⟩ ⟨aN, aO, aM, aP, aB, cN, cO, cM, cP, cB⟩) (hl : l.length ≤ 1000000000) (hw : IA w aw l) (h1 : chkP sl N O sr M P B.length (symF N : Int) = true) (h2 : l.all (oneOf (symF N)) = false) :
    Calls Tryd.prog 8 #[.agg #[.int .i64 sl, .slice aN N.length cN, .slice aO O.length cO, .int .i64 sr, .slice aM M.length cM, .slice aP P.length cP, .slice aB B.length cB, .bool el], .slice aw l.length cw] w fun e w' => RDecR w false (decF sl N O sr M P l) e w' := by
  obtain ⟨w0, hw0, hB0, hz0, hC0⟩ := box_pr w ⟨sl, N, O, sr, M, P, B, el⟩ ⟨aN, aO, aM, aP, aB, cN, cO, cM, cP, cB⟩
  have HC : Hid (∀ V : World, Below w0.heap.size w0 V → (V.cell? ⟨w.heap.size, 0, none⟩ = some (.int .i64 sl) ∧ V.cell? ⟨w.heap.size, 1, none⟩ = some (.slice aN N.length cN) ∧ V.cell? ⟨w.heap.size, 2, none⟩ = some (.slice aO O.length cO) ∧ V.cell? ⟨w.heap.size, 3, none⟩ = some (.int .i64 sr)) ∧ V.cell? ⟨w.heap.size, 4, none⟩ = some (.slice aM M.length cM) ∧ V.cell? ⟨w.heap.size, 5, none⟩ = some (.slice aP P.length cP) ∧ V.cell? ⟨w.heap.size, 6, none⟩ = some (.slice aB B.length cB) ∧ V.cell? ⟨w.heap.size, 7, none⟩ = some (.bool el)) := hid0 hC0
  replace hw0 : w.alloc (.cells #[.int .i64 sl, .slice aN N.length cN, .slice aO O.length cO, .int .i64 sr, .slice aM M.length cM, .slice aP P.length cP, .slice aB B.length cB, .bool el] 27) = w0 := hw0
  have HAl : Hid (∀ V : World, Below w0.heap.size w0 V → PrA V ⟨sl, N, O, sr, M, P, B, el⟩ ⟨aN, aO, aM, aP, aB, cN, cO, cM, cP, cB⟩ ∧ IA V aw l ∧ Below w.heap.size w V) := hid0 (fun V hV => by
    have h := hB0.trans (hV.mono (by omega))
    exact ⟨ha.past h, hw.past h, h⟩)
  have HSy := hid0 (refSymbols_any sl sr N O M P B el aN aO aM aP aB cN cO cM cP cB w0 hs (HAl.out w0 (Below.refl _ _)).1)
  have HCk : Hid (∀ V : World, Below w0.heap.size w0 V → Calls Tryd.prog 17 #[.agg #[.int .i64 sl, .slice aN N.length cN, .slice aO O.length cO, .int .i64 sr, .slice aM M.length cM, .slice aP P.length cP, .slice aB B.length cB, .bool el], .int .i64 (symF N : Int)] V fun e w' => e = .returned (.int .i64 0) ∧ Below V.heap.size V w') := hid0 (fun V hV => by
    have h := refPairCheck_any sl sr N O M P B el aN aO aM aP aB cN cO cM cP cB (symF N : Int) V hs (HAl.out V hV).1
    rw [h1] at h
    exact h)
  obtain ⟨⟨x0, x1, x2, x3⟩, x4, x5, x6, x7⟩ := HC.out w0 (Below.refl _ _)
  have H2 := hid0 h2
  clear h1 hB0 hC0 hz0 ha hw hs h2
  generalize symF N = sy at *
  go_enter Tryd.func8, Tryd.ntmps8
  go_upto_region 2 with (go_at_call 29; refine HSy.out.mono ?_; rintro e w1 ⟨rfl, hb⟩; have HB1 := hid0 hb; clear hb; clear x0 x1 x2 x3 x4 x5 x6 x7)
  obtain ⟨⟨x0, x1, x2, x3⟩, x4, x5, x6, x7⟩ := HC.out w1 HB1.out
  go_upto_region 5 with (go_at_call 17; refine (HCk.out w1 HB1.out).mono ?_; rintro e w2 ⟨rfl, hb⟩; have HB2 : Hid (Below w0.heap.size w0 w2) := hid0 (HB1.out.trans (hb.mono HB1.out.size)); clear hb; clear x0 x1 x2 x3 x4 x5 x6 x7)
  go_wp2
  go_loopw [8] (fun iv wr => ∃ i : Nat, i ≤ l.length ∧ iv = .int .i64 (i : Int) ∧ Hid ((l.drop i).all (oneOf sy) = false) ∧ wr = w2) (fun iv _ => l.length - (intOf iv).toNat)
  case atStart => exact ⟨0, Nat.zero_le _, rfl, H2, rfl⟩
  case round =>
  obtain ⟨i, hi1, rfl, HD, rfl⟩ := hrel
  by_cases hil : i < l.length
  · have hiI : (i : Int) < (l.length : Int) := by omega
    have hiI0 : (0 : Int) ≤ (i : Int) := by omega
    obtain ⟨b1, o1, rfl, _, d1⟩ := (HAl.out wr HB2.out).2.1.at' i hil
    have HDi := hid0 HD.out
    rw [List.drop_eq_getElem_cons hil, List.all_cons] at HDi
    generalize l[i] = z at *
    have HFin : Hid (RDecR w false (decF sl N O sr M P l) (.returned (.tuple #[.slice none 0 0, .int .i64 1])) wr) := hid0 ⟨_, rfl, World.ownsRow_nil _ _ _ _, (HAl.out wr HB2.out).2.2⟩
    by_cases hz1 : z < 0
    · clear HDi
      go_wp2
      go_returns
      exact HFin.out
    · by_cases hz2 : z ≥ (sy : Int)
      · clear HDi
        go_wp2
        go_returns
        exact HFin.out
      · have HD2 : Hid ((l.drop (i + 1)).all (oneOf sy) = false) := hid0 (by
          have h := HDi.out
          rw [(oneOf_iff sy z).2 (by omega), Bool.true_and] at h
          exact h)
        clear HDi HFin
        go_wp2
        go_roundw
        case rel => exact ⟨i + 1, by omega, by go_num, HD2, trivial⟩
        case measure => simp [intOf]; omega
  · exfalso
    have h := HD.out
    rw [List.drop_eq_nil_of_le (by omega)] at h
    cases h
theorem refDecide_any (sl sr : Int) (N O M P : List (List Int)) (B : List Bool) (el : Bool) (aN aO aM aP aB : Option Addr) (cN cO cM cP cB : Nat) (l : List Int) (aw : Option Addr) (cw : Nat) (w : World) (hs : PrS ⟨sl, N, O, sr, M, P, B, el⟩) (ha : PrA w ⟨sl, N, O, sr, M, P, B, el⟩ ⟨aN, aO, aM, aP, aB, cN, cO, cM, cP, cB⟩) (hl : l.length ≤ 1000000000) (hw : IA w aw l) :
    Calls Tryd.prog 8 #[.agg #[.int .i64 sl, .slice aN N.length cN, .slice aO O.length cO, .int .i64 sr, .slice aM M.length cM, .slice aP P.length cP, .slice aB B.length cB, .bool el], .slice aw l.length cw] w fun e w' => RDecR w (okD sl N O sr M P B.length l) (decF sl N O sr M P l) e w' := by
  unfold okD
  cases h1 : chkP sl N O sr M P B.length (symF N : Int) with
  | false => exact refDecide_no sl sr N O M P B el aN aO aM aP aB cN cO cM cP cB l aw cw w hs ha hw h1
  | true =>
    cases h2 : l.all (oneOf (symF N)) with
    | false => exact refDecide_bad sl sr N O M P B el aN aO aM aP aB cN cO cM cP cB l aw cw w hs ha hl hw h1 h2
    | true => exact refDecide_good sl sr N O M P B el aN aO aM aP aB cN cO cM cP cB l aw cw w hs ha hl hw h1 h2
end Go.Proofs.YtilnanefkbdbkaaDoor
namespace Go.Proofs.YtilnanefkbdbkaaDoor
open Go.RowKit Go.Shelf
theorem numC_true : numC true = 0 := rfl
theorem numC_false : numC false = 1 := rfl
set_option maxRecDepth 10000 in
set_option maxHeartbeats 1600000 in
theorem refBreaks_any (sl sr : Int) (N O M P : List (List Int)) (B : List Bool) (el : Bool) (aN aO aM aP aB : Option Addr) (cN cO cM cP cB : Nat) (l : List Int) (aw : Option Addr) (cw : Nat) (w : World) (hs : PrS ⟨sl, N, O, sr, M, P, B, el⟩) (ha : PrA w ⟨sl, N, O, sr, M, P, B, el⟩ ⟨aN, aO, aM, aP, aB, cN, cO, cM, cP, cB⟩) (hl : l.length ≤ 1000000000) (hw : IA w aw l) :
    Calls Tryd.prog 10 #[.agg #[.int .i64 sl, .slice aN N.length cN, .slice aO O.length cO, .int .i64 sr, .slice aM M.length cM, .slice aP P.length cP, .slice aB B.length cB, .bool el], .slice aw l.length cw] w fun e w' => RDecR w (okD sl N O sr M P B.length l) (brkF (decF sl N O sr M P l) B el l.length) e w' := by
  obtain ⟨w0, hw0, hB0, hz0, hC0⟩ := box_pr w ⟨sl, N, O, sr, M, P, B, el⟩ ⟨aN, aO, aM, aP, aB, cN, cO, cM, cP, cB⟩
  have HC : Hid (∀ V : World, Below w0.heap.size w0 V → (V.cell? ⟨w.heap.size, 0, none⟩ = some (.int .i64 sl) ∧ V.cell? ⟨w.heap.size, 1, none⟩ = some (.slice aN N.length cN) ∧ V.cell? ⟨w.heap.size, 2, none⟩ = some (.slice aO O.length cO) ∧ V.cell? ⟨w.heap.size, 3, none⟩ = some (.int .i64 sr)) ∧ V.cell? ⟨w.heap.size, 4, none⟩ = some (.slice aM M.length cM) ∧ V.cell? ⟨w.heap.size, 5, none⟩ = some (.slice aP P.length cP) ∧ V.cell? ⟨w.heap.size, 6, none⟩ = some (.slice aB B.length cB) ∧ V.cell? ⟨w.heap.size, 7, none⟩ = some (.bool el)) := hid0 hC0
  replace hw0 : w.alloc (.cells #[.int .i64 sl, .slice aN N.length cN, .slice aO O.length cO, .int .i64 sr, .slice aM M.length cM, .slice aP P.length cP, .slice aB B.length cB, .bool el] 27) = w0 := hw0
  obtain ⟨i0, hi, hy0, hy1, hy2⟩ := info_parts infoInt
  have HAl : Hid (∀ V : World, Below w0.heap.size w0 V → PrA V ⟨sl, N, O, sr, M, P, B, el⟩ ⟨aN, aO, aM, aP, aB, cN, cO, cM, cP, cB⟩ ∧ IA V aw l ∧ Below w.heap.size w V) := hid0 (fun V hV => by
    have h := hB0.trans (hV.mono (by omega))
    exact ⟨ha.past h, hw.past h, h⟩)
  have HDe := hid0 (refDecide_any sl sr N O M P B el aN aO aM aP aB cN cO cM cP cB l aw cw w0 hs (HAl.out w0 (Below.refl _ _)).1 hl (HAl.out w0 (Below.refl _ _)).2.1)
  obtain ⟨⟨x0, x1, x2, x3⟩, x4, x5, x6, x7⟩ := HC.out w0 (Below.refl _ _)
  have HS := hid0 hs
  have hB : B.length ≤ 1000000000 := hs.b
  clear hB0 hC0 hz0 ha hw hs
  cases hok : okD sl N O sr M P B.length l with
  | false =>
    rw [hok] at HDe
    unfold RDecR at HDe
    rw [numC_false] at HDe
    clear hok
    go_enter Tryd.func10, Tryd.ntmps10
    go_wp2_with (go_at_call 8; go_loud ((
      refine HDe.out.mono ?_
      rintro e w1 ⟨v, rfl, _, hb1⟩
      have HB1 := hid0 hb1
      clear hb1)))
    go_returns
    exact ⟨_, rfl, World.ownsRow_nil _ _ _ _, (HAl.out w1 HB1.out).2.2⟩
  | true =>
    have HLt := hid0 (dec_lt hok)
    have HLn : Hid ((decF sl N O sr M P l).length = l.length - 1) := hid0 (by unfold decF; simp)
    rw [hok] at HDe
    unfold RDecR at HDe
    simp only [if_true] at HDe
    rw [numC_true] at HDe
    clear hok
    generalize decF sl N O sr M P l = D at *
    have hDl : D.length ≤ 1000000000 := by have := HLn.out; omega
    by_cases h0 : l.length = 0
    · have h0I : (l.length : Int) = 0 := by omega
      have h0b : ((l.length : Int) == 0) = true := by rw [beq_iff_eq]; omega
      have HV : Hid (brkF D B el l.length = []) := hid0 (by unfold brkF; rw [if_pos h0])
      clear h0
      go_enter Tryd.func10, Tryd.ntmps10
      go_wp2_with (go_at_call 8; go_loud ((
        refine HDe.out.mono ?_
        rintro e w1 ⟨v, rfl, _, hb1⟩
        have HB1 := hid0 hb1
        clear hb1)))
      go_returns
      exact ⟨_, rfl, by rw [if_pos rfl, HV.out]; exact World.ownsRow_nil _ _ _ _, (HAl.out w1 HB1.out).2.2⟩
    · have h0I : ¬ (l.length : Int) = 0 := by omega
      have h0b : ((l.length : Int) == 0) = false := by rw [beq_eq_false_iff_ne]; exact h0I
      have h0n : ¬ l = [] := fun e => h0 (by rw [e]; rfl)
      have HV : Hid (brkF D B el l.length = (0 :: brkK D B el D.length) ++ [(l.length : Int)]) := hid0 (by unfold brkF; rw [if_neg h0]; rfl)
      clear h0
      go_enter Tryd.func10, Tryd.ntmps10
      go_upto_region 4 with (go_at_call 8; go_loud ((
        refine HDe.out.mono ?_
        rintro e w1 ⟨v, rfl, ho1, hb1⟩
        obtain ⟨av, cv, rfl, iv⟩ := ho1.ia
        have HIv := hid0 iv
        have HB1 := hid0 hb1
        clear ho1 hb1 iv; clear x0 x1 x2 x3 x4 x5 x6 x7)))
      go_wp2
      go_loopw [8, 9] (fun pv kv wr => ∃ k : Nat, k ≤ D.length ∧ kv = .int .i64 (k : Int) ∧ Hid (OwnI wr w1.heap.size pv (0 :: brkK D B el k)) ∧ Hid (Below w1.heap.size w1 wr)) (fun _ kv _ => D.length - (intOf kv).toNat)
      case atStart => exact ⟨0, Nat.zero_le _, rfl, hid0 (own_one w1 _ 0 (Nat.le_refl _)), hid0 ((Below.refl _ _).alloc (Nat.le_refl _) _)⟩
      case round =>
        obtain ⟨k, hk, rfl, HO, HB⟩ := hrel
        have hbw : Below w0.heap.size w0 wr := HB1.out.trans (HB.out.mono HB1.out.size)
        have HBw := hid0 hbw
        have hsz := HB.out.size
        obtain ⟨pa, pc, ep, _⟩ := HO.out.ia
        subst ep
        have hbl := brkK_len D B el k
        by_cases hkl : k < D.length
        · have hkI : (k : Int) < (D.length : Int) := by omega
          have hkI0 : (0 : Int) ≤ (k : Int) := by omega
          obtain ⟨b1, o1, rfl, _, d1⟩ := (HIv.out.past HB.out).at' k hkl
          have hdm := HLt.out _ (List.getElem_mem hkl)
          have HG : Hid (D.getD k 0 = D[k]) := hid0 (by rw [List.getD_eq_getElem?_getD, List.getElem?_eq_getElem hkl]; rfl)
          have HSt := hid0 (brkK_step D B el k)
          rw [HG.out] at HSt
          have HSa := hid0 (refSays_any sl sr N O M P B el aN aO aM aP aB cN cO cM cP cB D[k] wr.drew (by rcases hdm with h | h <;> omega) HS.out ((HAl.out wr hbw).1.past ⟨rfl, rfl, rfl, Nat.le_refl _, fun _ _ => rfl⟩))
          generalize D[k] = d at *
          have HSx : Hid (∀ V : World, Below wr.heap.size wr V → (fun V => V.cell? ⟨w.heap.size, 0, none⟩ = some (.int .i64 sl) ∧ V.cell? ⟨w.heap.size, 1, none⟩ = some (.slice aN N.length cN) ∧ V.cell? ⟨w.heap.size, 2, none⟩ = some (.slice aO O.length cO) ∧ V.cell? ⟨w.heap.size, 3, none⟩ = some (.int .i64 sr) ∧ V.cell? ⟨w.heap.size, 4, none⟩ = some (.slice aM M.length cM) ∧ V.cell? ⟨w.heap.size, 5, none⟩ = some (.slice aP P.length cP) ∧ V.cell? ⟨w.heap.size, 6, none⟩ = some (.slice aB B.length cB) ∧ V.cell? ⟨w.heap.size, 7, none⟩ = some (.bool el) ∧ V.cell? ⟨b1, o1 + k, none⟩ = some (.int .i64 d)) V) := hid0 (fun V hV => by
            have hv := HC.out V (hbw.trans (hV.mono hbw.size))
            exact ⟨hv.1.1, hv.1.2.1, hv.1.2.2.1, hv.1.2.2.2, hv.2.1, hv.2.2.1, hv.2.2.2.1, hv.2.2.2.2, (hV.cell (p := ⟨b1, o1 + k, none⟩) (World.block_lt_of_cell? _ _ d1)).trans d1⟩)
          obtain ⟨⟨x0, x1, x2, x3⟩, x4, x5, x6, x7⟩ := HC.out wr hbw
          clear hdm hbw
          cases hsy : sayF B el d with
          | false =>
            rw [hsy] at HSa HSt
            have HE : Hid (brkK D B el (k + 1) = brkK D B el k) := hid0 (by rw [HSt.out]; simp)
            clear hsy HSt
            go_upto_region 10 with (fail)
            refine wp_region_noPanic ?_
            refine wp_region_held_drew (S := (fun V => V.cell? ⟨w.heap.size, 0, none⟩ = some (.int .i64 sl) ∧ V.cell? ⟨w.heap.size, 1, none⟩ = some (.slice aN N.length cN) ∧ V.cell? ⟨w.heap.size, 2, none⟩ = some (.slice aO O.length cO) ∧ V.cell? ⟨w.heap.size, 3, none⟩ = some (.int .i64 sr) ∧ V.cell? ⟨w.heap.size, 4, none⟩ = some (.slice aM M.length cM) ∧ V.cell? ⟨w.heap.size, 5, none⟩ = some (.slice aP P.length cP) ∧ V.cell? ⟨w.heap.size, 6, none⟩ = some (.slice aB B.length cB) ∧ V.cell? ⟨w.heap.size, 7, none⟩ = some (.bool el) ∧ V.cell? ⟨b1, o1 + k, none⟩ = some (.int .i64 d))) (by kernel_rfl) ?_ (fun hHeld => ?_)
            · exact HSx.out _ ⟨rfl, rfl, rfl, Nat.le_refl _, fun _ _ => rfl⟩
            refine tkV (i := 0) (d := some 30) (v := ?_) rfl (by kernel_rfl) (by kernel_rfl) (by kernel_rfl) rfl (fun _ _ _ h => h) (by rfl) ?_ (by assumption) ?_
            rotate_left
            · (intro w hSw; (try dsimp only at hSw); (try simp only [List.getElem_toArray, List.getElem_cons_zero]); go_simp; try with_reducible rfl)
            try simp only [Act.put, List.setIfInBounds_toArray, List.set_cons_zero, List.set_cons_succ]
            refine tkV (i := 1) (d := some 31) (v := ?_) rfl (by kernel_rfl) (by kernel_rfl) (by kernel_rfl) rfl (fun _ _ _ h => h) (by rfl) ?_ (by assumption) ?_
            rotate_left
            · (intro w hSw; (try dsimp only at hSw); (try simp only [List.getElem_toArray, List.getElem_cons_zero, List.getElem_cons_succ]); go_simp; try with_reducible rfl)
            try simp only [Act.put, List.setIfInBounds_toArray, List.set_cons_zero, List.set_cons_succ]
            refine tkV (i := 2) (d := some 32) (v := ?_) rfl (by kernel_rfl) (by kernel_rfl) (by kernel_rfl) rfl (fun _ _ _ h => h) (by rfl) ?_ (by assumption) ?_
            rotate_left
            · (intro w hSw; (try dsimp only at hSw); (try simp only [List.getElem_toArray, List.getElem_cons_zero, List.getElem_cons_succ]); go_simp; try with_reducible rfl)
            try simp only [Act.put, List.setIfInBounds_toArray, List.set_cons_zero, List.set_cons_succ]
            refine tkV (i := 3) (d := some 33) (v := ?_) rfl (by kernel_rfl) (by kernel_rfl) (by kernel_rfl) rfl (fun _ _ _ h => h) (by rfl) ?_ (by assumption) ?_
            rotate_left
            · (intro w hSw; (try dsimp only at hSw); (try simp only [List.getElem_toArray, List.getElem_cons_zero, List.getElem_cons_succ]); go_simp; try with_reducible rfl)
            try simp only [Act.put, List.setIfInBounds_toArray, List.set_cons_zero, List.set_cons_succ]
            refine tkV (i := 4) (d := some 34) (v := ?_) rfl (by kernel_rfl) (by kernel_rfl) (by kernel_rfl) rfl (fun _ _ _ h => h) (by rfl) ?_ (by assumption) ?_
            rotate_left
            · (intro w hSw; (try dsimp only at hSw); (try simp only [List.getElem_toArray, List.getElem_cons_zero, List.getElem_cons_succ]); go_simp; try with_reducible rfl)
            try simp only [Act.put, List.setIfInBounds_toArray, List.set_cons_zero, List.set_cons_succ]
            refine wpAnyH_ready (rs := [5]) (by kernel_rfl) (by simp) (AllReadyH.cons rfl (fun K hK => ?_) AllReadyH.nil)
            try simp only [List.getElem_toArray, List.getElem_cons_zero, List.getElem_cons_succ]
            go_simp
            refine HSa.out.mono ?_
            rintro e w2 ⟨rfl, hb2⟩
            have HB2 : Hid (Below wr.heap.size wr w2) := hid0 ((⟨rfl, rfl, rfl, Nat.le_refl _, fun _ _ => rfl⟩ : Below wr.heap.size wr wr.drew).trans hb2)
            have HS2 := hid0 (HSx.out w2 HB2.out)
            have hs2 := HB2.out.size
            clear hb2
            go_wp2_with fail
            refine hK.out _ _ ?_ (fun hHeld5 => ?_)
            · exact HS2.out
            clear hK K
            (try simp only [Act.put]); (try simp only [List.setIfInBounds_toArray]); (try simp only [List.set_cons_succ]); (try simp only [List.set_cons_zero])
            refine tkV (i := 6) (d := some 10) (v := ?_) rfl (by kernel_rfl) (by kernel_rfl) (by kernel_rfl) rfl (fun _ _ _ h => h) (by rfl) ?_ (by assumption) ?_
            rotate_left
            · (intro w hSw; (try dsimp only at hSw); (try simp only [List.getElem_toArray, List.getElem_cons_zero, List.getElem_cons_succ]); go_simp; try with_reducible rfl)
            try simp only [Act.put, List.setIfInBounds_toArray, List.set_cons_zero, List.set_cons_succ]
            refine wpAnyH_done (by kernel_rfl) ?_ _
            refine NoPanic.normal ?_
            clear hHeld hHeld5 HS2
            go_wp2
            go_roundw
            case rel => exact ⟨k + 1, by omega, by go_num, hid0 (by rw [HE.out]; exact HO.out.past HB2.out), hid0 (HB.out.trans (HB2.out.mono HB.out.size))⟩
            case measure => simp [intOf]; omega
          | true =>
            rw [hsy] at HSa HSt
            have HE : Hid (0 :: brkK D B el (k + 1) = (0 :: brkK D B el k) ++ [(k : Int) + 1]) := hid0 (by rw [HSt.out]; simp)
            have hadd : IntKind.i64.wrap ((k : Int) + 1) = (k : Int) + 1 := by simp [IntKind.wrap, IntKind.bits, IntKind.signed]; omega
            have hXl : (0 :: brkK D B el k).length ≤ 1000000001 := by rw [List.length_cons]; omega
            clear hsy HSt
            generalize (0 :: brkK D B el k) = X at *
            go_upto_region 10 with (fail)
            refine wp_region_noPanic ?_
            refine wp_region_held_drew (S := (fun V => V.cell? ⟨w.heap.size, 0, none⟩ = some (.int .i64 sl) ∧ V.cell? ⟨w.heap.size, 1, none⟩ = some (.slice aN N.length cN) ∧ V.cell? ⟨w.heap.size, 2, none⟩ = some (.slice aO O.length cO) ∧ V.cell? ⟨w.heap.size, 3, none⟩ = some (.int .i64 sr) ∧ V.cell? ⟨w.heap.size, 4, none⟩ = some (.slice aM M.length cM) ∧ V.cell? ⟨w.heap.size, 5, none⟩ = some (.slice aP P.length cP) ∧ V.cell? ⟨w.heap.size, 6, none⟩ = some (.slice aB B.length cB) ∧ V.cell? ⟨w.heap.size, 7, none⟩ = some (.bool el) ∧ V.cell? ⟨b1, o1 + k, none⟩ = some (.int .i64 d))) (by kernel_rfl) ?_ (fun hHeld => ?_)
            · exact HSx.out _ ⟨rfl, rfl, rfl, Nat.le_refl _, fun _ _ => rfl⟩
            refine tkV (i := 0) (d := some 30) (v := ?_) rfl (by kernel_rfl) (by kernel_rfl) (by kernel_rfl) rfl (fun _ _ _ h => h) (by rfl) ?_ (by assumption) ?_
            rotate_left
            · (intro w hSw; (try dsimp only at hSw); (try simp only [List.getElem_toArray, List.getElem_cons_zero]); go_simp; try with_reducible rfl)
            try simp only [Act.put, List.setIfInBounds_toArray, List.set_cons_zero, List.set_cons_succ]
            refine tkV (i := 1) (d := some 31) (v := ?_) rfl (by kernel_rfl) (by kernel_rfl) (by kernel_rfl) rfl (fun _ _ _ h => h) (by rfl) ?_ (by assumption) ?_
            rotate_left
            · (intro w hSw; (try dsimp only at hSw); (try simp only [List.getElem_toArray, List.getElem_cons_zero, List.getElem_cons_succ]); go_simp; try with_reducible rfl)
            try simp only [Act.put, List.setIfInBounds_toArray, List.set_cons_zero, List.set_cons_succ]
            refine tkV (i := 2) (d := some 32) (v := ?_) rfl (by kernel_rfl) (by kernel_rfl) (by kernel_rfl) rfl (fun _ _ _ h => h) (by rfl) ?_ (by assumption) ?_
            rotate_left
            · (intro w hSw; (try dsimp only at hSw); (try simp only [List.getElem_toArray, List.getElem_cons_zero, List.getElem_cons_succ]); go_simp; try with_reducible rfl)
            try simp only [Act.put, List.setIfInBounds_toArray, List.set_cons_zero, List.set_cons_succ]
            refine tkV (i := 3) (d := some 33) (v := ?_) rfl (by kernel_rfl) (by kernel_rfl) (by kernel_rfl) rfl (fun _ _ _ h => h) (by rfl) ?_ (by assumption) ?_
            rotate_left
            · (intro w hSw; (try dsimp only at hSw); (try simp only [List.getElem_toArray, List.getElem_cons_zero, List.getElem_cons_succ]); go_simp; try with_reducible rfl)
            try simp only [Act.put, List.setIfInBounds_toArray, List.set_cons_zero, List.set_cons_succ]
            refine tkV (i := 4) (d := some 34) (v := ?_) rfl (by kernel_rfl) (by kernel_rfl) (by kernel_rfl) rfl (fun _ _ _ h => h) (by rfl) ?_ (by assumption) ?_
            rotate_left
            · (intro w hSw; (try dsimp only at hSw); (try simp only [List.getElem_toArray, List.getElem_cons_zero, List.getElem_cons_succ]); go_simp; try with_reducible rfl)
            try simp only [Act.put, List.setIfInBounds_toArray, List.set_cons_zero, List.set_cons_succ]
            refine wpAnyH_ready (rs := [5]) (by kernel_rfl) (by simp) (AllReadyH.cons rfl (fun K hK => ?_) AllReadyH.nil)
            try simp only [List.getElem_toArray, List.getElem_cons_zero, List.getElem_cons_succ]
            go_simp
            refine HSa.out.mono ?_
            rintro e w2 ⟨rfl, hb2⟩
            have HB2 : Hid (Below wr.heap.size wr w2) := hid0 ((⟨rfl, rfl, rfl, Nat.le_refl _, fun _ _ => rfl⟩ : Below wr.heap.size wr wr.drew).trans hb2)
            have HS2 := hid0 (HSx.out w2 HB2.out)
            have hs2 := HB2.out.size
            clear hb2
            go_wp2_with fail
            refine hK.out _ _ ?_ (fun hHeld5 => ?_)
            · exact HS2.out
            clear hK K
            (try simp only [Act.put]); (try simp only [List.setIfInBounds_toArray]); (try simp only [List.set_cons_succ]); (try simp only [List.set_cons_zero])
            refine tkV (i := 6) (d := some 10) (v := ?_) rfl (by kernel_rfl) (by kernel_rfl) (by kernel_rfl) rfl (fun _ _ _ h => h) (by rfl) ?_ (by assumption) ?_
            rotate_left
            · (intro w hSw; (try dsimp only at hSw); (try simp only [List.getElem_toArray, List.getElem_cons_zero, List.getElem_cons_succ]); go_simp; try with_reducible rfl)
            try simp only [Act.put, List.setIfInBounds_toArray, List.set_cons_zero, List.set_cons_succ]
            refine wpAnyH_done (by kernel_rfl) ?_ _
            refine NoPanic.normal ?_
            clear hHeld hHeld5 HS2
            go_wp2_with (first
              | (at_builtin; go_loud ((
                  refine wpList_append_own_at _ rfl _ _ 28 rfl w1.heap.size 3 i0 (.int .i64 0) 1 8 Tryd.underlying28 hi hy0 hy1 hy2 rfl (by decide) _ X.length (X.map (Value.int .i64)) rfl (World.ownsRow.alloc (HO.out.past HB2.out) _) ⟨w2.heap.size, 0, none⟩ 1 1 [.int .i64 ((k : Int) + 1)] rfl rfl (cell_one_new _ _ _) (by simp [Value.oneCell']) (by unfold maxLen; omega) (by omega) (by simp; omega) ?_
                  intro v3 w3 hown3 hgrow3 _ _
                  have R := ownI_snoc rfl (HO.out.past HB2.out) hown3 hgrow3 (HB.out.trans (HB2.out.mono HB.out.size)) (Nat.le_refl _)
                  have HO3 := hid0 R.1
                  have HB3 := hid0 R.2
                  obtain ⟨av3, cv3, ev3, _⟩ := R.1.ia
                  rw [List.length_append, List.length_singleton] at ev3
                  subst ev3
                  clear R hown3 hgrow3))))
            go_roundw
            case rel => exact ⟨k + 1, by omega, by go_num, hid0 (by rw [HE.out]; exact HO3.out), HB3⟩
            case measure => simp [intOf]; omega
        · have hkI : ¬ (k : Int) < (D.length : Int) := by omega
          obtain rfl : k = D.length := by omega
          have hXl : (0 :: brkK D B el D.length).length ≤ 1000000001 := by rw [List.length_cons]; omega
          generalize (0 :: brkK D B el D.length) = X at *
          clear hbw
          go_wp2_with (at_builtin; go_loud ((
            refine wpList_append_own_at _ rfl _ _ 28 rfl w1.heap.size 3 i0 (.int .i64 0) 1 8 Tryd.underlying28 hi hy0 hy1 hy2 rfl (by decide) _ X.length (X.map (Value.int .i64)) rfl (World.ownsRow.alloc HO.out _) ⟨wr.heap.size, 0, none⟩ 1 1 [.int .i64 (l.length : Int)] rfl rfl (cell_one_new _ _ _) (by simp [Value.oneCell']) (by unfold maxLen; omega) (by omega) (by simp; omega) ?_
            intro v3 w3 hown3 hgrow3 _ _
            have R := ownI_snoc rfl HO.out hown3 hgrow3 HB.out (Nat.le_refl _)
            have HO3 := hid0 R.1
            have HB3 := hid0 R.2
            clear R hown3 hgrow3)))
          go_returns
          have hfin := (HAl.out w1 HB1.out).2.2
          exact ⟨_, rfl, by rw [if_pos rfl, HV.out]; exact owns_lower HO3.out hfin.size, hfin.trans (HB3.out.mono hfin.size)⟩
end Go.Proofs.YtilnanefkbdbkaaDoor
namespace Go.Proofs.YtilnanefkbdbkaaDoor
open Go.RowKit Go.Shelf
theorem drew_more {w w' : World} {a b : Nat} (h : ∃ m, w' = (w.drewN (a + b)).drewN m) : ∃ n, w' = w.drewN (a + n) := by
  obtain ⟨m, hm⟩ := h
  exact ⟨b + m, by rw [hm, World.drewN_drewN, Nat.add_assoc]⟩
set_option maxRecDepth 10000 in
set_option maxHeartbeats 1600000 in
theorem sameRows (L : List (List Int)) (a b : Option Addr) (ca cb : Nat) (w : World) (hl : L.length ≤ 1000000000) (hr : ∀ r ∈ L, r.length ≤ 1000000000) (ha : RwA w a L) (hb : RwA w b L) :
    Calls Tryd.prog 44 #[.slice a L.length ca, .slice b L.length cb] w fun e w' => e = .returned (.bool true) ∧ ∃ n, w' = w.drewN n := by
  have HA := hid0 ha
  have HB := hid0 hb
  have HR := hid0 hr
  clear ha hb hr
  go_enter Tryd.func44, Tryd.ntmps44
  go_wp2
  go_loopw [5] (fun i wr => ∃ k : Nat, k ≤ L.length ∧ i = .int .i64 (k : Int) ∧ ∃ n, wr = w.drewN n) (fun i _ => L.length - (intOf i).toNat)
  case atStart => exact ⟨0, Nat.zero_le _, rfl, 0, rfl⟩
  case round =>
    obtain ⟨k, hk, rfl, nd, rfl⟩ := hrel
    by_cases hlt : k < L.length
    · obtain ⟨b1, o1, rfl, _, a1, c1, d1, i1⟩ := HA.out.at' k hlt
      obtain ⟨b2, o2, rfl, _, a2, c2, d2, i2⟩ := HB.out.at' k hlt
      have HS := hid0 (fun n => sameI L[k] a1 a2 c1 c2 (w.drewN n) (by have := HR.out _ (List.getElem_mem hlt); omega) ⟨i1.at'⟩ ⟨i2.at'⟩)
      clear i1 i2
      generalize L[k] = s at *
      have hkI : (k : Int) < (L.length : Int) := by omega
      have hkI0 : (0 : Int) ≤ (k : Int) := by omega
      go_wp2
      go_quiet ((go_at_call 11; exact (HS.out _).mono (fun _ _ h => ⟨h.1, drew_more h.2⟩)))
      go_wp2
      go_roundw
      case rel => exact ⟨k + 1, by omega, by go_num, _, rfl⟩
      case measure => simp [intOf]; omega
    · have hkI : ¬ (k : Int) < (L.length : Int) := by omega
      go_wp2
      go_ret
      exact ⟨rfl, nd, rfl⟩
theorem two_boxes (w : World) (a b : Array Value) (t : TypeId) : ∃ w0, (w.alloc (.cells a t)).alloc (.cells b t) = w0 ∧ Below w.heap.size w w0 ∧ w0.heap.size = w.heap.size + 1 + 1 ∧ w0.heap[w.heap.size]? = some (.cells a t (0, 0)) ∧ w0.heap[w.heap.size + 1]? = some (.cells b t (0, 0)) := by
  refine ⟨_, rfl, ((Below.refl _ _).alloc (Nat.le_refl _) _).alloc (by simp) _, by simp, ?_, ?_⟩
  · rw [Below.heap_alloc _ _ _ (by simp)]
    exact heap_alloc_new w _
  · have h := heap_alloc_new (w.alloc (.cells a t)) (.cells b t)
    simpa using h
theorem row3c {W : World} {X : Nat} {t : TypeId} {a b c : Value} (h : W.heap[X]? = some (.cells #[a, b, c] t (0, 0))) : W.cell? ⟨X, 0, none⟩ = some a ∧ W.cell? ⟨X, 1, none⟩ = some b ∧ W.cell? ⟨X, 2, none⟩ = some c :=
  ⟨by rw [cell_of_row _ _ _ _ _ _ h]; rfl, by rw [cell_of_row _ _ _ _ _ _ h]; rfl, by rw [cell_of_row _ _ _ _ _ _ h]; rfl⟩
set_option maxRecDepth 10000 in
set_option maxHeartbeats 1600000 in
theorem sameMachine (st : Int) (N O : List (List Int)) (aN aO aM aP : Option Addr) (cN cO cM cP : Nat) (w : World) (hn : N.length ≤ 1000000000) (hnr : ∀ r ∈ N, r.length ≤ 1000000000) (ho : O.length ≤ 1000000000) (hor : ∀ r ∈ O, r.length ≤ 1000000000) (h1 : RwA w aN N) (h2 : RwA w aO O) (h3 : RwA w aM N) (h4 : RwA w aP O) :
    Calls Tryd.prog 36 #[.agg #[.int .i64 st, .slice aN N.length cN, .slice aO O.length cO], .agg #[.int .i64 st, .slice aM N.length cM, .slice aP O.length cP]] w fun e w' => e = .returned (.bool true) ∧ Below w.heap.size w w' := by
  obtain ⟨w0, hw0, hB0, hsz0, hA0, hM0⟩ := two_boxes w #[.int .i64 st, .slice aN N.length cN, .slice aO O.length cO] #[.int .i64 st, .slice aM N.length cM, .slice aP O.length cP] 24
  obtain ⟨x0, x1, x2⟩ := row3c hA0
  obtain ⟨y0, y1, y2⟩ := row3c hM0
  have HS1 := hid0 (sameRows N aN aM cN cM w0 hn hnr (h1.past hB0) (h3.past hB0))
  have HS2 : Hid (∀ n, Calls Tryd.prog 44 #[.slice aO O.length cO, .slice aP O.length cP] (w0.drewN n) fun e w' => e = .returned (.bool true) ∧ ∃ m, w' = (w0.drewN n).drewN m) := hid0 (fun n => sameRows O aO aP cO cP (w0.drewN n) ho hor ((h2.past hB0).past (below_drew' (Below.refl _ _) n)) ((h4.past hB0).past (below_drew' (Below.refl _ _) n)))
  have HB0 := hid0 hB0
  have hself : (st == st) = true := by simp
  clear hB0 hA0 hM0 h1 h2 h3 h4 hsz0
  go_enter Tryd.func36, Tryd.ntmps36
  go_wp2_with (first
    | (go_at_call 44; have hq := HQ.out; refine (HS2.out n1).mono ?_; rintro e w2 ⟨rfl, n2, hw2⟩; rw [World.drewN_drewN] at hw2; subst hw2; clear hq)
    | (go_at_call 44; refine HS1.out.mono ?_; rintro e w1 ⟨rfl, n1, hw1⟩; subst hw1; have HQ : Hid True := hid0 trivial; clear HS1))
  go_ret
  exact ⟨rfl, below_drew' HB0.out _⟩
set_option maxRecDepth 10000 in
set_option maxHeartbeats 1600000 in
theorem samePairing (sl sr : Int) (N O M P : List (List Int)) (B : List Bool) (el : Bool) (aN aO aM aP aB : Option Addr) (cN cO cM cP cB : Nat) (bN bO bM bP bB : Option Addr) (dN dO dM dP dB : Nat) (w : World) (hs : PrS ⟨sl, N, O, sr, M, P, B, el⟩) (ha : PrA w ⟨sl, N, O, sr, M, P, B, el⟩ ⟨aN, aO, aM, aP, aB, cN, cO, cM, cP, cB⟩) (hb : PrA w ⟨sl, N, O, sr, M, P, B, el⟩ ⟨bN, bO, bM, bP, bB, dN, dO, dM, dP, dB⟩) (ho : O.length ≤ 1000000000) (hp : P.length ≤ 1000000000) :
    Calls Tryd.prog 15 #[.agg #[.int .i64 sl, .slice aN N.length cN, .slice aO O.length cO, .int .i64 sr, .slice aM M.length cM, .slice aP P.length cP, .slice aB B.length cB, .bool el], .agg #[.int .i64 sl, .slice bN N.length dN, .slice bO O.length dO, .int .i64 sr, .slice bM M.length dM, .slice bP P.length dP, .slice bB B.length dB, .bool el]] w fun e w' => e = .returned (.bool true) ∧ Below w.heap.size w w' := by
  obtain ⟨w0, hw0, hB0, hsz0, hA0, hM0⟩ := two_boxes w #[.int .i64 sl, .slice aN N.length cN, .slice aO O.length cO, .int .i64 sr, .slice aM M.length cM, .slice aP P.length cP, .slice aB B.length cB, .bool el] #[.int .i64 sl, .slice bN N.length dN, .slice bO O.length dO, .int .i64 sr, .slice bM M.length dM, .slice bP P.length dP, .slice bB B.length dB, .bool el] 27
  have HC : Hid (∀ V : World, Below w0.heap.size w0 V → ((V.cell? ⟨w.heap.size, 0, none⟩ = some (.int .i64 sl) ∧ V.cell? ⟨w.heap.size, 1, none⟩ = some (.slice aN N.length cN) ∧ V.cell? ⟨w.heap.size, 2, none⟩ = some (.slice aO O.length cO) ∧ V.cell? ⟨w.heap.size, 3, none⟩ = some (.int .i64 sr)) ∧ V.cell? ⟨w.heap.size, 4, none⟩ = some (.slice aM M.length cM) ∧ V.cell? ⟨w.heap.size, 5, none⟩ = some (.slice aP P.length cP) ∧ V.cell? ⟨w.heap.size, 6, none⟩ = some (.slice aB B.length cB) ∧ V.cell? ⟨w.heap.size, 7, none⟩ = some (.bool el)) ∧ ((V.cell? ⟨w.heap.size + 1, 0, none⟩ = some (.int .i64 sl) ∧ V.cell? ⟨w.heap.size + 1, 1, none⟩ = some (.slice bN N.length dN) ∧ V.cell? ⟨w.heap.size + 1, 2, none⟩ = some (.slice bO O.length dO) ∧ V.cell? ⟨w.heap.size + 1, 3, none⟩ = some (.int .i64 sr)) ∧ V.cell? ⟨w.heap.size + 1, 4, none⟩ = some (.slice bM M.length dM) ∧ V.cell? ⟨w.heap.size + 1, 5, none⟩ = some (.slice bP P.length dP) ∧ V.cell? ⟨w.heap.size + 1, 6, none⟩ = some (.slice bB B.length dB) ∧ V.cell? ⟨w.heap.size + 1, 7, none⟩ = some (.bool el))) := hid0 (fun V hV => ⟨row8p ((hV.block _ (by omega)).trans hA0), row8p ((hV.block _ (by omega)).trans hM0)⟩)
  have HAl : Hid (∀ V : World, Below w0.heap.size w0 V → BoA V aB B ∧ BoA V bB B ∧ Below w.heap.size w V) := hid0 (fun V hV => by
    have h := hB0.trans (hV.mono (by omega))
    exact ⟨(ha.past h).b, (hb.past h).b, h⟩)
  have HS1 := hid0 (sameMachine sl N O aN aO bN bO cN cO dN dO w0 hs.n hs.nr ho hs.or (ha.past hB0).n.rwa (ha.past hB0).o.rwa (hb.past hB0).n.rwa (hb.past hB0).o.rwa)
  have HS2 : Hid (∀ V : World, Below w0.heap.size w0 V → Calls Tryd.prog 36 #[.agg #[.int .i64 sr, .slice aM M.length cM, .slice aP P.length cP], .agg #[.int .i64 sr, .slice bM M.length dM, .slice bP P.length dP]] V fun e w' => e = .returned (.bool true) ∧ Below V.heap.size V w') := hid0 (fun V hV => by
    have h := hB0.trans (hV.mono (by omega))
    exact sameMachine sr M P aM aP bM bP cM cP dM dP V hs.m hs.mr hp hs.pr (ha.past h).m.rwa (ha.past h).p'.rwa (hb.past h).m.rwa (hb.past h).p'.rwa)
  have hB : B.length ≤ 1000000000 := hs.b
  have hself : (el == el) = true := by simp
  obtain ⟨⟨⟨x0, x1, x2, x3⟩, x4, x5, x6, x7⟩, ⟨y0, y1, y2, y3⟩, y4, y5, y6, y7⟩ := HC.out w0 (Below.refl _ _)
  clear hB0 hA0 hM0 ha hb hs ho hp
  go_enter Tryd.func15, Tryd.ntmps15
  go_upto_region 2 with (go_at_call 36; refine HS1.out.mono ?_; rintro e w1 ⟨rfl, hb⟩; have HB1 := hid0 hb; clear hb x0 x1 x2 x3 x4 x5 x6 x7 y0 y1 y2 y3 y4 y5 y6 y7)
  obtain ⟨⟨⟨x0, x1, x2, x3⟩, x4, x5, x6, x7⟩, ⟨y0, y1, y2, y3⟩, y4, y5, y6, y7⟩ := HC.out w1 HB1.out
  go_upto_region 3 with (go_at_call 36; refine (HS2.out w1 HB1.out).mono ?_; rintro e w2 ⟨rfl, hb⟩; have HB2 : Hid (Below w0.heap.size w0 w2) := hid0 (HB1.out.trans (hb.mono HB1.out.size)); clear hb x0 x1 x2 x3 x4 x5 x6 x7 y0 y1 y2 y3 y4 y5 y6 y7)
  obtain ⟨⟨⟨x0, x1, x2, x3⟩, x4, x5, x6, x7⟩, ⟨y0, y1, y2, y3⟩, y4, y5, y6, y7⟩ := HC.out w2 HB2.out
  go_wp2
  go_loopw [7] (fun i wr => ∃ k : Nat, k ≤ B.length ∧ i = .int .i64 (k : Int) ∧ ∃ n, wr = w2.drewN n) (fun i _ => B.length - (intOf i).toNat)
  case atStart => exact ⟨0, Nat.zero_le _, rfl, 0, rfl⟩
  case round =>
    obtain ⟨k, hk, rfl, nd, rfl⟩ := hrel
    by_cases hlt : k < B.length
    · obtain ⟨b1, o1, rfl, _, d1⟩ := (HAl.out w2 HB2.out).1.at' k hlt
      obtain ⟨b2, o2, rfl, _, d2⟩ := (HAl.out w2 HB2.out).2.1.at' k hlt
      have hbs : (B[k] == B[k]) = true := by simp
      generalize B[k] = z at *
      have hkI : (k : Int) < (B.length : Int) := by omega
      have hkI0 : (0 : Int) ≤ (k : Int) := by omega
      go_wp2
      go_quiet ((fail))
      go_wp2
      go_roundw
      case rel => exact ⟨k + 1, by omega, by go_num, _, rfl⟩
      case measure => simp [intOf]; omega
    · have hkI : ¬ (k : Int) < (B.length : Int) := by omega
      go_wp2
      go_ret
      exact ⟨rfl, below_drew' (HAl.out w2 HB2.out).2.2 nd⟩
end Go.Proofs.YtilnanefkbdbkaaDoor
namespace Go.Proofs.YtilnanefkbdbkaaDoor
open Go.RowKit Go.Shelf
/-- Lists that Rows made. -/
def RowsK (w : World) (lo g c : Nat) (L : List (List Int)) : Prop := ∃ gm ps, Pile w lo (.slice (some ⟨g, 0, none⟩) L.length c) ps ∧ ps.map (·.2) = L ∧ L.length + 1 ≤ c ∧ w.cell? ⟨g, L.length, none⟩ = some (.slice (some ⟨gm, 0, none⟩) 1 1) ∧ w.cell? ⟨gm, 0, none⟩ = some (.int .i64 (-77)) ∧ lo ≤ gm
section
variable {w w' : World} {lo g c : Nat} {L : List (List Int)}
theorem RowsK.blk (h : RowsK w lo g c L) : lo ≤ g ∧ g < w.heap.size := by
  obtain ⟨gm, ps, h1, _, _, _, _, _⟩ := h
  exact World.ownsRow.lt h1.outer g rfl
theorem RowsK.keep (h : RowsK w lo g c L) (hb : ∀ k, lo ≤ k → k < w.heap.size → w'.heap[k]? = w.heap[k]?) : RowsK w' lo g c L := by
  have hg := h.blk
  obtain ⟨gm, ps, h1, h2, h3, h4, h5, h6⟩ := h
  exact ⟨gm, ps, h1.kept hb, h2, h3, (World.cell?_of_block (w := w) (hb g hg.1 hg.2)).trans h4, (World.cell?_of_block (w := w) (hb gm h6 (World.block_lt_of_cell? _ _ h5))).trans h5, h6⟩
theorem RowsK.past (h : RowsK w lo g c L) (hb : Below w.heap.size w w') : RowsK w' lo g c L := h.keep (fun k _ hk => hb.block k hk)
theorem RowsK.lower (h : RowsK w lo g c L) {b : Nat} (hb : b ≤ lo) : RowsK w b g c L := by
  obtain ⟨gm, ps, h1, h2, h3, h4, h5, h6⟩ := h
  exact ⟨gm, ps, ⟨owns_lower h1.outer hb, fun x hx => by obtain ⟨g, c, e, hl⟩ := h1.row x hx; exact ⟨g, c, e, owns_lower hl hb⟩, h1.apart, h1.away⟩, h2, h3, h4, h5, by omega⟩
theorem RowsK.row (h : RowsK w lo g c L) {k : Nat} (hk : k < L.length) : ∃ g1 c1, w.cell? ⟨g, k, none⟩ = some (.slice (some ⟨g1, 0, none⟩) (L[k]).length c1) ∧ LW w lo g1 c1 L[k] := by
  obtain ⟨gm, ps, h1, rfl, h3, h4, h5, h6⟩ := h
  have hk' : k < ps.length := by simpa using hk
  obtain ⟨a, c', e, _, hc⟩ := h1.cells
  obtain ⟨b, eb, _, _, hcell⟩ := hc k hk'
  simp only [Value.slice.injEq] at e
  obtain ⟨rfl, _⟩ := e
  cases eb
  obtain ⟨g1, c1, e1, hl⟩ := h1.row _ (List.getElem_mem hk')
  refine ⟨g1, c1, ?_, ?_⟩
  · rw [hcell, e1]; simp
  · simpa using hl
theorem RowsK.rwc (h : RowsK w lo g c L) : RwC w (some ⟨g, 0, none⟩) L := ⟨fun k hk => by
  obtain ⟨g1, c1, h1, h2⟩ := h.row hk
  exact ⟨g, 0, rfl, h.blk.2, _, c1, by rw [Nat.zero_add]; exact h1, h2.ia, by have := h2.cap; omega⟩⟩
theorem rowsK_of {e : Ending} (h : RowsR w L e w') : ∃ g c, e = .returned (.slice (some ⟨g, 0, none⟩) L.length c) ∧ RowsK w' w.heap.size g c L ∧ Below w.heap.size w w' := by
  obtain ⟨g, c, h0, gm, ps, h1, h2, h3, h4, h5, h6, h7⟩ := h
  exact ⟨g, c, h0, ⟨gm, ps, h1, h2, h3, h4, h5, h7⟩, h6⟩
theorem rowsLeftK (hl : L.length ≤ 1000000000) (hr : ∀ r ∈ L, r.length ≤ 1000000000) (h : RowsK w lo g c L) :
    Calls Tryd.prog 35 #[.slice (some ⟨g, 0, none⟩) L.length c] w fun r w' => r = .returned (.bool true) ∧ ∃ n, w' = w.drewN n := by
  obtain ⟨gm, ps, h1, rfl, h3, h4, h5, h6⟩ := h
  rw [List.length_map] at h1 h3 h4 hl ⊢
  exact rowsLeft_any ps lo g c gm w hl (fun x hx => hr _ (List.mem_map_of_mem hx)) h1 h3 h4 h5
end
/-- Bools that Pairing made. -/
def BoK (w : World) (lo g c : Nat) (B : List Bool) : Prop := w.ownsRow lo 4 1 (.slice (some ⟨g, 0, none⟩) (B.length + 2) c) (B.length + 2) (B.map Value.bool ++ [.bool true, .bool false])
section
variable {w w' : World} {lo g c : Nat} {B : List Bool}
theorem BoK.past (h : BoK w lo g c B) (hb : Below w.heap.size w w') : BoK w' lo g c B := row_later h hb
theorem BoK.lower (h : BoK w lo g c B) {b : Nat} (hb : b ≤ lo) : BoK w b g c B := owns_lower h hb
theorem BoK.at (h : BoK w lo g c B) {k : Nat} (hk : k < B.length) : w.cell? ⟨g, k, none⟩ = some (.bool B[k]) := by
  rw [World.ownsRow.cellAt h k (by omega), List.getElem?_append_left (by simpa using hk)]
  simp [hk]
theorem BoK.boa (h : BoK w lo g c B) : BoA w (some ⟨g, 0, none⟩) B := ⟨fun k hk => ⟨g, 0, rfl, (World.ownsRow.lt h g rfl).2, by rw [Nat.zero_add]; exact h.at hk⟩⟩
theorem BoK.cap (h : BoK w lo g c B) : B.length + 2 ≤ c := by
  rcases h.2 with ⟨e, _⟩ | ⟨g', cap, cur, e, _, _, q3, _⟩
  · cases e
  · cases e; exact q3
theorem BoK.marks (h : BoK w lo g c B) : w.cell? ⟨g, B.length, none⟩ = some (.bool true) ∧ w.cell? ⟨g, B.length + 1, none⟩ = some (.bool false) := by
  constructor
  · rw [World.ownsRow.cellAt h B.length (by omega), List.getElem?_append_right (by simp)]; simp
  · rw [World.ownsRow.cellAt h (B.length + 1) (by omega), List.getElem?_append_right (by simp)]; simp
end
/-- Numbers, whatever they are; D says in which blocks they lie. -/
structure XI (w : World) (D : Nat → Prop) (a : Option Addr) (n : Nat) : Prop where
  at' : ∀ j, j < n → ∃ b o, a = some ⟨b, o, none⟩ ∧ D b ∧ b < w.heap.size ∧ (∃ z, w.cell? ⟨b, o + j, none⟩ = some (.int .i64 z)) ∧ w.frozen? ⟨b, o + j, none⟩ = false
structure XB (w : World) (D : Nat → Prop) (a : Option Addr) (n : Nat) : Prop where
  at' : ∀ j, j < n → ∃ b o, a = some ⟨b, o, none⟩ ∧ D b ∧ b < w.heap.size ∧ (∃ z, w.cell? ⟨b, o + j, none⟩ = some (.bool z)) ∧ w.frozen? ⟨b, o + j, none⟩ = false
structure XR (w : World) (D : Nat → Prop) (a : Option Addr) (n : Nat) : Prop where
  at' : ∀ k, k < n → ∃ b o, a = some ⟨b, o, none⟩ ∧ b < w.heap.size ∧ ∃ a1 n1 c1, w.cell? ⟨b, o + k, none⟩ = some (.slice a1 n1 c1) ∧ n1 ≤ 1000000000 ∧ n1 ≤ c1 ∧ XI w D a1 n1
theorem frozen_set (w : World) (p q : Addr) (v : Value) : (w.setCell p v).frozen? q = w.frozen? q := World.frozen?_setCell w p q v
section
variable {w w' : World} {D : Nat → Prop} {a : Option Addr} {n : Nat}
theorem frozen_past (hb : Below w.heap.size w w') {b o : Nat} (h : b < w.heap.size) : w'.frozen? ⟨b, o, none⟩ = w.frozen? ⟨b, o, none⟩ := by
  unfold World.frozen?
  rw [show w'.heap[(⟨b, o, none⟩ : Addr).block]? = w.heap[(⟨b, o, none⟩ : Addr).block]? from hb.block b h]
theorem XI.past (h : XI w D a n) (hb : Below w.heap.size w w') : XI w' D a n := ⟨fun j hj => by
  obtain ⟨b, o, e, hd, h1, ⟨z, h2⟩, h3⟩ := h.at' j hj
  exact ⟨b, o, e, hd, Nat.lt_of_lt_of_le h1 hb.size, ⟨z, (hb.cell (p := ⟨b, o + j, none⟩) h1).trans h2⟩, by rw [frozen_past hb h1]; exact h3⟩⟩
theorem XB.past (h : XB w D a n) (hb : Below w.heap.size w w') : XB w' D a n := ⟨fun j hj => by
  obtain ⟨b, o, e, hd, h1, ⟨z, h2⟩, h3⟩ := h.at' j hj
  exact ⟨b, o, e, hd, Nat.lt_of_lt_of_le h1 hb.size, ⟨z, (hb.cell (p := ⟨b, o + j, none⟩) h1).trans h2⟩, by rw [frozen_past hb h1]; exact h3⟩⟩
theorem XR.past (h : XR w D a n) (hb : Below w.heap.size w w') : XR w' D a n := ⟨fun k hk => by
  obtain ⟨b, o, e, h1, a1, n1, c1, h2, h3, h4, h5⟩ := h.at' k hk
  exact ⟨b, o, e, Nat.lt_of_lt_of_le h1 hb.size, a1, n1, c1, (hb.cell (p := ⟨b, o + k, none⟩) h1).trans h2, h3, h4, h5.past hb⟩⟩
theorem set_size (w : World) (p : Addr) (v : Value) : (w.setCell p v).heap.size = w.heap.size := by simp [World.setCell]
theorem XI.setI (h : XI w D a n) (p : Addr) (z : Int) : XI (w.setCell p (.int .i64 z)) D a n := ⟨fun j hj => by
  obtain ⟨b, o, e, hd, h1, h2, h3⟩ := h.at' j hj
  exact ⟨b, o, e, hd, by rw [set_size]; exact h1, someInt_setCell h2 _ z, by rw [frozen_set]; exact h3⟩⟩
theorem XI.setB (h : XI w D a n) {p : Addr} {z0 : Bool} (hp : w.cell? p = some (.bool z0)) (z : Bool) : XI (w.setCell p (.bool z)) D a n := ⟨fun j hj => by
  obtain ⟨b, o, e, hd, h1, ⟨y, h2⟩, h3⟩ := h.at' j hj
  have hne : p ≠ ⟨b, o + j, none⟩ := fun e => by rw [← e, hp] at h2; cases h2
  exact ⟨b, o, e, hd, by rw [set_size]; exact h1, ⟨y, (World.cell?_setCell_other _ _ _ _ hne).trans h2⟩, by rw [frozen_set]; exact h3⟩⟩
theorem XB.setI (h : XB w D a n) {p : Addr} {z0 : Int} (hp : w.cell? p = some (.int .i64 z0)) (z : Int) : XB (w.setCell p (.int .i64 z)) D a n := ⟨fun j hj => by
  obtain ⟨b, o, e, hd, h1, ⟨y, h2⟩, h3⟩ := h.at' j hj
  have hne : p ≠ ⟨b, o + j, none⟩ := fun e => by rw [← e, hp] at h2; cases h2
  exact ⟨b, o, e, hd, by rw [set_size]; exact h1, ⟨y, (World.cell?_setCell_other _ _ _ _ hne).trans h2⟩, by rw [frozen_set]; exact h3⟩⟩
theorem XB.setB (h : XB w D a n) {p : Addr} {z0 : Bool} (hp : w.cell? p = some (.bool z0)) (z : Bool) : XB (w.setCell p (.bool z)) D a n := ⟨fun j hj => by
  obtain ⟨b, o, e, hd, h1, ⟨y, h2⟩, h3⟩ := h.at' j hj
  refine ⟨b, o, e, hd, by rw [set_size]; exact h1, ?_, by rw [frozen_set]; exact h3⟩
  by_cases hq : p = ⟨b, o + j, none⟩
  · subst hq
    exact ⟨z, World.cell?_setCell_same _ _ _ hp⟩
  · exact ⟨y, (World.cell?_setCell_other _ _ _ _ hq).trans h2⟩⟩
theorem XR.setI (h : XR w D a n) {p : Addr} {z0 : Int} (hp : w.cell? p = some (.int .i64 z0)) (z : Int) : XR (w.setCell p (.int .i64 z)) D a n := ⟨fun k hk => by
  obtain ⟨b, o, e, h1, a1, n1, c1, h2, h3, h4, h5⟩ := h.at' k hk
  have hne : p ≠ ⟨b, o + k, none⟩ := fun e => by rw [← e, hp] at h2; cases h2
  exact ⟨b, o, e, by rw [set_size]; exact h1, a1, n1, c1, (World.cell?_setCell_other _ _ _ _ hne).trans h2, h3, h4, h5.setI p z⟩⟩
theorem XR.setB (h : XR w D a n) {p : Addr} {z0 : Bool} (hp : w.cell? p = some (.bool z0)) (z : Bool) : XR (w.setCell p (.bool z)) D a n := ⟨fun k hk => by
  obtain ⟨b, o, e, h1, a1, n1, c1, h2, h3, h4, h5⟩ := h.at' k hk
  have hne : p ≠ ⟨b, o + k, none⟩ := fun e => by rw [← e, hp] at h2; cases h2
  exact ⟨b, o, e, by rw [set_size]; exact h1, a1, n1, c1, (World.cell?_setCell_other _ _ _ _ hne).trans h2, h3, h4, h5.setB hp z⟩⟩
theorem XR.less (h : XR w D a n) {m : Nat} (hm : m ≤ n) : XR w D a m := ⟨fun k hk => h.at' k (by omega)⟩
theorem chooseL {α : Type} {n : Nat} (d : α) {P : Nat → α → Prop} (h : ∀ j, j < n → ∃ z, P j z) : ∃ l : List α, l.length = n ∧ ∀ j (hj : j < l.length), P j l[j] := by
  have h2 : ∀ j, ∃ z, j < n → P j z := fun j => by
    by_cases hj : j < n
    · obtain ⟨z, hz⟩ := h j hj; exact ⟨z, fun _ => hz⟩
    · exact ⟨d, fun q => absurd q hj⟩
  obtain ⟨f, hf⟩ := Classical.axiomOfChoice h2
  refine ⟨(List.range n).map f, by simp, fun j hj => ?_⟩
  have : j < n := by simpa using hj
  simpa using hf j this
theorem XI.read (h : XI w D a n) : ∃ L : List Int, L.length = n ∧ IA w a L := by
  obtain ⟨L, h1, h2⟩ := chooseL (n := n) (0 : Int) (P := fun j z => ∃ b o, a = some ⟨b, o, none⟩ ∧ b < w.heap.size ∧ w.cell? ⟨b, o + j, none⟩ = some (.int .i64 z)) (fun j hj => by
    obtain ⟨b, o, e, _, h3, ⟨z, h4⟩, _⟩ := h.at' j hj
    exact ⟨z, b, o, e, h3, h4⟩)
  exact ⟨L, h1, ⟨fun j hj => h2 j hj⟩⟩
theorem XB.read (h : XB w D a n) : ∃ L : List Bool, L.length = n ∧ BoA w a L := by
  obtain ⟨L, h1, h2⟩ := chooseL (n := n) false (P := fun j z => ∃ b o, a = some ⟨b, o, none⟩ ∧ b < w.heap.size ∧ w.cell? ⟨b, o + j, none⟩ = some (.bool z)) (fun j hj => by
    obtain ⟨b, o, e, _, h3, ⟨z, h4⟩, _⟩ := h.at' j hj
    exact ⟨z, b, o, e, h3, h4⟩)
  exact ⟨L, h1, ⟨fun j hj => h2 j hj⟩⟩
theorem XR.read (h : XR w D a n) : ∃ L : List (List Int), L.length = n ∧ RwC w a L ∧ ∀ r ∈ L, r.length ≤ 1000000000 := by
  obtain ⟨L, h1, h2⟩ := chooseL (n := n) ([] : List Int) (P := fun k r => r.length ≤ 1000000000 ∧ ∃ b o, a = some ⟨b, o, none⟩ ∧ b < w.heap.size ∧ ∃ a1 c1, w.cell? ⟨b, o + k, none⟩ = some (.slice a1 r.length c1) ∧ IA w a1 r ∧ r.length ≤ c1) (fun k hk => by
    obtain ⟨b, o, e, h3, a1, n1, c1, h4, h5, h6, h7⟩ := h.at' k hk
    obtain ⟨r, e1, h8⟩ := h7.read
    exact ⟨r, by omega, b, o, e, h3, a1, c1, by rw [e1]; exact h4, h8, by omega⟩)
  exact ⟨L, h1, ⟨fun j hj => (h2 j hj).2⟩, fun r hr => by
    obtain ⟨k, hk, rfl⟩ := List.getElem_of_mem hr
    exact (h2 k hk).1⟩
end
theorem LW.xi {w : World} {lo g c : Nat} {L : List Int} (h : LW w lo g c L) {D : Nat → Prop} (hd : D g) : XI w D (some ⟨g, 0, none⟩) L.length := ⟨fun j hj => by
  obtain ⟨b, o, e, h1, h2⟩ := h.ia.at' j hj
  cases e
  exact ⟨g, 0, rfl, hd, h1, ⟨_, h2⟩, h.frozen _⟩⟩
theorem RowsK.xr {w : World} {lo hi g c : Nat} {L : List (List Int)} (h : RowsK w lo g c L) (hh : w.heap.size ≤ hi) (hr : ∀ r ∈ L, r.length ≤ 1000000000) : XR w (fun b => lo ≤ b ∧ b < hi) (some ⟨g, 0, none⟩) L.length := ⟨fun k hk => by
  obtain ⟨g1, c1, h1, h2⟩ := h.row hk
  exact ⟨g, 0, rfl, h.blk.2, _, _, c1, by rw [Nat.zero_add]; exact h1, hr _ (List.getElem_mem hk), by have := h2.cap; omega, h2.xi ⟨h2.lt.1, by have := h2.lt.2; omega⟩⟩⟩
theorem BoK.xb {w : World} {lo hi g c : Nat} {B : List Bool} (h : BoK w lo g c B) (hh : w.heap.size ≤ hi) : XB w (fun b => lo ≤ b ∧ b < hi) (some ⟨g, 0, none⟩) B.length := ⟨fun j hj => ⟨g, 0, rfl, by have := World.ownsRow.lt h g rfl; omega, (World.ownsRow.lt h g rfl).2, ⟨_, by rw [Nat.zero_add]; exact h.at hj⟩, World.ownsRow.frozenAt h _⟩⟩
/-- A pairing whose contents are whatever they are. -/
structure PX (w : World) (D : Nat → Prop) (q : PrL) (nN nO nM nP nB : Nat) : Prop where
  n : XR w D q.aN nN
  o : XR w D q.aO nO
  m : XR w D q.aM nM
  p' : XR w D q.aP nP
  b : XB w D q.aB nB
section
variable {w w' : World} {D : Nat → Prop} {q : PrL} {nN nO nM nP nB : Nat}
theorem PX.past (h : PX w D q nN nO nM nP nB) (hb : Below w.heap.size w w') : PX w' D q nN nO nM nP nB := ⟨h.n.past hb, h.o.past hb, h.m.past hb, h.p'.past hb, h.b.past hb⟩
theorem PX.setI (h : PX w D q nN nO nM nP nB) {p : Addr} {z0 : Int} (hp : w.cell? p = some (.int .i64 z0)) (z : Int) : PX (w.setCell p (.int .i64 z)) D q nN nO nM nP nB := ⟨h.n.setI hp z, h.o.setI hp z, h.m.setI hp z, h.p'.setI hp z, h.b.setI hp z⟩
theorem PX.setB (h : PX w D q nN nO nM nP nB) {p : Addr} {z0 : Bool} (hp : w.cell? p = some (.bool z0)) (z : Bool) : PX (w.setCell p (.bool z)) D q nN nO nM nP nB := ⟨h.n.setB hp z, h.o.setB hp z, h.m.setB hp z, h.p'.setB hp z, h.b.setB hp z⟩
theorem PX.read (h : PX w D q nN nO nM nP nB) (sl sr : Int) (el : Bool) (hn : nN ≤ 1000000000) (hm : nM ≤ 1000000000) (hB : nB ≤ 1000000000) : ∃ N O M P B, N.length = nN ∧ O.length = nO ∧ M.length = nM ∧ P.length = nP ∧ B.length = nB ∧ PrA w ⟨sl, N, O, sr, M, P, B, el⟩ q ∧ PrS ⟨sl, N, O, sr, M, P, B, el⟩ := by
  obtain ⟨N, e1, h1, s1⟩ := h.n.read
  obtain ⟨O, e2, h2, s2⟩ := h.o.read
  obtain ⟨M, e3, h3, s3⟩ := h.m.read
  obtain ⟨P, e4, h4, s4⟩ := h.p'.read
  obtain ⟨B, e5, h5⟩ := h.b.read
  exact ⟨N, O, M, P, B, e1, e2, e3, e4, e5, ⟨h1, h2, h3, h4, h5⟩, ⟨by show N.length ≤ _; omega, by show M.length ≤ _; omega, by show B.length ≤ _; omega, s1, s2, s3, s4⟩⟩
end
/-- What is written over: blocks of a kind alone. -/
structure Kpd (w w' : World) (D : Nat → Prop) : Prop where
  os : w'.os = w.os
  tape : w'.tape = w.tape
  output : w'.output = w.output
  size : w.heap.size ≤ w'.heap.size
  oth : ∀ k, k < w.heap.size → ¬ D k → w'.heap[k]? = w.heap[k]?
theorem Kpd.refl (w : World) (D : Nat → Prop) : Kpd w w D := ⟨rfl, rfl, rfl, Nat.le_refl _, fun _ _ _ => rfl⟩
theorem Kpd.trans {a b c : World} {D : Nat → Prop} (h : Kpd a b D) (k : Kpd b c D) : Kpd a c D := ⟨k.os.trans h.os, k.tape.trans h.tape, k.output.trans h.output, Nat.le_trans h.size k.size, fun i hi hd => (k.oth i (Nat.lt_of_lt_of_le hi h.size) hd).trans (h.oth i hi hd)⟩
theorem Kpd.of {w w' : World} (h : Below w.heap.size w w') (D : Nat → Prop) : Kpd w w' D := ⟨h.os, h.tape, h.output, h.size, fun k hk _ => h.block k hk⟩
theorem Kpd.set (w : World) {D : Nat → Prop} {b : Nat} (hb : D b) (o : Nat) (v : Value) : Kpd w (w.setCell ⟨b, o, none⟩ v) D := ⟨rfl, rfl, rfl, by simp [World.setCell], fun k _ hk => Below.heap_setCell w _ _ k (fun e => hk (by subst e; exact hb))⟩
theorem Kpd.cell {w w' : World} {D : Nat → Prop} (h : Kpd w w' D) {b o : Nat} {u : Value} (hb : ¬ D b) (hc : w.cell? ⟨b, o, none⟩ = some u) : w'.cell? ⟨b, o, none⟩ = some u := (World.cell?_of_block (w := w) (h.oth b (World.block_lt_of_cell? _ _ hc) hb)).trans hc
end Go.Proofs.YtilnanefkbdbkaaDoor
