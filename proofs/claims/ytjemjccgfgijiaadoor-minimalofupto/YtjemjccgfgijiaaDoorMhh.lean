/-
  MkGW, MkHW.
-/
import Derived.Test.YtjemjccgfgijiaaDoorMhg
import Derived.Deep.RegionHeld3
namespace Go.Proofs.YtjemjccgfgijiaaDoor
open Go.RowKit Go.Shelf
/-- A case of layer 13, in a box. -/
structure CBox (w : World) (X : Nat) (sa sb sy : Int) (vN vO vM vP vW : Value) : Prop where
  r : w.heap[X]? = some (.cells #[.int .i64 sa, vN, vO, .int .i64 sb, vM, vP, .int .i64 sy, vW] 27 (0, 0))
theorem CBox.c {w : World} {X : Nat} {sa sb sy : Int} {vN vO vM vP vW : Value} (h : CBox w X sa sb sy vN vO vM vP vW) : w.cell? ⟨X, 0, none⟩ = some (.int .i64 sa) ∧ w.cell? ⟨X, 1, none⟩ = some vN ∧ w.cell? ⟨X, 2, none⟩ = some vO ∧ w.cell? ⟨X, 6, none⟩ = some (.int .i64 sy) ∧ w.cell? ⟨X, 7, none⟩ = some vW := by
  refine ⟨?_, ?_, ?_, ?_, ?_⟩ <;> (rw [cell_of_row _ _ _ _ _ _ h.r]; rfl)
theorem CBox.past {w w' : World} {X : Nat} {sa sb sy : Int} {vN vO vM vP vW : Value} (h : CBox w X sa sb sy vN vO vM vP vW) (hb : Below w.heap.size w w') : CBox w' X sa sb sy vN vO vM vP vW := ⟨(hb.block _ (Array.getElem?_eq_some_iff.1 h.r).1).trans h.r⟩
theorem below_refl0 (w : World) : Below w.heap.size w w := Below.refl _ _
theorem SmlO.big {N O : List (List Int)} (h : SmlO N O) : N.length ≤ 17592186043904 ∧ (∀ r ∈ N, r.length ≤ 17592186043904) ∧ ∀ r ∈ O, r.length ≤ 17592186043904 := ⟨by have := h.n; omega, fun r hr => by have := h.nr r hr; omega, fun r hr => by have := h.or r hr; omega⟩
theorem outF_le {O : List (List Int)} {s : Nat} (h : ∀ r ∈ O, r.length ≤ 2200000) : (outF O s).length ≤ 2200000 := by
  unfold outF
  rw [List.getD_eq_getElem?_getD]
  by_cases hs : s < O.length
  · rw [List.getElem?_eq_getElem hs]
    exact h _ (List.getElem_mem hs)
  · rw [List.getElem?_eq_none (by omega)]
    exact Nat.zero_le _
set_option maxRecDepth 10000 in
set_option maxHeartbeats 1600000 in
theorem minimalSays_any (A : Nat → Addr) (sa sb sy : Int) (N O : List (List Int)) (W : List Int) (aN aO aW : Option Addr) (vM vP : Value) (cN cO cW : Nat) (w : World) (hs : SmlO N O) (hW : W.length ≤ 2200000) (rN : RwA w aN N) (rO : RwA w aO O) (rW : IA w aW W) (he : Sents w A) :
    Calls Tryd.prog 3 #[.agg #[.int .i64 sa, .slice aN N.length cN, .slice aO O.length cO, .int .i64 sb, vM, vP, .int .i64 sy, .slice aW W.length cW]] w fun e w' => e = .returned (.bool true) ∧ Below w.heap.size w w' := by
  obtain ⟨w0, hw0⟩ : ∃ w0, w0 = w.alloc (.cells #[.int .i64 sa, .slice aN N.length cN, .slice aO O.length cO, .int .i64 sb, vM, vP, .int .i64 sy, .slice aW W.length cW] 27) := ⟨_, rfl⟩
  have hB0 : Below w.heap.size w w0 := by rw [hw0]; exact below_alloc _ _
  have hX0 : CBox w0 w.heap.size sa sb sy (.slice aN N.length cN) (.slice aO O.length cO) vM vP (.slice aW W.length cW) := ⟨by rw [hw0]; exact heap_alloc_new w _⟩
  have HAl : Hid (∀ V : World, Below w0.heap.size w0 V → RwA V aN N ∧ RwA V aO O ∧ IA V aW W ∧ Sents V A ∧ Below w.heap.size w V ∧ CBox V w.heap.size sa sb sy (.slice aN N.length cN) (.slice aO O.length cO) vM vP (.slice aW W.length cW)) := hid0 (fun V hV => by
    have h := Below.later hB0 hV
    exact ⟨rN.past h, rO.past h, rW.past h, he.below h, h, hX0.past hV⟩)
  obtain ⟨x0, x1, x2, x6, x7⟩ := hX0.c
  obtain ⟨big1, big2, big3⟩ := hs.big
  have HKn := hid0 (known_any (A 0) w0 (he.below hB0).e1)
  have HMb : Hid (∀ V : World, Below w0.heap.size w0 V → Calls Tryd.prog 9 #[.agg #[.int .i64 sa, .slice aN N.length cN, .slice aO O.length cO], .int .i64 sy] V fun e w' => e = .returned (.bool (mayF sa N O sy)) ∧ Below V.heap.size V w') := hid0 (fun V hV => refMayBe_any sa sy N O aN aO cN cO V big1 big2 big3 (HAl.out V hV).1 (HAl.out V hV).2.1)
  have hfold := hw0.symm
  clear hw0 hB0 hX0 rN rO rW he
  cases hmay : mayF sa N O sy with
  | false =>
    rw [hmay] at HMb
    have HOf : Hid (∀ V : World, Below w0.heap.size w0 V → Calls Tryd.prog 10 #[.agg #[.int .i64 sa, .slice aN N.length cN, .slice aO O.length cO], .int .i64 sy] V fun e w' => e = .returned (.tuple #[.agg #[.int .i64 0, .slice none 0 0, .slice none 0 0], .iface 135 (.pointer (some (A 0)))]) ∧ Below V.heap.size V w') := hid0 (fun V hV => of_bad (A 0) sa sy N O aN aO cN cO V hmay hs (HAl.out V hV).1 (HAl.out V hV).2.1 (HAl.out V hV).2.2.2.1.e1)
    have HNm : Hid (∀ V : World, Below w0.heap.size w0 V → Calls Tryd.prog 11 #[.iface 135 (.pointer (some (A 0)))] V fun e w' => e = .returned (.int .i64 1) ∧ w' = V) := hid0 (fun V hV => kitNum_at V A (HAl.out V hV).2.2.2.1 0 (by omega))
    clear hmay hs big1 big2 big3
    go_enter Tryd.func3, Tryd.ntmps3
    go_wp2_with (first
      | (go_at_call 8; go_loud ((refine HKn.out.mono ?_; rintro e w1 ⟨rfl, hb1⟩; have HB1 := hid0 hb1; obtain ⟨y0, y1, y2, y6, y7⟩ := (HAl.out w1 hb1).2.2.2.2.2.c; clear hb1 x0 x1 x2 x6 x7)))
      | (go_at_call 9; go_loud ((refine (HMb.out w1 HB1.out).mono ?_; rintro e w2 ⟨rfl, hb2⟩; have HB2 := hid0 (Below.later HB1.out hb2); obtain ⟨z0, z1, z2, z6, z7⟩ := (HAl.out w2 HB2.out).2.2.2.2.2.c; clear hb2 y0 y1 y2 y6 y7)))
      | (go_at_call 10; go_loud ((refine (HOf.out w2 HB2.out).mono ?_; rintro e w3 ⟨rfl, hb3⟩; have HB3 := hid0 (Below.later HB2.out hb3); have HB4 := hid0 (Below.later HB3.out (below_alloc w3 (.cells #[.int .i64 0, .slice none 0 0, .slice none 0 0] 24))); clear hb3)))
      | (go_at_call 11; go_loud ((refine (HNm.out _ HB4.out).mono ?_; rintro e w5 ⟨rfl, hw5⟩; subst hw5))))
    go_ret
    exact ⟨rfl, (HAl.out _ HB4.out).2.2.2.2.1⟩
  | true =>
    rw [hmay] at HMb
    obtain ⟨m, hm, hmy⟩ := mayF_may hmay
    subst hm
    obtain ⟨s0, rfl⟩ : ∃ s0 : Nat, sa = (s0 : Int) := ⟨sa.toNat, by have := hmy.start; omega⟩
    have HOf : Hid (∀ V : World, Below w0.heap.size w0 V → Calls Tryd.prog 10 #[.agg #[.int .i64 (s0 : Int), .slice aN N.length cN, .slice aO O.length cO], .int .i64 (m : Int)] V fun e w' => ∃ vN vO, e = .returned (.tuple #[.agg #[.int .i64 0, vN, vO], .nilIface]) ∧ OfR V w' m (s0 : Int) N O vN vO ∧ Below V.heap.size V w') := hid0 (fun V hV => of_sml s0 m N O aN aO cN cO V hmay hs (HAl.out V hV).1 (HAl.out V hV).2.1)
    have HMy := hid0 (And.intro hmay (And.intro hs hmy))
    have HmI := hid0 (hs.facts hmay)
    clear hmay hs big1 big2 big3 hmy
    go_enter Tryd.func3, Tryd.ntmps3
    go_upto_region 6 with (first
      | (go_at_call 8; go_loud ((refine HKn.out.mono ?_; rintro e w1 ⟨rfl, hb1⟩; have HB1 := hid0 hb1; obtain ⟨y0, y1, y2, y6, y7⟩ := (HAl.out w1 hb1).2.2.2.2.2.c; clear hb1 x0 x1 x2 x6 x7)))
      | (go_at_call 9; go_loud ((refine (HMb.out w1 HB1.out).mono ?_; rintro e w2 ⟨rfl, hb2⟩; have HB2 := hid0 (Below.later HB1.out hb2); obtain ⟨z0, z1, z2, z6, z7⟩ := (HAl.out w2 HB2.out).2.2.2.2.2.c; clear hb2 y0 y1 y2 y6 y7)))
      | (go_at_call 10; go_loud ((refine (HOf.out w2 HB2.out).mono ?_; rintro e w3 ⟨vN, vO, rfl, hof, hb3⟩; have HB3 := hid0 (Below.later HB2.out hb3); obtain ⟨N', O', aA, cA, aB, cB, rfl, rfl, qA, qB, hl⟩ := hof.rows; clear hof; have HQ := hid0 (And.intro qA (And.intro qB hl)); clear qA qB hl hb3 z0 z1 z2 z6 z7))))
    obtain ⟨w4, hw4⟩ : ∃ w4, w4 = w3.alloc (.cells #[.int .i64 0, .slice aA N'.length cA, .slice aB O'.length cB] 24) := ⟨_, rfl⟩
    obtain ⟨qA, qB, hl⟩ := HQ.out
    obtain ⟨hmay, hs, hmy⟩ := HMy.out
    have hB4 : Below w3.heap.size w3 w4 := by rw [hw4]; exact below_alloc _ _
    have hX4 : MBox w4 w3.heap.size 0 (.slice aA N'.length cA) (.slice aB O'.length cB) := by rw [hw4]; exact MBox.new _ _ _ _
    have hB04 : Below w0.heap.size w0 w4 := Below.later HB3.out hB4
    have HC : Hid (∀ V : World, Below w4.heap.size w4 V → (RwA V aA N' ∧ RwA V aB O') ∧ MBox V w3.heap.size 0 (.slice aA N'.length cA) (.slice aB O'.length cB) ∧ Below w0.heap.size w0 V) := hid0 (fun V hV => ⟨⟨(qA.past hB4).past hV, (qB.past hB4).past hV⟩, hX4.past hV, Below.later hB04 hV⟩)
    have hs' : SmlO N' O' := hl.sml hs hmay
    have hol : O'.length ≤ 2200000 := by have := hl.red.may'.out; have := hs'.n; omega
    obtain ⟨big1, big2, big3⟩ := hs'.big
    have HMb2 : Hid (∀ V : World, Below w4.heap.size w4 V → Calls Tryd.prog 9 #[.agg #[.int .i64 0, .slice aA N'.length cA, .slice aB O'.length cB], .int .i64 (m : Int)] V fun e w' => e = .returned (.bool true) ∧ Below V.heap.size V w') := hid0 (fun V hV => by
      have h := refMayBe_any 0 (m : Int) N' O' aA aB cA cB V big1 big2 big3 (HC.out V hV).1.1 (HC.out V hV).1.2
      rw [hl.red.may] at h
      exact h)
    have hlang := hl.lang (pickW m W) (pickW_ok m W)
    rw [Int.toNat_natCast] at hlang
    have hLb : (outF O (runW (nxF N) s0 (pickW m W))).length ≤ 2200000 := outF_le hs.or
    have HT1 : Hid (∀ V : World, Below w4.heap.size w4 V → Calls Tryd.prog 13 #[.agg #[.int .i64 0, .slice aA N'.length cA, .slice aB O'.length cB], .int .i64 (m : Int), .slice aW W.length cW] V fun e w' => ∃ a c, e = .returned (.slice a (outF O (runW (nxF N) s0 (pickW m W))).length c) ∧ Hid (IA w' a (outF O (runW (nxF N) s0 (pickW m W)))) ∧ Hid (Below V.heap.size V w') ∧ Below w4.heap.size w4 w') := hid0 (fun V hV => by
      have h := told_any 0 m 0 N' O' W aA aB aW cA cB cW V hl.red.may' hl.red.pos (by have := HmI.out.2.1; omega) (by have := hs'.n; omega) (by omega) (HC.out V hV).1.1 (HC.out V hV).1.2 (HAl.out V (HC.out V hV).2.2).2.2.1
      rw [hlang] at h
      exact h.mono (fun e w' hh => by
        obtain ⟨v, h1, ⟨a, c, rfl, h2⟩, h3⟩ := hh
        exact ⟨a, c, h1, hid0 h2, hid0 h3, Below.later hV h3⟩))
    have HT2 : Hid (∀ V : World, Below w4.heap.size w4 V → Calls Tryd.prog 13 #[.agg #[.int .i64 (s0 : Int), .slice aN N.length cN, .slice aO O.length cO], .int .i64 (m : Int), .slice aW W.length cW] V fun e w' => ∃ a c, e = .returned (.slice a (outF O (runW (nxF N) s0 (pickW m W))).length c) ∧ Hid (IA w' a (outF O (runW (nxF N) s0 (pickW m W)))) ∧ Hid (Below V.heap.size V w') ∧ Below w4.heap.size w4 w') := hid0 (fun V hV => (told_any s0 m (s0 : Int) N O W aN aO aW cN cO cW V hmy (by have := hmy.start; omega) (by have := HmI.out.2.1; omega) (by have := hs.n; omega) (by omega) (HAl.out V (HC.out V hV).2.2).1 (HAl.out V (HC.out V hV).2.2).2.1 (HAl.out V (HC.out V hV).2.2).2.2.1).mono (fun e w' hh => by
        obtain ⟨v, h1, ⟨a, c, rfl, h2⟩, h3⟩ := hh
        exact ⟨a, c, h1, hid0 h2, hid0 h3, Below.later hV h3⟩))
    have HOf2 : Hid (∀ V : World, Below w4.heap.size w4 V → Calls Tryd.prog 10 #[.agg #[.int .i64 0, .slice aA N'.length cA, .slice aB O'.length cB], .int .i64 (m : Int)] V fun e w' => ∃ aC cC aD cD, e = .returned (.tuple #[.agg #[.int .i64 0, .slice aC N'.length cC, .slice aD O'.length cD], .nilIface]) ∧ (RwA w' aC N' ∧ RwA w' aD O') ∧ Below V.heap.size V w') := hid0 (fun V hV => by
      refine (of_sml 0 m N' O' aA aB cA cB V hl.red.may hs' (HC.out V hV).1.1 (HC.out V hV).1.2).mono ?_
      rintro e w' ⟨vN, vO, rfl, hof, hb⟩
      obtain ⟨N2, O2, aC, cC, aD, cD, rfl, rfl, qC, qD, hl2⟩ := hof.rows
      obtain ⟨e1, e2⟩ := hl.again hl2
      subst e1
      subst e2
      exact ⟨aC, cC, aD, cD, rfl, ⟨qC, qD⟩, hb⟩)
    have HSm : Hid (∀ (V : World) (aC aD : Option Addr) (cC cD : Nat), Below w4.heap.size w4 V → RwA V aC N' → RwA V aD O' → Calls Tryd.prog 14 #[.agg #[.int .i64 0, .slice aC N'.length cC, .slice aD O'.length cD], .agg #[.int .i64 0, .slice aA N'.length cA, .slice aB O'.length cB]] V fun e w' => e = .returned (.bool true) ∧ Below V.heap.size V w') := hid0 (fun V aC aD cC cD hV h1 h2 => sameMachine_any 0 N' O' aC aD aA aB cC cD cA cB V hs' hol h1 h2 (HC.out V hV).1.1 (HC.out V hV).1.2)
    have HIs : Hid (∀ V : World, Below w4.heap.size w4 V → Calls Tryd.prog 15 #[.agg #[.int .i64 0, .slice aA N'.length cA, .slice aB O'.length cB], .int .i64 (m : Int)] V fun e w' => e = .returned (.bool true) ∧ Below V.heap.size V w') := hid0 (fun V hV => by
      have h := is_any (A 0) 0 (m : Int) N' O' aA aB cA cB V hs' (HC.out V hV).1.1 (HC.out V hV).1.2 (HAl.out V (HC.out V hV).2.2).2.2.2.1.e1
      rw [isB_yes hl.red] at h
      exact h)
    have HSI : Hid (∀ (V : World) (a b : Option Addr) (ca cb : Nat), Below w4.heap.size w4 V → IA V a (outF O (runW (nxF N) s0 (pickW m W))) → IA V b (outF O (runW (nxF N) s0 (pickW m W))) → Calls Tryd.prog 12 #[.slice a (outF O (runW (nxF N) s0 (pickW m W))).length ca, .slice b (outF O (runW (nxF N) s0 (pickW m W))).length cb] V fun e w' => e = .returned (.bool true) ∧ Below w4.heap.size w4 w') := hid0 (fun V a b ca cb hV h1 h2 => (sameI _ a b ca cb V (by omega) h1 h2).mono (fun e w' hh => by
      obtain ⟨h3, n, rfl⟩ := hh
      exact ⟨h3, below_drew' hV n⟩))
    have hless : (N'.length : Int) ≤ (N.length : Int) := by have := hl.less; omega
    obtain ⟨m0, m1, m2⟩ := hX4.c
    obtain ⟨c0, c1, c2, c6, c7⟩ := (HAl.out w4 hB04).2.2.2.2.2.c
    have hq4 := hw4.symm
    have HLb := hid0 hLb
    clear hw4 hB4 hX4 hB04 qA qB hl HQ hmay hs hmy hs' hol big1 big2 big3 hlang hLb HMy HOf HMb HKn HmI hfold
    generalize outF O (runW (nxF N) s0 (pickW m W)) = L at *
    go_upto_region 9 with (go_at_call 9; go_loud ((refine (HMb2.out w4 (below_refl0 w4)).mono ?_; rintro e w5 ⟨rfl, hb5⟩; have HB5 := hid0 hb5; clear hb5 m0 m1 m2 c0 c1 c2 c6 c7)))
    clear hq4
    have HSo : Hid (∀ V : World, Below w4.heap.size w4 V → V.cell? ⟨w3.heap.size, 0, none⟩ = some (.int .i64 0) ∧ V.cell? ⟨w3.heap.size, 1, none⟩ = some (.slice aA N'.length cA) ∧ V.cell? ⟨w3.heap.size, 2, none⟩ = some (.slice aB O'.length cB) ∧ V.cell? ⟨w.heap.size, 0, none⟩ = some (.int .i64 (s0 : Int)) ∧ V.cell? ⟨w.heap.size, 1, none⟩ = some (.slice aN N.length cN) ∧ V.cell? ⟨w.heap.size, 2, none⟩ = some (.slice aO O.length cO) ∧ V.cell? ⟨w.heap.size, 6, none⟩ = some (.int .i64 (m : Int)) ∧ V.cell? ⟨w.heap.size, 7, none⟩ = some (.slice aW W.length cW) ∧ Below w4.heap.size w4 V) := hid0 (fun V hV => by
      obtain ⟨m0, m1, m2⟩ := (HC.out V hV).2.1.c
      obtain ⟨c0, c1, c2, c6, c7⟩ := (HAl.out V (HC.out V hV).2.2).2.2.2.2.2.c
      exact ⟨m0, m1, m2, c0, c1, c2, c6, c7, hV⟩)
    obtain ⟨m0, m1, m2, c0, c1, c2, c6, c7, b5⟩ := HSo.out w5 HB5.out
    have M1 : Hid True := trivial
    go_region_held3 (fun V => V.cell? ⟨w3.heap.size, 0, none⟩ = some (.int .i64 0) ∧ V.cell? ⟨w3.heap.size, 1, none⟩ = some (.slice aA N'.length cA) ∧ V.cell? ⟨w3.heap.size, 2, none⟩ = some (.slice aB O'.length cB) ∧ V.cell? ⟨w.heap.size, 0, none⟩ = some (.int .i64 (s0 : Int)) ∧ V.cell? ⟨w.heap.size, 1, none⟩ = some (.slice aN N.length cN) ∧ V.cell? ⟨w.heap.size, 2, none⟩ = some (.slice aO O.length cO) ∧ V.cell? ⟨w.heap.size, 6, none⟩ = some (.int .i64 (m : Int)) ∧ V.cell? ⟨w.heap.size, 7, none⟩ = some (.slice aW W.length cW) ∧ Below w4.heap.size w4 V) (first | exact HSo.out _ (by go_grown) | (go_split_ands; exact HSo.out _ (by go_grown)) | (go_split_ands; exact HSo.out _ (by assumption)))
      (first
        | (go_at_call 13; clear M1; go_split_ands; refine (HT1.out _ (by go_grown)).mono ?_; rintro e w6 ⟨a6, e6, rfl, HI6, HB6, hx6⟩)
        | (go_at_call 13; go_split_ands; refine (HT2.out _ (by go_grown)).mono ?_; rintro e w7 ⟨a7, e7, rfl, HI7, HB7, hx7⟩)
        | (go_at_call 12; go_split_ands; refine (HSI.out _ a6 a7 e6 e7 (by go_grown) (HI6.out.past HB7.out) HI7.out).mono ?_; rintro e w8 ⟨rfl, hx8⟩))
    go_split_ands
    have HX8 := hid0 hx8
    clear m0 m1 m2 c0 c1 c2 c6 c7 b5 hx6 hx7 hx8 HT1 HT2 HSI HI6 HI7 HB6 HB7 HB5 HMb2
    obtain ⟨m0, m1, m2, c0, c1, c2, c6, c7, _⟩ := HSo.out w8 HX8.out
    go_upto_region 11 with (go_at_call 10; go_loud ((refine (HOf2.out w8 HX8.out).mono ?_; rintro e w9 ⟨aC, cC, aD, cD, rfl, hr9, hb9⟩; have HR9 := hid0 hr9; have HX9 := hid0 (Below.later HX8.out hb9); clear hr9 hb9)))
    obtain ⟨w10, hw10⟩ : ∃ w10, w10 = w9.alloc (.cells #[.int .i64 0, .slice aC N'.length cC, .slice aD O'.length cD] 24) := ⟨_, rfl⟩
    have hB10 : Below w9.heap.size w9 w10 := by rw [hw10]; exact below_alloc _ _
    have hY10 : MBox w10 w9.heap.size 0 (.slice aC N'.length cC) (.slice aD O'.length cD) := by rw [hw10]; exact MBox.new _ _ _ _
    have HX10 : Hid (Below w4.heap.size w4 w10) := hid0 (Below.later HX9.out hB10)
    obtain ⟨n0, n1, n2⟩ := hY10.c
    have HS10 := hid0 (HSm.out w10 aC aD cC cD HX10.out (HR9.out.1.past hB10) (HR9.out.2.past hB10))
    have q10 := hw10.symm
    clear m0 m1 m2 c0 c1 c2 c6 c7 hw10 hB10 hY10 HOf2
    obtain ⟨m0, m1, m2, c0, c1, c2, c6, c7, _⟩ := HSo.out w10 HX10.out
    have hself0 : ((0 : Int) == 0) = true := by decide
    go_wp2_with (first
      | (go_at_call 14; go_loud ((refine HS10.out.mono ?_; rintro e w11 ⟨rfl, hb11⟩; have HX11 := hid0 (Below.later HX10.out hb11); clear hb11 m0 m1 m2 c0 c1 c2 c6 c7 q10; obtain ⟨m0, m1, m2, c0, c1, c2, c6, c7, _⟩ := HSo.out w11 HX11.out)))
      | (go_at_call 15; go_loud ((refine (HIs.out w11 HX11.out).mono ?_; rintro e w12 ⟨rfl, hb12⟩; have HX12 := hid0 (Below.later HX11.out hb12); clear hb12))))
    go_ret
    exact ⟨rfl, (HAl.out _ (HC.out _ HX12.out).2.2).2.2.2.2.1⟩
end Go.Proofs.YtjemjccgfgijiaaDoor
namespace Go.Proofs.YtjemjccgfgijiaaDoor
open Go.RowKit Go.Shelf
/-- A machine is laid into the result's cells. -/
structure LaidZ (W v1 v2 v3 : World) (R : Nat) (y a b : Value) : Prop where
  g1 : W.setCell ⟨R, 0, none⟩ y = v1
  g2 : v1.setCell ⟨R, 1, none⟩ a = v2
  g3 : v2.setCell ⟨R, 2, none⟩ b = v3
  z : W.cell? ⟨R, 0, none⟩ = some (.int .i64 0) ∧ W.cell? ⟨R, 1, none⟩ = some (.slice none 0 0) ∧ W.cell? ⟨R, 2, none⟩ = some (.slice none 0 0)
  a1 : v1.cell? ⟨R, 1, none⟩ = some (.slice none 0 0)
  a2 : v2.cell? ⟨R, 2, none⟩ = some (.slice none 0 0)
  f0 : ∀ k, W.frozen? ⟨R, k, none⟩ = false
  f1 : ∀ k, v1.frozen? ⟨R, k, none⟩ = false
  f2 : ∀ k, v2.frozen? ⟨R, k, none⟩ = false
  r : v3.heap[R]? = some (.cells #[y, a, b] 24 (0, 0))
  only : Only W v3 (fun k => k = R)
theorem laidZ {W : World} {R : Nat} (z a b : Value) (hrb : W.heap[R]? = some (.cells #[.int .i64 0, .slice none 0 0, .slice none 0 0] 24 (0, 0))) : ∃ v1 v2 v3, LaidZ W v1 v2 v3 R z a b := by
  have r1 := heap_setCell_same W R 0 _ _ z hrb
  have r2 := heap_setCell_same _ R 1 _ _ a r1
  have r3 := heap_setCell_same _ R 2 _ _ b r2
  refine ⟨_, _, _, rfl, rfl, rfl, ⟨?_, ?_, ?_⟩, ?_, ?_, fun k => by simp [World.frozen?, hrb], fun k => by simp [World.frozen?, r1], fun k => by simp [World.frozen?, r2], r3, ((Only.setCell _ _ _ _).trans (Only.setCell _ _ _ _) (fun _ h => .inl h)).trans (Only.setCell _ _ _ _) (fun _ h => .inl h)⟩
  all_goals first
    | (rw [cell_of_row _ _ _ _ _ _ hrb]; rfl)
    | (rw [cell_of_row _ _ _ _ _ _ r1]; rfl)
    | (rw [cell_of_row _ _ _ _ _ _ r2]; rfl)
set_option maxRecDepth 10000 in
set_option maxHeartbeats 1600000 in
theorem from_any (s z : Int) (aN aO : Option Addr) (lN lO cN cO : Nat) (w : World) :
    Calls Tryd.prog 17 #[.agg #[.int .i64 s, .slice aN lN cN, .slice aO lO cO], .int .i64 z] w fun e w' => e = .returned (.agg #[.int .i64 z, .slice aN lN cN, .slice aO lO cO]) ∧ Below w.heap.size w w' := by
  obtain ⟨w0, hw0⟩ : ∃ w0, w0 = w.alloc (.cells #[.int .i64 s, .slice aN lN cN, .slice aO lO cO] 24) := ⟨_, rfl⟩
  obtain ⟨w1, hw1⟩ : ∃ w1, w1 = w0.alloc (.cells #[.int .i64 0, .slice none 0 0, .slice none 0 0] 24) := ⟨_, rfl⟩
  have hB0 : Below w.heap.size w w0 := by rw [hw0]; exact below_alloc _ _
  have hB1 : Below w0.heap.size w0 w1 := by rw [hw1]; exact below_alloc _ _
  have hX0 : MBox w1 w.heap.size s (.slice aN lN cN) (.slice aO lO cO) := by
    have : MBox w0 w.heap.size s (.slice aN lN cN) (.slice aO lO cO) := by rw [hw0]; exact MBox.new _ _ _ _
    exact this.past hB1
  have hX1 : w1.heap[w0.heap.size]? = some (.cells #[.int .i64 0, .slice none 0 0, .slice none 0 0] 24 (0, 0)) := by rw [hw1]; exact heap_alloc_new _ _
  obtain ⟨v1, v2, v3, hl⟩ := laidZ (.int .i64 z) (.slice aN lN cN) (.slice aO lO cO) hX1
  have HBF : Hid (Below w.heap.size w v3) := hid0 ((Below.later hB0 hB1).trans (hl.only.below (by have := hB0.size; have := hB1.size; omega) (fun k hk => by rw [hk]; exact hB0.size)))
  have HR := hid0 hl.r
  obtain ⟨x0, x1, x2⟩ := hX0.c
  have q0 := hw0.symm
  have q1 := hw1.symm
  have g1 := hl.g1
  have g2 := hl.g2
  have g3 := hl.g3
  obtain ⟨z0, z1, z2⟩ := hl.z
  have a1 := hl.a1
  have a2 := hl.a2
  have f0 := hl.f0
  have f1 := hl.f1
  have f2 := hl.f2
  clear hw0 hw1 hB0 hB1 hX0 hX1 hl
  go_enter Tryd.func17, Tryd.ntmps17
  go_wp2
  (try simp only [Exit.inBlock, Exit.then])
  refine bodyPost_ret (results_cell_row rfl _ _ w0.heap.size 24 _ _ _ rfl HR.out Tryd.underlying24 rfl (by kernel_rfl)) rfl ?_
  exact ⟨rfl, HBF.out⟩
theorem mayF_start {N O : List (List Int)} {m : Int} {st : Int} (h : mayF st N O m = true) {s : Nat} (hs : s < N.length) : mayF (s : Int) N O m = true := by
  unfold mayF at h ⊢
  simp only [Bool.and_eq_true, decide_eq_true_eq] at h ⊢
  exact ⟨⟨⟨h.1.1.1, (oneOf_iff _ _).2 ⟨by omega, by omega⟩⟩, h.1.2⟩, h.2⟩
/-- Two states of a least machine are told apart. -/
theorem Red.split {m : Nat} {N O : List (List Int)} (h : Red m N O) {a b : Nat} (ha : a < N.length) (hb : b < N.length) (hne : a ≠ b) : ∃ u, ApR (a : Int) (b : Int) (m : Int) N O N O (some (some u)) ∧ okW m u ∧ outF O (runW (nxF N) a u) ≠ outF O (runW (nxF N) b u) := by
  obtain ⟨res, hr⟩ := apR_ex (a : Int) (b : Int) (m : Int) N O N O
  have m1 := mayF_start h.may ha
  have m2 := mayF_start h.may hb
  cases hr with
  | bad h => exact (h m1 m2).elim
  | good m' r hm h1 h2 h3 h4 hA =>
    obtain rfl : m = m' := by omega
    cases r with
    | none =>
      exfalso
      refine hne (h.sep a b ha hb (fun z hz => ?_))
      apply Classical.byContradiction
      intro hd
      exact hA.none' rfl z hz hd
    | some u =>
      refine ⟨u, .good m (some u) hm h1 h2 h3 h4 hA, (hA.some' u rfl).ok, ?_⟩
      have := (hA.some' u rfl).dis
      exact this
theorem SmlO.sml {N O : List (List Int)} (h : SmlO N O) : Sml N O := ⟨h.n, h.nr, h.or⟩
theorem nums_at {u : List Nat} {m : Nat} (h : okW m u) (i : Nat) (hi : i < (nums u).length) : ∃ c : Nat, (nums u)[i] = (c : Int) ∧ c < m := by
  unfold nums at hi ⊢
  rw [List.length_map] at hi
  exact ⟨u[i], by rw [List.getElem_map]; rfl, h _ (List.getElem_mem hi)⟩
/-- How many states are met. -/
theorem Red.seen {m : Nat} {N O : List (List Int)} (h : Red m N O) : top (clF N m) (N.length * m) + 1 = N.length := by
  have h0 := h.pos
  have h1 : top (clF N m) (N.length * m) < N.length := top_lt h0 (fun j hj => clF_lt h.may' hj)
  have h2 := h.bfs.row (N.length - 1) (by omega)
  have h3 := top_mono (clF N m) (Nat.mul_le_mul_right m (show N.length - 1 ≤ N.length by omega))
  omega
theorem Red.next {m : Nat} {N O : List (List Int)} (h : Red m N O) {s c : Nat} (hs : s < N.length) (hc : c < m) : nxF N s c ≤ top (clF N m) (s * m + c) + 1 ∧ s < top (clF N m) (s * m + c) + 1 ∧ top (clF N m) (s * m + (c + 1)) = max (top (clF N m) (s * m + c)) (nxF N s c) := by
  have hi : s * m + c < N.length * m := by
    have := Nat.mul_le_mul_right m (show s + 1 ≤ N.length by omega)
    rw [Nat.succ_mul] at this
    omega
  have h1 := h.bfs.up _ hi
  rw [clF_at N s hc] at h1
  have h2 := h.bfs.row s hs
  have h3 := top_mono (clF N m) (show s * m ≤ s * m + c by omega)
  refine ⟨h1, by omega, ?_⟩
  rw [← Nat.add_assoc, top_succ, clF_at N s hc]
end Go.Proofs.YtjemjccgfgijiaaDoor
