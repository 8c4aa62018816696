/-
  The walk of MachineRuns.
-/
import Derived.Test.YtmbpollfgmdinaaDoorMrNM
import Derived.Test.YtmbpollfgmdinaaDoorExTk
import Derived.Deep.Cut
import Derived.BigRegion
namespace Go.Proofs.YtmbpollfgmdinaaDoor
open Go.RowKit Go.Shelf
set_option maxRecDepth 10000 in
set_option maxHeartbeats 3200000 in
theorem machineRuns_any (A : Nat → Addr) (st sy pa : Int) (N O : List (List Int)) (l : List Int) (aN aO aw : Option Addr) (cN cO cw : Nat) (w : World) (hN : N.length ≤ 5864062014634) (hO : O.length ≤ 5864062014634) (hNr : ∀ r ∈ N, r.length ≤ 17592186043904) (hOr : ∀ r ∈ O, r.length ≤ 17592186043904) (hl : l.length ≤ 17592186043904) (hpa : pa ≤ 9223372036854775807) (ha : RwN w aN N) (hb : RwN w aO O) (hc : IA w aw l) (hcn : aw = none → cw = 0) (he : Sents w A) :
    Calls Tryd.prog 3 #[.agg #[.int .i64 st, .slice aN N.length cN, .slice aO O.length cO, .int .i64 sy, .int .i64 pa, .slice aw l.length cw]] w fun e w' => e = .returned (.bool true) ∧ Below w.heap.size w w' := by
  obtain ⟨w0, hw0⟩ : ∃ w0, w0 = w.alloc (.cells #[.int .i64 st, .slice aN N.length cN, .slice aO O.length cO, .int .i64 sy, .int .i64 pa, .slice aw l.length cw] 27) := ⟨_, rfl⟩
  have hB0 : Below w.heap.size w w0 := by rw [hw0]; exact (Below.refl _ _).alloc (Nat.le_refl _) _
  have hX0 : w0.heap[w.heap.size]? = some (.cells #[.int .i64 st, .slice aN N.length cN, .slice aO O.length cO, .int .i64 sy, .int .i64 pa, .slice aw l.length cw] 27 (0, 0)) := by rw [hw0]; exact heap_alloc_new w _
  have hs0 : w.heap.size < w0.heap.size := by rw [hw0]; simp
  have HB0 := hid0 hB0
  have HS0 := hid0 hs0
  have x0 : w0.cell? ⟨w.heap.size, 0, none⟩ = some (.int .i64 st) := by rw [cell_of_row _ _ _ _ _ _ hX0]; rfl
  have x1 : w0.cell? ⟨w.heap.size, 1, none⟩ = some (.slice aN N.length cN) := by rw [cell_of_row _ _ _ _ _ _ hX0]; rfl
  have x2 : w0.cell? ⟨w.heap.size, 2, none⟩ = some (.slice aO O.length cO) := by rw [cell_of_row _ _ _ _ _ _ hX0]; rfl
  have x3 : w0.cell? ⟨w.heap.size, 3, none⟩ = some (.int .i64 sy) := by rw [cell_of_row _ _ _ _ _ _ hX0]; rfl
  have x4 : w0.cell? ⟨w.heap.size, 4, none⟩ = some (.int .i64 pa) := by rw [cell_of_row _ _ _ _ _ _ hX0]; rfl
  have x5 : w0.cell? ⟨w.heap.size, 5, none⟩ = some (.slice aw l.length cw) := by rw [cell_of_row _ _ _ _ _ _ hX0]; rfl
  have HXX : Hid (∀ W, Below w0.heap.size w0 W → W.cell? ⟨w.heap.size, 0, none⟩ = some (.int .i64 st) ∧ W.cell? ⟨w.heap.size, 1, none⟩ = some (.slice aN N.length cN) ∧ W.cell? ⟨w.heap.size, 2, none⟩ = some (.slice aO O.length cO) ∧ W.cell? ⟨w.heap.size, 3, none⟩ = some (.int .i64 sy) ∧ W.cell? ⟨w.heap.size, 4, none⟩ = some (.int .i64 pa) ∧ W.cell? ⟨w.heap.size, 5, none⟩ = some (.slice aw l.length cw)) :=
    hid0 (fun W hW => ⟨(hW.cell (p := ⟨w.heap.size, 0, none⟩) hs0).trans x0, (hW.cell (p := ⟨w.heap.size, 1, none⟩) hs0).trans x1, (hW.cell (p := ⟨w.heap.size, 2, none⟩) hs0).trans x2, (hW.cell (p := ⟨w.heap.size, 3, none⟩) hs0).trans x3, (hW.cell (p := ⟨w.heap.size, 4, none⟩) hs0).trans x4, (hW.cell (p := ⟨w.heap.size, 5, none⟩) hs0).trans x5⟩)
  have HA := hid0 (ha.past hB0)
  have HB := hid0 (hb.past hB0)
  have HC := hid0 (hc.past hB0)
  have HE := hid0 (he.below hB0)
  have H1 := hid0 (fun W (hW : Below w0.heap.size w0 W) => rows_any N aN cN W (by omega) hNr (HA.out.past hW))
  have H2 := hid0 (fun W (hW : Below w0.heap.size w0 W) => rows_any O aO cO W (by omega) hOr (HB.out.past hW))
  have HNr := hid0 hNr
  have HOr := hid0 hOr
  have HCN := hid0 hcn
  clear ha hb hc he hB0 hX0 hNr hOr hcn hs0
  have hfold := hw0.symm
  clear hw0
  have HD0 : Hid (Below w0.heap.size w0 w0.drew) := hid0 ⟨rfl, rfl, rfl, Nat.le_refl _, fun _ _ => rfl⟩
  have HD1 : Hid (Below w0.heap.size w0 (w0.drew.alloc (.cells #[.int .i64 0, .slice none 0 0, .slice none 0 0] 24))) := hid0 (HD0.out.alloc (Nat.le_refl _) _)
  go_enter Tryd.func3, Tryd.ntmps3
  go_wp2
  go_cut [3] from 18 (fun p wx => ∃ (X b1 s1 b2 : Nat) (avN avO : Option Addr) (cvN cvO : Nat) (psN psO : Lot), p = .pointer (some ⟨X, 0, none⟩) ∧ Hid (psN.map (·.2) = N) ∧ Hid (psO.map (·.2) = O) ∧ Hid (Mem w0 wx X st b1 s1 b2 (.slice avN N.length cvN) (.slice avO O.length cvO) psN psO))
  case first =>
    refine wp_region_noPanic ?_
    refine wp_region_held_drew (S := (fun V => V.cell? ⟨w.heap.size, 0, none⟩ = some (.int .i64 st) ∧ V.cell? ⟨w.heap.size, 1, none⟩ = some (.slice aN N.length cN) ∧ V.cell? ⟨w.heap.size, 2, none⟩ = some (.slice aO O.length cO) ∧ V.cell? ⟨w.heap.size, 3, none⟩ = some (.int .i64 sy) ∧ V.cell? ⟨w.heap.size, 4, none⟩ = some (.int .i64 pa) ∧ V.cell? ⟨w.heap.size, 5, none⟩ = some (.slice aw l.length cw))) (by kernel_rfl) ?_ (fun hHeld => ?_)
    · exact HXX.out _ HD0.out
    refine tkV (i := 0) (d := some 18) (v := ?_) rfl (by kernel_rfl) (by kernel_rfl) (by kernel_rfl) rfl (fun _ _ _ h => h) (by rfl) ?_ (by assumption) ?_
    rotate_left
    · (intro w hSw; (try dsimp only at hSw); (try simp only [List.getElem_toArray, List.getElem_cons_zero]); go_simp; try with_reducible rfl)
    try simp only [Act.put, List.setIfInBounds_toArray, List.set_cons_zero, List.set_cons_succ]
    refine tkV (i := 1) (d := some 19) (v := ?_) rfl (by kernel_rfl) (by kernel_rfl) (by kernel_rfl) rfl (fun _ _ _ h => h) (by rfl) ?_ (by assumption) ?_
    rotate_left
    · (intro w hSw; (try dsimp only at hSw); (try simp only [List.getElem_toArray, List.getElem_cons_zero, List.getElem_cons_succ]); go_simp; try with_reducible rfl)
    try simp only [Act.put, List.setIfInBounds_toArray, List.set_cons_zero, List.set_cons_succ]
    refine tkV (i := 2) (d := some 20) (v := ?_) rfl (by kernel_rfl) (by kernel_rfl) (by kernel_rfl) rfl (fun _ _ _ h => h) (by rfl) ?_ (by assumption) ?_
    rotate_left
    · (intro w hSw; (try dsimp only at hSw); (try simp only [List.getElem_toArray, List.getElem_cons_zero, List.getElem_cons_succ]); go_simp; try with_reducible rfl)
    try simp only [Act.put, List.setIfInBounds_toArray, List.set_cons_zero, List.set_cons_succ]
    refine tkV (i := 3) (d := some 21) (v := ?_) rfl (by kernel_rfl) (by kernel_rfl) (by kernel_rfl) rfl (fun _ _ _ h => h) (by rfl) ?_ (by assumption) ?_
    rotate_left
    · (intro w hSw; (try dsimp only at hSw); (try simp only [List.getElem_toArray, List.getElem_cons_zero, List.getElem_cons_succ]); go_simp; try with_reducible rfl)
    try simp only [Act.put, List.setIfInBounds_toArray, List.set_cons_zero, List.set_cons_succ]
    refine tkV (i := 4) (d := some 22) (v := ?_) rfl (by kernel_rfl) (by kernel_rfl) (by kernel_rfl) rfl (fun _ _ _ h => h) (by rfl) ?_ (by assumption) ?_
    rotate_left
    · (intro w hSw; (try dsimp only at hSw); (try simp only [List.getElem_toArray, List.getElem_cons_zero, List.getElem_cons_succ]); go_simp; try with_reducible rfl)
    try simp only [Act.put, List.setIfInBounds_toArray, List.set_cons_zero, List.set_cons_succ]
    refine tkV (i := 5) (d := some 23) (v := ?_) rfl (by kernel_rfl) (by kernel_rfl) (by kernel_rfl) rfl (fun _ _ _ h => h) (by rfl) ?_ (by assumption) ?_
    rotate_left
    · (intro w hSw; (try dsimp only at hSw); (try simp only [List.getElem_toArray, List.getElem_cons_zero, List.getElem_cons_succ]); go_simp; try with_reducible rfl)
    try simp only [Act.put, List.setIfInBounds_toArray, List.set_cons_zero, List.set_cons_succ]
    refine tkV (i := 7) (d := some 25) (v := ?_) rfl (by kernel_rfl) (by kernel_rfl) (by kernel_rfl) rfl (fun _ _ _ h => h) (by rfl) ?_ (by assumption) ?_
    rotate_left
    · (intro w hSw; (try dsimp only at hSw); (try simp only [List.getElem_toArray, List.getElem_cons_zero, List.getElem_cons_succ]); go_simp; try with_reducible rfl)
    try simp only [Act.put, List.setIfInBounds_toArray, List.set_cons_zero, List.set_cons_succ]
    refine tkV (i := 8) (d := some 26) (v := ?_) rfl (by kernel_rfl) (by kernel_rfl) (by kernel_rfl) rfl (fun _ _ _ h => h) (by rfl) ?_ (by assumption) ?_
    rotate_left
    · (intro w hSw; (try dsimp only at hSw); (try simp only [List.getElem_toArray, List.getElem_cons_zero, List.getElem_cons_succ]); go_simp; try with_reducible rfl)
    try simp only [Act.put, List.setIfInBounds_toArray, List.set_cons_zero, List.set_cons_succ]
    refine tkV (i := 9) (d := some 27) (v := ?_) rfl (by kernel_rfl) (by kernel_rfl) (by kernel_rfl) rfl (fun _ _ _ h => h) (by rfl) ?_ (by assumption) ?_
    rotate_left
    · (intro w hSw; (try dsimp only at hSw); (try simp only [List.getElem_toArray, List.getElem_cons_zero, List.getElem_cons_succ]); go_simp; try with_reducible rfl)
    try simp only [Act.put, List.setIfInBounds_toArray, List.set_cons_zero, List.set_cons_succ]
    refine wpAnyH_ready (rs := [6, 12]) (by kernel_rfl) (by simp) (AllReadyH.cons rfl (fun K hK => ?_) (AllReadyH.cons rfl (fun K hK => ?_) AllReadyH.nil))
    · try simp only [List.getElem_toArray, List.getElem_cons_zero, List.getElem_cons_succ]
      go_simp
      refine (H1.out (w0.drew) (HD0.out)).mono ?_
      rintro e w1 ⟨vN, rfl, psN, hpN, hmN, hbN⟩
      have lN : psN.length = N.length := by have := congrArg List.length hmN; simpa using this
      obtain ⟨avN, cvN, hvN, _⟩ := hpN.cells
      rw [lN] at hvN
      subst hvN
      have HPN := hid0 hpN
      have HMN := hid0 hmN
      have HB1s := hid0 hbN
      have HB1 := hid0 (Below.later (HD0.out) hbN)
      have hs1 := HXX.out w1 HB1.out
      clear hpN hmN hbN lN
      go_wp2_with fail
      refine hK.out _ _ ?_ (fun hHeldC => ?_)
      · exact hs1
      clear hK K
      (try simp only [Act.put]); (try simp only [List.setIfInBounds_toArray]); (try simp only [List.set_cons_succ]); (try simp only [List.set_cons_zero])
      refine wpAnyH_ready (rs := [10, 12]) (by kernel_rfl) (by simp) (AllReadyH.cons rfl (fun K hK => ?_) (AllReadyH.cons rfl (fun K hK => ?_) AllReadyH.nil))
      · try simp only [List.getElem_toArray, List.getElem_cons_zero, List.getElem_cons_succ]
        go_simp
        refine (H2.out (w1) (HB1.out)).mono ?_
        rintro e w2 ⟨vO, rfl, psO, hpO, hmO, hbO⟩
        have lO : psO.length = O.length := by have := congrArg List.length hmO; simpa using this
        obtain ⟨avO, cvO, hvO, _⟩ := hpO.cells
        rw [lO] at hvO
        subst hvO
        have HPO := hid0 hpO
        have HMO := hid0 hmO
        have HB2s := hid0 hbO
        have HB2 := hid0 (Below.later (HB1.out) hbO)
        have hs2 := HXX.out w2 HB2.out
        clear hpO hmO hbO lO
        go_wp2_with fail
        refine hK.out _ _ ?_ (fun hHeldC => ?_)
        · exact hs2
        clear hK K
        (try simp only [Act.put]); (try simp only [List.setIfInBounds_toArray]); (try simp only [List.set_cons_succ]); (try simp only [List.set_cons_zero])
        refine tkV (i := 11) (d := some 29) (v := ?_) rfl (by kernel_rfl) (by kernel_rfl) (by kernel_rfl) rfl (fun _ _ _ h => h) (by rfl) ?_ (by assumption) ?_
        rotate_left
        · (intro w hSw; (try dsimp only at hSw); (try simp only [List.getElem_toArray, List.getElem_cons_zero, List.getElem_cons_succ]); go_simp; try with_reducible rfl)
        try simp only [Act.put, List.setIfInBounds_toArray, List.set_cons_zero, List.set_cons_succ]
        refine wpAnyH_ready (rs := [12]) (by kernel_rfl) (by simp) (AllReadyH.cons rfl (fun K hK => ?_) AllReadyH.nil)
        try simp only [List.getElem_toArray, List.getElem_cons_zero, List.getElem_cons_succ]
        go_simp
        refine hK.out _ _ ?_ (fun hHeldL => ?_)
        · exact HXX.out _ (HB2.out.alloc HB2.out.size _)
        clear hK K
        (try simp only [Act.put]); (try simp only [List.setIfInBounds_toArray]); (try simp only [List.set_cons_succ]); (try simp only [List.set_cons_zero])
        refine wpAnyH_ready (rs := [13]) (by kernel_rfl) (by simp) (AllReadyH.cons rfl (fun K hK => ?_) AllReadyH.nil)
        try simp only [List.getElem_toArray, List.getElem_cons_zero, List.getElem_cons_succ]
        go_simp
        refine hK.out _ _ ?_ (fun hHeldL => ?_)
        · exact HXX.out _ (HB2.out.alloc HB2.out.size _)
        clear hK K
        (try simp only [Act.put]); (try simp only [List.setIfInBounds_toArray]); (try simp only [List.set_cons_succ]); (try simp only [List.set_cons_zero])
        refine wpAnyH_done (by kernel_rfl) ?_ _
        refine NoPanic.normal ?_
        go_wp2_with fail
        go_meet
        case rel =>
          refine ⟨w2.heap.size, w0.heap.size, w1.heap.size, w1.heap.size, avN, avO, cvN, cvO, psN, psO, rfl, HMN, HMO, hid0 ?_⟩
          exact Mem.of (w2 := w2) (by simpa using HPN.out) (HB2s.out) (by simpa using HPO.out) (Nat.le_refl _) (Nat.le_refl _) (Or.inr HB2s.out.size) (Or.inr (Nat.le_refl _)) (heap_alloc_new w2 _) (by simp) (fun k _ hk => heap_alloc_old w2 _ hk) (HB2.out.alloc HB2.out.size _)
      · try simp only [List.getElem_toArray, List.getElem_cons_zero, List.getElem_cons_succ]
        go_simp
        refine hK.out _ _ ?_ (fun hHeldL => ?_)
        · exact HXX.out _ (HB1.out.alloc HB1.out.size (.cells #[.int .i64 0, .slice none 0 0, .slice none 0 0] 24))
        clear hK K
        (try simp only [Act.put]); (try simp only [List.setIfInBounds_toArray]); (try simp only [List.set_cons_succ]); (try simp only [List.set_cons_zero])
        refine wpAnyH_ready (rs := [10]) (by kernel_rfl) (by simp) (AllReadyH.cons rfl (fun K hK => ?_) AllReadyH.nil)
        try simp only [List.getElem_toArray, List.getElem_cons_zero, List.getElem_cons_succ]
        go_simp
        refine (H2.out (w1.alloc (.cells #[.int .i64 0, .slice none 0 0, .slice none 0 0] 24)) (HB1.out.alloc HB1.out.size (.cells #[.int .i64 0, .slice none 0 0, .slice none 0 0] 24))).mono ?_
        rintro e w2 ⟨vO, rfl, psO, hpO, hmO, hbO⟩
        have hX1 := (hbO.block w1.heap.size (by simp)).trans (heap_alloc_new w1 _)
        have HXF := hid0 hX1
        clear hX1
        have lO : psO.length = O.length := by have := congrArg List.length hmO; simpa using this
        obtain ⟨avO, cvO, hvO, _⟩ := hpO.cells
        rw [lO] at hvO
        subst hvO
        have HPO := hid0 hpO
        have HMO := hid0 hmO
        have HB2s := hid0 hbO
        have HB2 := hid0 (Below.later (HB1.out.alloc HB1.out.size (.cells #[.int .i64 0, .slice none 0 0, .slice none 0 0] 24)) hbO)
        have hs2 := HXX.out w2 HB2.out
        clear hpO hmO hbO lO
        obtain ⟨⟨y0, y1, y2⟩, f0, f1, f2⟩ := row3 HXF.out
        go_wp2_with fail
        refine hK.out _ _ ?_ (fun hHeldC => ?_)
        · exact hs2
        clear hK K
        (try simp only [Act.put]); (try simp only [List.setIfInBounds_toArray]); (try simp only [List.set_cons_succ]); (try simp only [List.set_cons_zero])
        refine tkV (i := 11) (d := some 29) (v := ?_) rfl (by kernel_rfl) (by kernel_rfl) (by kernel_rfl) rfl (fun _ _ _ h => h) (by rfl) ?_ (by assumption) ?_
        rotate_left
        · (intro w hSw; (try dsimp only at hSw); (try simp only [List.getElem_toArray, List.getElem_cons_zero, List.getElem_cons_succ]); go_simp; try with_reducible rfl)
        try simp only [Act.put, List.setIfInBounds_toArray, List.set_cons_zero, List.set_cons_succ]
        refine wpAnyH_ready (rs := [13]) (by kernel_rfl) (by simp) (AllReadyH.cons rfl (fun K hK => ?_) AllReadyH.nil)
        try simp only [List.getElem_toArray, List.getElem_cons_zero, List.getElem_cons_succ]
        go_simp
        refine hK.out _ _ ?_ (fun hHeldL => ?_)
        · exact HXX.out _ (set3_below HB2.out HB1.out.size (.int .i64 st) (.slice avN N.length cvN) (.slice avO O.length cvO))
        clear hK K
        (try simp only [Act.put]); (try simp only [List.setIfInBounds_toArray]); (try simp only [List.set_cons_succ]); (try simp only [List.set_cons_zero])
        refine wpAnyH_done (by kernel_rfl) ?_ _
        refine NoPanic.normal ?_
        go_wp2_with fail
        go_meet
        case rel =>
          refine ⟨w1.heap.size, w0.heap.size, w1.heap.size, w1.heap.size + 1, avN, avO, cvN, cvO, psN, psO, rfl, HMN, HMO, hid0 ?_⟩
          exact Mem.of (w2 := w2) (by simpa using HPN.out) (Below.later ((Below.refl w1.heap.size w1).alloc (Nat.le_refl _) (.cells #[.int .i64 0, .slice none 0 0, .slice none 0 0] 24)) HB2s.out) (by simpa using HPO.out) (Nat.le_refl _) (Nat.le_succ _) (Or.inr (Nat.le_refl _)) (Or.inl (Nat.lt_succ_self _)) (set3_row HXF.out (.int .i64 st) (.slice avN N.length cvN) (.slice avO O.length cvO)) (Nat.le_of_eq (set3_size w2 w1.heap.size (.int .i64 st) (.slice avN N.length cvN) (.slice avO O.length cvO)).symm) (fun k hk _ => set3_other hk (.int .i64 st) (.slice avN N.length cvN) (.slice avO O.length cvO)) (set3_below HB2.out HB1.out.size (.int .i64 st) (.slice avN N.length cvN) (.slice avO O.length cvO))
    · try simp only [List.getElem_toArray, List.getElem_cons_zero, List.getElem_cons_succ]
      go_simp
      refine hK.out _ _ ?_ (fun hHeldL => ?_)
      · exact HXX.out _ HD1.out
      clear hK K
      (try simp only [Act.put]); (try simp only [List.setIfInBounds_toArray]); (try simp only [List.set_cons_succ]); (try simp only [List.set_cons_zero])
      refine wpAnyH_ready (rs := [6]) (by kernel_rfl) (by simp) (AllReadyH.cons rfl (fun K hK => ?_) AllReadyH.nil)
      try simp only [List.getElem_toArray, List.getElem_cons_zero, List.getElem_cons_succ]
      go_simp
      refine (H1.out (w0.drew.alloc (.cells #[.int .i64 0, .slice none 0 0, .slice none 0 0] 24)) (HD1.out)).mono ?_
      rintro e w1 ⟨vN, rfl, psN, hpN, hmN, hbN⟩
      have hX1 := (hbN.block w0.heap.size (by simp)).trans (heap_alloc_new w0.drew _)
      have HX1 := hid0 hX1
      clear hX1
      have lN : psN.length = N.length := by have := congrArg List.length hmN; simpa using this
      obtain ⟨avN, cvN, hvN, _⟩ := hpN.cells
      rw [lN] at hvN
      subst hvN
      have HPN := hid0 hpN
      have HMN := hid0 hmN
      have HB1s := hid0 hbN
      have HB1 := hid0 (Below.later (HD1.out) hbN)
      have hs1 := HXX.out w1 HB1.out
      clear hpN hmN hbN lN
      go_wp2_with fail
      refine hK.out _ _ ?_ (fun hHeldC => ?_)
      · exact hs1
      clear hK K
      (try simp only [Act.put]); (try simp only [List.setIfInBounds_toArray]); (try simp only [List.set_cons_succ]); (try simp only [List.set_cons_zero])
      refine wpAnyH_ready (rs := [10]) (by kernel_rfl) (by simp) (AllReadyH.cons rfl (fun K hK => ?_) AllReadyH.nil)
      try simp only [List.getElem_toArray, List.getElem_cons_zero, List.getElem_cons_succ]
      go_simp
      refine (H2.out (w1) (HB1.out)).mono ?_
      rintro e w2 ⟨vO, rfl, psO, hpO, hmO, hbO⟩
      have lO : psO.length = O.length := by have := congrArg List.length hmO; simpa using this
      obtain ⟨avO, cvO, hvO, _⟩ := hpO.cells
      rw [lO] at hvO
      subst hvO
      have HPO := hid0 hpO
      have HMO := hid0 hmO
      have HB2s := hid0 hbO
      have HB2 := hid0 (Below.later (HB1.out) hbO)
      have hs2 := HXX.out w2 HB2.out
      clear hpO hmO hbO lO
      have HXF := hid0 ((HB2s.out.block _ (Array.getElem?_eq_some_iff.1 HX1.out).1).trans HX1.out)
      obtain ⟨⟨y0, y1, y2⟩, f0, f1, f2⟩ := row3 HXF.out
      go_wp2_with fail
      refine hK.out _ _ ?_ (fun hHeldC => ?_)
      · exact hs2
      clear hK K
      (try simp only [Act.put]); (try simp only [List.setIfInBounds_toArray]); (try simp only [List.set_cons_succ]); (try simp only [List.set_cons_zero])
      refine tkV (i := 11) (d := some 29) (v := ?_) rfl (by kernel_rfl) (by kernel_rfl) (by kernel_rfl) rfl (fun _ _ _ h => h) (by rfl) ?_ (by assumption) ?_
      rotate_left
      · (intro w hSw; (try dsimp only at hSw); (try simp only [List.getElem_toArray, List.getElem_cons_zero, List.getElem_cons_succ]); go_simp; try with_reducible rfl)
      try simp only [Act.put, List.setIfInBounds_toArray, List.set_cons_zero, List.set_cons_succ]
      refine wpAnyH_ready (rs := [13]) (by kernel_rfl) (by simp) (AllReadyH.cons rfl (fun K hK => ?_) AllReadyH.nil)
      try simp only [List.getElem_toArray, List.getElem_cons_zero, List.getElem_cons_succ]
      go_simp
      refine hK.out _ _ ?_ (fun hHeldL => ?_)
      · exact HXX.out _ (set3_below HB2.out (Nat.le_refl _) (.int .i64 st) (.slice avN N.length cvN) (.slice avO O.length cvO))
      clear hK K
      (try simp only [Act.put]); (try simp only [List.setIfInBounds_toArray]); (try simp only [List.set_cons_succ]); (try simp only [List.set_cons_zero])
      refine wpAnyH_done (by kernel_rfl) ?_ _
      refine NoPanic.normal ?_
      go_wp2_with fail
      go_meet
      case rel =>
        refine ⟨w0.heap.size, w0.heap.size + 1, w1.heap.size, w1.heap.size, avN, avO, cvN, cvO, psN, psO, rfl, HMN, HMO, hid0 ?_⟩
        exact Mem.of (w2 := w2) (by simpa using HPN.out) (HB2s.out) (by simpa using HPO.out) (Nat.le_succ _) (Nat.le_refl _) (Or.inl (Nat.lt_succ_self _)) (Or.inl (by have := HB1s.out.size; simp at this; omega)) (set3_row HXF.out (.int .i64 st) (.slice avN N.length cvN) (.slice avO O.length cvO)) (Nat.le_of_eq (set3_size w2 w0.heap.size (.int .i64 st) (.slice avN N.length cvN) (.slice avO O.length cvO)).symm) (fun k hk _ => set3_other hk (.int .i64 st) (.slice avN N.length cvN) (.slice avO O.length cvO)) (set3_below HB2.out (Nat.le_refl _) (.int .i64 st) (.slice avN N.length cvN) (.slice avO O.length cvO))
  case rest =>
    obtain ⟨X, b1, s1, b2, avN, avO, cvN, cvO, psN, psO, rfl, HMN, HMO, HM⟩ := hcut
    have HBV := hid0 HM.out.bel
    clear x0 x1 x2 x3 x4 x5 H1 H2 HD0 HD1
    obtain ⟨x0, x1, x2, x3, x4, x5⟩ := HXX.out wc HBV.out
    obtain ⟨⟨y0, y1, y2⟩, _⟩ := row3 HM.out.row
    have HLi := hid0 (list_any l aw cw wc hl HCN.out (HC.out.past HBV.out))
    have HNl : Hid (psN.length = N.length) := hid0 (by have := congrArg List.length HMN.out; simpa using this)
    have HOl : Hid (psO.length = O.length) := hid0 (by have := congrArg List.length HMO.out; simpa using this)
    go_upto_region 3 with (go_at_call 5; refine HLi.out.mono ?_; rintro e v1 ⟨gw, cg, rfl, hk1, hb1⟩; have HK := hid0 hk1; have HB1 := hid0 hb1; clear hk1 hb1 x0 x1 x2 x3 x4 x5 y0 y1 y2)
    have HW : Hid (∀ W, Below v1.heap.size v1 W → Below wc.heap.size wc W) := hid0 (fun W hW => Below.later HB1.out hW)
    have HW0 : Hid (∀ W, Below v1.heap.size v1 W → Below w0.heap.size w0 W) := hid0 (fun W hW => (HM.out.later (HW.out W hW)).bel)
    have HX : Hid (∀ W, Below v1.heap.size v1 W → (W.cell? ⟨w.heap.size, 0, none⟩ = some (.int .i64 st) ∧ W.cell? ⟨w.heap.size, 1, none⟩ = some (.slice aN N.length cN) ∧ W.cell? ⟨w.heap.size, 2, none⟩ = some (.slice aO O.length cO) ∧ W.cell? ⟨w.heap.size, 3, none⟩ = some (.int .i64 sy) ∧ W.cell? ⟨w.heap.size, 4, none⟩ = some (.int .i64 pa) ∧ W.cell? ⟨w.heap.size, 5, none⟩ = some (.slice aw l.length cw)) ∧ W.cell? ⟨X, 0, none⟩ = some (.int .i64 st) ∧ W.cell? ⟨X, 1, none⟩ = some (.slice avN N.length cvN) ∧ W.cell? ⟨X, 2, none⟩ = some (.slice avO O.length cvO)) := hid0 (fun W hW => ⟨HXX.out W (HW0.out W hW), (row3 (HM.out.later (HW.out W hW)).row).1⟩)
    have HRan := hid0 (fun (W : World) (hW : Below v1.heap.size v1 W) => ran_any A st sy pa N O l avN avO (some ⟨gw, 0, none⟩) cvN cvO cg W (by omega) HNr.out HOr.out hl hpa (by have h := (HM.out.later (HW.out W hW)).rwaN; rw [HMN.out] at h; exact h) (by have h := (HM.out.later (HW.out W hW)).rwaO; rw [HMO.out] at h; exact h) (HK.out.past hW).ia (HE.out.below (HW0.out W hW)))
    have HRun := hid0 (fun (W : World) (hW : Below v1.heap.size v1 W) => run_any A st N l avN avO (some ⟨gw, 0, none⟩) cvN O.length cvO cg W HNr.out hl (by have h := (HM.out.later (HW.out W hW)).rwaN; rw [HMN.out] at h; exact h) (HK.out.past hW).ia (HE.out.below (HW0.out W hW)))
    have HRef := hid0 (fun (W : World) (hW : Below v1.heap.size v1 W) => refRun_any st N l aN aO aw cN O.length cO cw W HNr.out hl (HA.out.past (HW0.out W hW)).rwa (HC.out.past (HW0.out W hW)))
    have HSt := hid0 (fun (W : World) (hW : Below v1.heap.size v1 W) => still_any l wc.heap.size gw cg aw cw W hl (HK.out.past hW) (HC.out.past (HW0.out W hW)))
    have HCh := hid0 (fun (W : World) (hW : Below v1.heap.size v1 W) => changes_any A W (HE.out.below (HW0.out W hW)))
    have HSN := hid0 (fun (W : World) (hW : Below v1.heap.size v1 W) => stillRows_any psN b1 (.slice avN N.length cvN) aN cN W (by rw [HNl.out]; omega) (fun x hx => HNr.out _ (by rw [← HMN.out]; exact List.mem_map_of_mem (f := fun x : Value × List Int => x.2) hx)) (HM.out.later (HW.out W hW)).pN (by rw [HMN.out]; exact (HA.out.past (HW0.out W hW)).rwa))
    have HSO := hid0 (fun (W : World) (hW : Below v1.heap.size v1 W) => stillRows_any psO b2 (.slice avO O.length cvO) aO cO W (by rw [HOl.out]; omega) (fun x hx => HOr.out _ (by rw [← HMO.out]; exact List.mem_map_of_mem (f := fun x : Value × List Int => x.2) hx)) (HM.out.later (HW.out W hW)).pO (by rw [HMO.out]; exact (HB.out.past (HW0.out W hW)).rwa))
    rw [HNl.out] at HSN
    rw [HOl.out] at HSO
    have HLen : Hid (((runF N st l).getD []).length ≤ 17592186044000) := hid0 (by
      cases h : runF N st l with
      | none => simp
      | some r => have := runF_len h; simp only [Option.getD_some]; omega)
    obtain ⟨⟨x0, x1, x2, x3, x4, x5⟩, y0, y1, y2⟩ := HX.out v1 (Below.refl _ _)
    go_upto_region 5 with (go_at_call 6; refine (HRan.out v1 (Below.refl _ _)).mono ?_; rintro e v2 ⟨rfl, h⟩; have HB2 := hid0 h; clear h x0 x1 x2 x3 x4 x5 y0 y1 y2)
    obtain ⟨⟨x0, x1, x2, x3, x4, x5⟩, y0, y1, y2⟩ := HX.out v2 HB2.out
    go_upto_region 6 with (go_at_call 7; refine (HRef.out v2 HB2.out).mono ?_; rintro e v3 ⟨vk, rfl, hk, h⟩; obtain ⟨ak, ck, rfl, ik⟩ := hk.ia; have HIk := hid0 ik; have HB3 := hid0 (Below.later HB2.out h); clear h hk ik x0 x1 x2 x3 x4 x5 y0 y1 y2)
    obtain ⟨⟨x0, x1, x2, x3, x4, x5⟩, y0, y1, y2⟩ := HX.out v3 HB3.out
    go_upto_region 7 with (go_at_call 8; refine (HRun.out v3 HB3.out).mono ?_; rintro e v4 ⟨vl, rfl, hv, h⟩; have HOl4 := hid0 hv; obtain ⟨al, cl, rfl, il⟩ := hv.ia; have HIl := hid0 il; have HBa := hid0 h; have HB4 := hid0 (Below.later HB3.out h); clear h hv il x0 x1 x2 x3 x4 x5 y0 y1 y2)
    obtain ⟨⟨x0, x1, x2, x3, x4, x5⟩, y0, y1, y2⟩ := HX.out v4 HB4.out
    go_upto_region 8 with (go_at_call 8; refine (HRun.out v4 HB4.out).mono ?_; rintro e v5 ⟨vq, rfl, hv, h⟩; have HOq5 := hid0 hv; obtain ⟨aq, cq, rfl, iq⟩ := hv.ia; have HIq := hid0 iq; have HBb := hid0 h; have HB5 := hid0 (Below.later HB4.out h); clear h hv iq x0 x1 x2 x3 x4 x5 y0 y1 y2)
    obtain ⟨⟨x0, x1, x2, x3, x4, x5⟩, y0, y1, y2⟩ := HX.out v5 HB5.out
    obtain ⟨hq1, hq2, hq3⟩ := lit3 v5
    have HLt := hid0 (run_lit A _ _ _ hq1 hq2 (HE.out.below (HW0.out _ (Below.later HB5.out hq3))))
    have HBc := hid0 hq3
    have HSz5 : Hid (v5.heap.size ≤ (((v5.alloc (.cells #[.int .i64 0] 3)).alloc (.cells #[.slice (some ⟨v5.heap.size, 0, none⟩) 1 1] 25)).alloc (.cells #[.int .i64 0, .int .i64 0] 3)).heap.size) := hid0 hq3.size
    clear hq1 hq2 hq3
    go_upto_region 9 with (go_at_call 8; refine HLt.out.mono ?_; rintro e v6 ⟨vo, rfl, hv, h⟩; have HOo6 := hid0 hv; obtain ⟨ao, co, rfl, io⟩ := hv.ia; have HIo := hid0 io; have HBd := hid0 (Below.later HBc.out h); have HB6 := hid0 (Below.later HB5.out (Below.later HBc.out h)); clear h hv io x0 x1 x2 x3 x4 x5 y0 y1 y2)
    obtain ⟨⟨x0, x1, x2, x3, x4, x5⟩, y0, y1, y2⟩ := HX.out v6 HB6.out
    go_upto_region 10 with (go_at_call 8; refine (HRun.out v6 HB6.out).mono ?_; rintro e v7 ⟨vp, rfl, hv, h⟩; have HOp7 := hid0 hv; obtain ⟨ap, cp, rfl, ip⟩ := hv.ia; have HIp := hid0 ip; have HBe := hid0 h; have HB7 := hid0 (Below.later HB6.out h); clear h hv ip x0 x1 x2 x3 x4 x5 y0 y1 y2)
    have HI1 := hid0 ((HIl.out.past (Below.later (Below.later HBb.out HBd.out) HBe.out)))
    have HI2 := hid0 (HIq.out.past (Below.later HBd.out HBe.out))
    have HI3 := hid0 HIp.out
    have HI0 := hid0 (HIk.out.past (Below.later (Below.later (Below.later HBa.out HBb.out) HBd.out) HBe.out))
    have HI4 := hid0 (HIo.out.past HBe.out)
    clear HIl HIq HIp HIk HIo
    generalize (runF N st l).getD [] = Lk at *
    generalize (runF N st l).isSome = bk at *
    have HS43 := hid0 HBa.out.size
    have HS54 := hid0 HBb.out.size
    have HS65 := hid0 HBd.out.size
    have HS76 := hid0 HBe.out.size
    go_upto_region 12 with (first
      | (go_at_call 9; have hq := HQ3.out; refine (same000 ao co _ (by exact ⟨HI4.out.at'⟩) rfl).mono ?_; rintro e z4 ⟨rfl, n4, hz4⟩; subst hz4; clear hq HQ1 HQ2 HQ3)
      | (go_at_call 9; have hq := HQ2.out; refine (sameI Lk ap ak cp ck _ HLen.out (by exact ⟨HI3.out.at'⟩) (by exact ⟨HI0.out.at'⟩)).mono ?_; rintro e z3 ⟨rfl, n3, hz3⟩; subst hz3; have HQ3 : Hid True := hid0 trivial; clear hq)
      | (go_at_call 9; have hq := HQ1.out; refine (sameI Lk aq ak cq ck _ HLen.out (by exact ⟨HI2.out.at'⟩) (by exact ⟨HI0.out.at'⟩)).mono ?_; rintro e z2 ⟨rfl, n2, hz2⟩; subst hz2; have HQ2 : Hid True := hid0 trivial; clear hq)
      | (go_at_call 9; (fail_if_success (have hq := HQ1.out)); refine (sameI Lk al ak cl ck v7 HLen.out HI1.out HI0.out).mono ?_; rintro e z1 ⟨rfl, n1, hz1⟩; subst hz1; have HQ1 : Hid True := hid0 trivial)
      | (go_at_call 10; refine (lone4 (base := v3.heap.size) HOl4.out HOq5.out HOo6.out HOp7.out (Nat.le_refl _) HSz5.out (Nat.le_refl _) (Nat.le_refl _) HS43.out (Nat.le_trans HS43.out (Nat.le_trans HS54.out HSz5.out)) (Nat.le_trans HS43.out (Nat.le_trans HS54.out HS65.out)) (Nat.le_trans HS43.out (Nat.le_trans HS54.out (Nat.le_trans HS65.out HS76.out))) HBb.out HBd.out HBe.out HLen.out _ _ rfl).mono ?_; rintro e v8 ⟨rfl, h⟩; have HB8 := hid0 (HB7.out.trans (h.mono HB3.out.size)); clear h)
      | (go_at_call 11; refine (HCh.out v8 HB8.out).mono ?_; rintro e v9 ⟨rfl, h⟩; have HB9 := hid0 (Below.later HB8.out h); clear h)
      | fail)
    clear HI0 HI1 HI2 HI3 HI4 HOl4 HOq5 HOo6 HOp7 HSz5 HS43 HS54 HS65 HS76 HLt HBa HBb HBc HBd HBe HB2 HB3 HB4 HB5 HB6 HB7 HB8 HRun HRef HCh
    obtain ⟨⟨x0, x1, x2, x3, x4, x5⟩, y0, y1, y2⟩ := HX.out v9 HB9.out
    have HBD : Hid (∀ n, Below v1.heap.size v1 (v9.drewN n)) := hid0 (fun n => below_drew' HB9.out n)
    go_upto_region 14 with (first
      | (go_at_call 12; refine (HSt.out v9 HB9.out).mono ?_; rintro e t1 ⟨rfl, n1, ht1⟩; subst ht1)
      | (go_at_call 13; have hq := HQ1.out; refine (HSO.out _ (HBD.out _)).mono ?_; rintro e t3 ⟨rfl, n3, ht3⟩; subst ht3; clear hq)
      | (go_at_call 13; (fail_if_success (have hq := HQ1.out)); refine (HSN.out _ (HBD.out _)).mono ?_; rintro e t2 ⟨rfl, n2, ht2⟩; subst ht2; have HQ1 : Hid True := hid0 trivial)
      | (go_at_call 6; refine (HRan.out _ (by first | exact HBD.out _ | exact below_drew' (HBD.out _) _)).mono ?_; rintro e v10 ⟨rfl, h⟩; have HB10 := hid0 (Below.later (by first | exact HBD.out _ | exact below_drew' (HBD.out _) _) h); clear h)
      | fail)
    clear x0 x1 x2 x3 x4 x5 y0 y1 y2 HSt HSN HSO HBD HQ1 HRan HX HB9
    have HL10 : Hid (∃ L' : List Int, L'.length = l.length ∧ LK v10 wc.heap.size gw cg L') := hid0 ⟨l, rfl, HK.out.past HB10.out⟩
    have HB10c := hid0 (HW.out v10 HB10.out)
    clear HB10 HW HW0
    go_wp2
    go_loopw [15] (fun i wr => ∃ k : Nat, k ≤ l.length ∧ i = .int .i64 (k : Int) ∧ Hid (∃ L' : List Int, L'.length = l.length ∧ LK wr wc.heap.size gw cg L') ∧ Hid (Below wc.heap.size wc wr)) (fun i _ => l.length - (intOf i).toNat)
    case atStart => exact ⟨0, Nat.zero_le _, rfl, HL10, HB10c⟩
    case round =>
      clear HL10 HB10c
      obtain ⟨k, hk, rfl, HLk, HBk⟩ := hrel
      obtain ⟨L', hL', hlk⟩ := HLk.out
      by_cases hlt : k < l.length
      · have hkI : (k : Int) < (l.length : Int) := by omega
        have hkI0 : (0 : Int) ≤ (k : Int) := by omega
        have hj : l.length - 1 - k < L'.length := by omega
        obtain ⟨b, off, e, _, d1⟩ := hlk.ia.at' (l.length - 1 - k) hj
        obtain ⟨b', off', e', _, d0⟩ := hlk.ia.at' k (by omega)
        cases e
        cases e'
        rw [Nat.zero_add] at d0 d1
        have f0 := hlk.frozen k
        have HLk2 : Hid (∀ z, ∃ L'' : List Int, L''.length = l.length ∧ LK (wr.setCell ⟨gw, k, none⟩ (.int .i64 z)) wc.heap.size gw cg L'') := hid0 (fun z => ⟨L'.set k z, by rw [List.length_set]; exact hL', hlk.put k (by omega) z⟩)
        have HBk2 : Hid (∀ z, Below wc.heap.size wc (wr.setCell ⟨gw, k, none⟩ (.int .i64 z))) := hid0 (fun z => HBk.out.setCell (p := ⟨gw, k, none⟩) hlk.lt.1 _)
        generalize L'[l.length - 1 - k] = z1 at *
        generalize L'[k] = z0 at *
        have hjI0 : (0 : Int) ≤ (l.length : Int) - 1 - (k : Int) := by omega
        have hjI1 : (l.length : Int) - 1 - (k : Int) < (l.length : Int) := by omega
        clear hj
        clear hlk HLk HBk hL'
        go_wp2
        go_roundw
        case rel => exact ⟨k + 1, by omega, by go_num, hid0 (HLk2.out _), hid0 (HBk2.out _)⟩
        case measure => simp [intOf]; omega
      · have hkI : ¬ (k : Int) < (l.length : Int) := by omega
        have HMk := hid0 (HM.out.later HBk.out)
        have HBw := hid0 HMk.out.bel
        have HKk := hid0 hlk
        have HLk' := hid0 hL'
        obtain ⟨x0, x1, x2, x3, x4, x5⟩ := HXX.out wr HBw.out
        obtain ⟨⟨y0, y1, y2⟩, _⟩ := row3 HMk.out.row
        have HRn := hid0 (ran_any A st sy pa N O L' avN avO (some ⟨gw, 0, none⟩) cvN cvO cg wr (by omega) HNr.out HOr.out (by omega) hpa (by have h := HMk.out.rwaN; rw [HMN.out] at h; exact h) (by have h := HMk.out.rwaO; rw [HMO.out] at h; exact h) hlk.ia (HE.out.below HBw.out))
        rw [hL'] at HRn
        have HSzk := hid0 HBk.out.size
        clear hlk hL' HLk hlt
        go_upto_region 20 with (go_at_call 6; refine HRn.out.mono ?_; rintro e v11 ⟨rfl, h⟩; have HB11 := hid0 h; clear h x0 x1 x2 x3 x4 x5 y0 y1 y2)
        have HBt := hid0 (Bent.start (HMk.out.later HB11.out))
        have HK11 := hid0 (HKk.out.past HB11.out)
        have HS1 := hid0 HM.out.mid.2
        clear HRn HKk HMk HBw HBk HB11 HM
        go_wp2
        go_loopw [16] (fun i w2 => ∃ (q : Nat) (qs : Lot), q ≤ N.length ∧ i = .int .i64 (q : Int) ∧ Hid (Bent w0 v11 w2 X st b1 s1 b2 (.slice avN N.length cvN) (.slice avO O.length cvO) psN psO qs)) (fun i _ => N.length - (intOf i).toNat)
        case atStart => exact ⟨0, psN, Nat.zero_le _, rfl, HBt⟩
        case round =>
          clear HBt
          obtain ⟨q, qs, hq, rfl, HBn⟩ := hrel
          by_cases hql : q < N.length
          · have hqI : (q : Int) < (N.length : Int) := by omega
            have hqI0 : (0 : Int) ≤ (q : Int) := by omega
            obtain ⟨⟨y0, y1, y2⟩, _⟩ := row3 HBn.out.mem.row
            go_wp2
            go_loopw [17] (fun i w2 => ∃ (p : Nat) (qs : Lot), p ≤ 17592186043904 ∧ i = .int .i64 (p : Int) ∧ Hid (Bent w0 v11 w2 X st b1 s1 b2 (.slice avN N.length cvN) (.slice avO O.length cvO) psN psO qs)) (fun i _ => 17592186043904 - (intOf i).toNat)
            case atStart => exact ⟨0, qs, Nat.zero_le _, rfl, HBn⟩
            case round =>
              clear HBn y0 y1 y2
              obtain ⟨p, qs, hp, rfl, HBn⟩ := hrel
              obtain ⟨⟨y0, y1, y2⟩, _⟩ := row3 HBn.out.mem.row
              have hqs : q < qs.length := by rw [HBn.out.len, HNl.out]; exact hql
              obtain ⟨a', c', ev, _, hcell⟩ := HBn.out.mem.pN.cells
              obtain ⟨bb, e1, _, _, d0⟩ := hcell q hqs
              have ea : avN = some ⟨bb, 0, none⟩ := by rw [e1] at ev; simp only [Value.slice.injEq] at ev; exact ev.1
              subst ea
              obtain ⟨g, cg1, eg, hgk⟩ := HBn.out.mem.pN.row _ (List.getElem_mem hqs)
              have hrl : (qs[q]).2.length ≤ 17592186043904 := HBn.out.rows (by rw [HMN.out]; exact HNr.out) _ (List.mem_map_of_mem (f := fun x : Value × List Int => x.2) (List.getElem_mem hqs))
              have HPt := hid0 (fun k hk z => HBn.out.put q hqs eg k hk z)
              rw [eg] at d0
              by_cases hpl : p < (qs[q]).2.length
              · obtain ⟨_, _, e3, _, c1⟩ := hgk.ia.at' ((qs[q]).2.length - 1 - p) (by omega)
                cases e3
                obtain ⟨_, _, e3, _, c0⟩ := hgk.ia.at' p hpl
                cases e3
                rw [Nat.zero_add] at c0 c1
                have f0 := hgk.frozen p
                have HPp := hid0 (fun z => HPt.out p hpl z)
                generalize (qs[q]).2[(qs[q]).2.length - 1 - p] = z1 at *
                generalize (qs[q]).2[p] = z0 at *
                clear HPt hgk eg hcell ev e1
                generalize (qs[q]).2.length = n at *
                have hpI : (p : Int) < (n : Int) := by omega
                have hpI0 : (0 : Int) ≤ (p : Int) := by omega
                have hjI0 : (0 : Int) ≤ (n : Int) - 1 - (p : Int) := by omega
                have hjI1 : (n : Int) - 1 - (p : Int) < (n : Int) := by omega
                go_wp2
                go_region
                obtain ⟨qs', hqs'⟩ := HPp.out z1
                have HBn2 := hid0 hqs'
                clear hqs' HPp HBn
                go_wp2
                go_roundw
                case rel => exact ⟨p + 1, qs', by omega, by go_num, hid0 (Bent.same HBn2.out rfl rfl rfl rfl)⟩
                case measure => simp [intOf]; omega
              · have hpI : ¬ (p : Int) < ((qs[q]).2.length : Int) := by omega
                clear HPt hgk eg hcell ev e1
                generalize (qs[q]).2.length = n at *
                go_wp2
                go_roundw
                case rel => exact ⟨q + 1, qs, by omega, by go_num, HBn⟩
                case measure => simp [intOf]; omega
          · have hqI : ¬ (q : Int) < (N.length : Int) := by omega
            have HLq : Hid ((qs.map (·.2)).length = N.length) := hid0 (by rw [List.length_map, HBn.out.len, HNl.out])
            have HBw := hid0 HBn.out.mem.bel
            have HKw : Hid (LK wr wc.heap.size gw cg L') := hid0 (own_blk HK11.out (fun k' hk' => HBn.out.keep k' (Nat.le_trans HS1.out (World.ownsRow.lt HK11.out k' hk').1)))
            have hrn := ran_any A st sy pa (qs.map (·.2)) O L' avN avO (some ⟨gw, 0, none⟩) cvN cvO cg wr (by rw [HLq.out]; omega) (HBn.out.rows (by rw [HMN.out]; exact HNr.out)) HOr.out (by have := HLk'.out; omega) hpa HBn.out.mem.rwaN (by have h := HBn.out.mem.rwaO; rw [HMO.out] at h; exact h) HKw.out.ia (HE.out.below HBw.out)
            rw [HLq.out, HLk'.out] at hrn
            have HRn := hid0 hrn
            clear hrn
            obtain ⟨x0, x1, x2, x3, x4, x5⟩ := HXX.out wr HBw.out
            obtain ⟨⟨y0, y1, y2⟩, _⟩ := row3 HBn.out.mem.row
            go_wp2_with (go_at_call 6; refine HRn.out.mono ?_; rintro e v12 ⟨rfl, h⟩; have HB12 := hid0 h; clear h)
            go_ret
            exact ⟨rfl, HB0.out.trans ((HBw.out.trans (HB12.out.mono HBw.out.size)).mono HB0.out.size)⟩
end Go.Proofs.YtmbpollfgmdinaaDoor
