/-
  PlGaW, RdM.
-/
import Derived.Test.YtlkgghbdgjomkaaDoorMuc
import Derived.Test.YtlkgghbdgjomkaaDoorMub
import Derived.Test.YtlkgghbdgjomkaaDoorProg
import Derived.WalkKit
import Derived.Deep.RegionHeld3
import Derived.RangeFuncNested
import Derived.OwnWalkIn
import Derived.TacticsInMore
namespace Go.Proofs.YtlkgghbdgjomkaaDoor
open Go.RowKit Go.Shelf
set_option maxRecDepth 10000 in
set_option maxHeartbeats 1600000 in
theorem newWalk_any (aL aF aA aO aW : Option Addr) (cL cF cA cO cW : Nat) (Le Fo : List (List Int)) (Fi La Wd : List Int) (em : Bool) (w : World) (hp : PosA w aL aF aA aO Le Fo Fi La) (hwd : IA w aW Wd) (hwl : Wd.length ≤ 4000000) (hw1 : 0 < Wd.length) (hso : soundP Le.length Fi La Fo = true) (hfb : RwB w aO Fo) (hfi : ∀ p, aF = some p → p.block < w.heap.size) (hLi : ∀ r ∈ Le, ∀ z ∈ r, inI z) (hWi : ∀ z ∈ Wd, inI z) (hTab : TabAt 11 Lib.deBruijn64tab w) (hT11 : 11 < w.heap.size) :
    Calls Tryd.prog 33 #[posV aL aF aA aO cL cF cA cO Le Fo Fi La em, .slice aW Wd.length cW] w (NwR w Le Fo Fi Wd) := by
  unfold posV
  obtain ⟨w0, hw0⟩ : ∃ w0, w0 = w.alloc (.cells #[.slice aL Le.length cL, .slice aF Fi.length cF, .slice aA La.length cA, .slice aO Fo.length cO, .bool em] 25) := ⟨_, rfl⟩
  have hr0 : w0.heap[w.heap.size]? = some (.cells #[.slice aL Le.length cL, .slice aF Fi.length cF, .slice aA La.length cA, .slice aO Fo.length cO, .bool em] 25 (0, 0)) := by rw [hw0]; exact heap_alloc_new w _
  obtain ⟨c0, c1, c2, c3, c4⟩ := row5 hr0
  have hl1 := hp.l1
  have hl2 := hp.l2
  have hl4 := hp.l4
  have hb0 : Below w.heap.size w w0 := by rw [hw0]; exact (Below.refl _ _).alloc (Nat.le_refl _) _
  have hs0 : w0.heap.size = w.heap.size + 1 := by rw [hw0]; simp
  have hsd : Fo.length = Le.length ∧ Fi.all (oneOf Le.length) = true ∧ ∀ r ∈ Fo, r.all (oneOf Le.length) = true := by
    unfold soundP insA at hso
    simp only [Bool.and_eq_true, decide_eq_true_eq] at hso
    exact ⟨hso.1.1.1, hso.1.1.2, List.all_eq_true.1 hso.2⟩
  have HC5 : Hid (∀ W, Below w0.heap.size w0 W → W.cell? ⟨w.heap.size, 0, none⟩ = some (.slice aL Le.length cL) ∧ W.cell? ⟨w.heap.size, 1, none⟩ = some (.slice aF Fi.length cF) ∧ W.cell? ⟨w.heap.size, 3, none⟩ = some (.slice aO Fo.length cO)) := hid0 (fun W hW => by
    have := (hW.block w.heap.size (by omega)).trans hr0
    obtain ⟨q0, q1, q2, q3, q4⟩ := row5 this
    exact ⟨q0, q1, q3⟩)
  have HBW : Hid (∀ W, Below w0.heap.size w0 W → Below w.heap.size w W) := hid0 (fun W hW => Below.later hb0 hW)
  have HP := hid0 hp
  have HFb := hid0 hfb
  have HSd := hid0 hsd
  have HLi := hid0 hLi
  have HWi := hid0 hWi
  have HWd := hid0 hwd
  have HFi := hid0 hfi
  have HTb := hid0 hTab
  have hl8 : Le.length ≤ 100000000 := by omega
  have hfold := hw0.symm
  have HFl := hid0 hsd.1
  have HZ0 := hid0 hs0
  clear hs0 hw0 hp hfb hsd hLi hWi hwd hfi hTab hso
  go_enter Tryd.func33, Tryd.ntmps33
  go_upto_region 2 with fail
  rename_i K0 hK0
  suffices H : ∀ (gF mp ga gn B : Nat) (W : World), NwI w0 W Le.length ((Le.length + 511) / 512) gF mp ga gn B → K0 { tmps := #[.agg #[.slice aL Le.length cL, .slice aF Fi.length cF, .slice aA La.length cA, .slice aO Fo.length cO, .bool em], .slice aW Wd.length cW, .pointer (some ⟨w.heap.size, 0, none⟩), undef, .pointer none, .int .i64 (Le.length : Int), .pointer (some ⟨B, 0, none⟩), undef, undef, undef, undef, undef, undef, undef, undef, .pointer (some ⟨w.heap.size, 0, none⟩), .slice aL Le.length cL, .int .i64 (Le.length : Int), .int .i64 (Le.length : Int), .slice (some ⟨gF, 0, none⟩) Le.length Le.length, .map (some mp), .int .i64 (Le.length : Int), .agg #[.slice (some ⟨ga, 0, none⟩) ((Le.length + 511) / 512) ((Le.length + 511) / 512)], .int .i64 (Le.length : Int), .agg #[.slice (some ⟨gn, 0, none⟩) ((Le.length + 511) / 512) ((Le.length + 511) / 512)], .agg #[.slice (some ⟨gF, 0, none⟩) Le.length Le.length, .map (some mp), .slice none 0 0, .slice (some ⟨ga, 0, none⟩) ((Le.length + 511) / 512) ((Le.length + 511) / 512), .slice (some ⟨gn, 0, none⟩) ((Le.length + 511) / 512) ((Le.length + 511) / 512)], .pointer (some ⟨B, 0, none⟩), undef, undef, undef, undef, undef, undef, undef, undef, undef, undef, undef, undef, undef, undef, undef, undef, undef, undef, undef, undef, undef, undef, undef, undef, undef, undef, undef, undef, undef, undef, undef, undef, undef, undef, undef, undef, undef, undef, undef, undef, undef, undef, undef, undef, undef, undef, undef, undef, undef, undef, undef, undef, undef, undef, undef, undef, undef, undef, undef, undef, undef, undef, undef, undef, undef, undef, undef, undef, undef, undef, undef, undef, undef, undef, undef], defers := [] } W by
    refine wp_region_noPanic ?_
    refine wp_region_held_drew (S := fun _ => True) (by kernel_rfl) trivial (fun hHeld => ?_)
    refine tkV (i := 0) (d := some 18) (v := ?_) rfl (by kernel_rfl) (by kernel_rfl) (by kernel_rfl) rfl (fun _ _ _ h => h) (by rfl) ?_ (by assumption) ?_
    rotate_left
    · (intro w hSw; (try dsimp only at hSw); (try simp only [List.getElem_toArray, List.getElem_cons_zero]); go_simp; try with_reducible rfl)
    try simp only [Act.put, List.setIfInBounds_toArray, List.set_cons_zero, List.set_cons_succ]
    refine tkV (i := 3) (d := some 21) (v := ?_) rfl (by kernel_rfl) (by kernel_rfl) (by kernel_rfl) rfl (fun _ _ _ h => h) (by rfl) ?_ (by assumption) ?_
    rotate_left
    · (intro w hSw; (try dsimp only at hSw); (try simp only [List.getElem_toArray, List.getElem_cons_zero, List.getElem_cons_succ]); go_simp; try with_reducible rfl)
    try simp only [Act.put, List.setIfInBounds_toArray, List.set_cons_zero, List.set_cons_succ]
    refine tkV (i := 5) (d := some 23) (v := ?_) rfl (by kernel_rfl) (by kernel_rfl) (by kernel_rfl) rfl (fun _ _ _ h => h) (by rfl) ?_ (by assumption) ?_
    rotate_left
    · (intro w hSw; (try dsimp only at hSw); (try simp only [List.getElem_toArray, List.getElem_cons_zero, List.getElem_cons_succ]); go_simp; try with_reducible rfl)
    try simp only [Act.put, List.setIfInBounds_toArray, List.set_cons_zero, List.set_cons_succ]
    refine wpAnyH_ready (rs := [1, 2, 4]) (by kernel_rfl) (by simp) (AllReadyH.cons rfl (fun K hK => ?_) (AllReadyH.cons rfl (fun K hK => ?_) (AllReadyH.cons rfl (fun K hK => ?_) AllReadyH.nil)))
    · obtain ⟨v1, hrun, h1, hb1⟩ := make_rows Le.length w0.drew hl1
      try simp only [List.getElem_toArray, List.getElem_cons_zero, List.getElem_cons_succ]
      go_simp
      clear hrun
      refine hK.out _ _ trivial (fun hHeld1 => ?_)
      clear hK K
      (try simp only [Act.put]); (try simp only [List.setIfInBounds_toArray]); (try simp only [List.set_cons_succ]); (try simp only [List.set_cons_zero])
      refine wpAnyH_ready (rs := [2, 4]) (by kernel_rfl) (by simp) (AllReadyH.cons rfl (fun K hK => ?_) (AllReadyH.cons rfl (fun K hK => ?_) AllReadyH.nil))
      · obtain ⟨v2, hrun, h2, hb2⟩ := make_map v1
        try simp only [List.getElem_toArray, List.getElem_cons_zero, List.getElem_cons_succ]
        go_simp
        clear hrun
        refine hK.out _ _ trivial (fun hHeld2 => ?_)
        clear hK K
        (try simp only [Act.put]); (try simp only [List.setIfInBounds_toArray]); (try simp only [List.set_cons_succ]); (try simp only [List.set_cons_zero])
        refine wpAnyH_ready (rs := [4]) (by kernel_rfl) (by simp) (AllReadyH.cons rfl (fun K hK => ?_) AllReadyH.nil)
        try simp only [List.getElem_toArray, List.getElem_cons_zero, List.getElem_cons_succ]
        go_simp
        refine (roomFor_any Le.length v2 hl8).mono ?_
        rintro e v4 ⟨g4, rfl, hlo4, h4, hb4⟩
        go_wp2_with fail
        refine hK.out _ _ trivial (fun hHeld4 => ?_)
        clear hK K
        (try simp only [Act.put]); (try simp only [List.setIfInBounds_toArray]); (try simp only [List.set_cons_succ]); (try simp only [List.set_cons_zero])
        refine wpAnyH_ready (rs := [6]) (by kernel_rfl) (by simp) (AllReadyH.cons rfl (fun K hK => ?_) AllReadyH.nil)
        try simp only [List.getElem_toArray, List.getElem_cons_zero, List.getElem_cons_succ]
        go_simp
        refine (roomFor_any Le.length v4 hl8).mono ?_
        rintro e v6 ⟨g6, rfl, hlo6, h6, hb6⟩
        go_wp2_with fail
        refine hK.out _ _ trivial (fun hHeld6 => ?_)
        clear hK K
        (try simp only [Act.put]); (try simp only [List.setIfInBounds_toArray]); (try simp only [List.set_cons_succ]); (try simp only [List.set_cons_zero])
        refine tkV (i := 7) (d := some 25) (v := ?_) rfl (by kernel_rfl) (by kernel_rfl) (by kernel_rfl) rfl (fun _ _ _ h => h) (by rfl) ?_ (by assumption) ?_
        rotate_left
        · (intro w hSw; (try dsimp only at hSw); (try simp only [List.getElem_toArray, List.getElem_cons_zero, List.getElem_cons_succ]); go_simp; try with_reducible rfl)
        try simp only [Act.put, List.setIfInBounds_toArray, List.set_cons_zero, List.set_cons_succ]
        refine wpAnyH_ready (rs := [8]) (by kernel_rfl) (by simp) (AllReadyH.cons rfl (fun K hK => ?_) AllReadyH.nil)
        try simp only [List.getElem_toArray, List.getElem_cons_zero, List.getElem_cons_succ]
        go_simp
        refine hK.out _ _ trivial (fun hHeld8 => ?_)
        clear hK K
        (try simp only [Act.put]); (try simp only [List.setIfInBounds_toArray]); (try simp only [List.set_cons_succ]); (try simp only [List.set_cons_zero])
        refine tkV (i := 9) (d := some 6) (v := ?_) rfl (by kernel_rfl) (by kernel_rfl) (by kernel_rfl) rfl (fun _ _ _ h => h) (by rfl) ?_ (by assumption) ?_
        rotate_left
        · (intro w hSw; (try dsimp only at hSw); (try simp only [List.getElem_toArray, List.getElem_cons_zero, List.getElem_cons_succ]); go_simp; try with_reducible rfl)
        try simp only [Act.put, List.setIfInBounds_toArray, List.set_cons_zero, List.set_cons_succ]
        refine wpAnyH_done (by kernel_rfl) ?_ _
        refine NoPanic.normal ?_
        have hbx : Below v6.heap.size v6 (v6.alloc (.cells #[.slice (some ⟨w0.drew.heap.size, 0, none⟩) Le.length Le.length, .map (some v1.heap.size), .slice none 0 0, .slice (some ⟨g4, 0, none⟩) ((Le.length + 511) / 512) ((Le.length + 511) / 512), .slice (some ⟨g6, 0, none⟩) ((Le.length + 511) / 512) ((Le.length + 511) / 512)] 58)) := (Below.refl _ _).alloc (Nat.le_refl _) _
        have hz1 := hb1.size
        have hz2 := hb2.size
        have hz4 := hb4.size
        have hz6 := hb6.size
        have hq1 := h1.lt
        have hq2 := h2.lt
        have hq4 := h4.lt
        have hq6 := h6.lt
        have hd0 : w0.drew.heap.size = w0.heap.size := rfl
        have hbd : Below w0.heap.size w0 w0.drew := ⟨rfl, rfl, rfl, Nat.le_refl _, fun _ _ => rfl⟩
        exact H _ _ _ _ _ _ ⟨heap_alloc_new _ _, ((((h1.below hb2).below hb4).below hb6).below hbx), (((h2.below hb4).below hb6).below hbx), ((h4.below hb6).below hbx), (h6.below hbx), (Below.later (Below.later (Below.later (Below.later (Below.later hbd hb1) hb2) hb4) hb6) hbx), ⟨by omega, by omega, by omega, by omega, by omega⟩, ⟨by omega, by omega, by omega, by omega, by omega, by omega, by omega, by omega, by omega, by omega⟩⟩
      · try simp only [List.getElem_toArray, List.getElem_cons_zero, List.getElem_cons_succ]
        go_simp
        refine (roomFor_any Le.length v1 hl8).mono ?_
        rintro e v4 ⟨g4, rfl, hlo4, h4, hb4⟩
        go_wp2_with fail
        refine hK.out _ _ trivial (fun hHeld4 => ?_)
        clear hK K
        (try simp only [Act.put]); (try simp only [List.setIfInBounds_toArray]); (try simp only [List.set_cons_succ]); (try simp only [List.set_cons_zero])
        refine wpAnyH_ready (rs := [2, 6]) (by kernel_rfl) (by simp) (AllReadyH.cons rfl (fun K hK => ?_) (AllReadyH.cons rfl (fun K hK => ?_) AllReadyH.nil))
        · obtain ⟨v2, hrun, h2, hb2⟩ := make_map v4
          try simp only [List.getElem_toArray, List.getElem_cons_zero, List.getElem_cons_succ]
          go_simp
          clear hrun
          refine hK.out _ _ trivial (fun hHeld2 => ?_)
          clear hK K
          (try simp only [Act.put]); (try simp only [List.setIfInBounds_toArray]); (try simp only [List.set_cons_succ]); (try simp only [List.set_cons_zero])
          refine wpAnyH_ready (rs := [6]) (by kernel_rfl) (by simp) (AllReadyH.cons rfl (fun K hK => ?_) AllReadyH.nil)
          try simp only [List.getElem_toArray, List.getElem_cons_zero, List.getElem_cons_succ]
          go_simp
          refine (roomFor_any Le.length v2 hl8).mono ?_
          rintro e v6 ⟨g6, rfl, hlo6, h6, hb6⟩
          go_wp2_with fail
          refine hK.out _ _ trivial (fun hHeld6 => ?_)
          clear hK K
          (try simp only [Act.put]); (try simp only [List.setIfInBounds_toArray]); (try simp only [List.set_cons_succ]); (try simp only [List.set_cons_zero])
          refine tkV (i := 7) (d := some 25) (v := ?_) rfl (by kernel_rfl) (by kernel_rfl) (by kernel_rfl) rfl (fun _ _ _ h => h) (by rfl) ?_ (by assumption) ?_
          rotate_left
          · (intro w hSw; (try dsimp only at hSw); (try simp only [List.getElem_toArray, List.getElem_cons_zero, List.getElem_cons_succ]); go_simp; try with_reducible rfl)
          try simp only [Act.put, List.setIfInBounds_toArray, List.set_cons_zero, List.set_cons_succ]
          refine wpAnyH_ready (rs := [8]) (by kernel_rfl) (by simp) (AllReadyH.cons rfl (fun K hK => ?_) AllReadyH.nil)
          try simp only [List.getElem_toArray, List.getElem_cons_zero, List.getElem_cons_succ]
          go_simp
          refine hK.out _ _ trivial (fun hHeld8 => ?_)
          clear hK K
          (try simp only [Act.put]); (try simp only [List.setIfInBounds_toArray]); (try simp only [List.set_cons_succ]); (try simp only [List.set_cons_zero])
          refine tkV (i := 9) (d := some 6) (v := ?_) rfl (by kernel_rfl) (by kernel_rfl) (by kernel_rfl) rfl (fun _ _ _ h => h) (by rfl) ?_ (by assumption) ?_
          rotate_left
          · (intro w hSw; (try dsimp only at hSw); (try simp only [List.getElem_toArray, List.getElem_cons_zero, List.getElem_cons_succ]); go_simp; try with_reducible rfl)
          try simp only [Act.put, List.setIfInBounds_toArray, List.set_cons_zero, List.set_cons_succ]
          refine wpAnyH_done (by kernel_rfl) ?_ _
          refine NoPanic.normal ?_
          have hbx : Below v6.heap.size v6 (v6.alloc (.cells #[.slice (some ⟨w0.drew.heap.size, 0, none⟩) Le.length Le.length, .map (some v4.heap.size), .slice none 0 0, .slice (some ⟨g4, 0, none⟩) ((Le.length + 511) / 512) ((Le.length + 511) / 512), .slice (some ⟨g6, 0, none⟩) ((Le.length + 511) / 512) ((Le.length + 511) / 512)] 58)) := (Below.refl _ _).alloc (Nat.le_refl _) _
          have hz1 := hb1.size
          have hz4 := hb4.size
          have hz2 := hb2.size
          have hz6 := hb6.size
          have hq1 := h1.lt
          have hq2 := h2.lt
          have hq4 := h4.lt
          have hq6 := h6.lt
          have hd0 : w0.drew.heap.size = w0.heap.size := rfl
          have hbd : Below w0.heap.size w0 w0.drew := ⟨rfl, rfl, rfl, Nat.le_refl _, fun _ _ => rfl⟩
          exact H _ _ _ _ _ _ ⟨heap_alloc_new _ _, ((((h1.below hb4).below hb2).below hb6).below hbx), ((h2.below hb6).below hbx), (((h4.below hb2).below hb6).below hbx), (h6.below hbx), (Below.later (Below.later (Below.later (Below.later (Below.later hbd hb1) hb4) hb2) hb6) hbx), ⟨by omega, by omega, by omega, by omega, by omega⟩, ⟨by omega, by omega, by omega, by omega, by omega, by omega, by omega, by omega, by omega, by omega⟩⟩
        · try simp only [List.getElem_toArray, List.getElem_cons_zero, List.getElem_cons_succ]
          go_simp
          refine (roomFor_any Le.length v4 hl8).mono ?_
          rintro e v6 ⟨g6, rfl, hlo6, h6, hb6⟩
          go_wp2_with fail
          refine hK.out _ _ trivial (fun hHeld6 => ?_)
          clear hK K
          (try simp only [Act.put]); (try simp only [List.setIfInBounds_toArray]); (try simp only [List.set_cons_succ]); (try simp only [List.set_cons_zero])
          refine wpAnyH_ready (rs := [2]) (by kernel_rfl) (by simp) (AllReadyH.cons rfl (fun K hK => ?_) AllReadyH.nil)
          obtain ⟨v2, hrun, h2, hb2⟩ := make_map v6
          try simp only [List.getElem_toArray, List.getElem_cons_zero, List.getElem_cons_succ]
          go_simp
          clear hrun
          refine hK.out _ _ trivial (fun hHeld2 => ?_)
          clear hK K
          (try simp only [Act.put]); (try simp only [List.setIfInBounds_toArray]); (try simp only [List.set_cons_succ]); (try simp only [List.set_cons_zero])
          refine tkV (i := 7) (d := some 25) (v := ?_) rfl (by kernel_rfl) (by kernel_rfl) (by kernel_rfl) rfl (fun _ _ _ h => h) (by rfl) ?_ (by assumption) ?_
          rotate_left
          · (intro w hSw; (try dsimp only at hSw); (try simp only [List.getElem_toArray, List.getElem_cons_zero, List.getElem_cons_succ]); go_simp; try with_reducible rfl)
          try simp only [Act.put, List.setIfInBounds_toArray, List.set_cons_zero, List.set_cons_succ]
          refine wpAnyH_ready (rs := [8]) (by kernel_rfl) (by simp) (AllReadyH.cons rfl (fun K hK => ?_) AllReadyH.nil)
          try simp only [List.getElem_toArray, List.getElem_cons_zero, List.getElem_cons_succ]
          go_simp
          refine hK.out _ _ trivial (fun hHeld8 => ?_)
          clear hK K
          (try simp only [Act.put]); (try simp only [List.setIfInBounds_toArray]); (try simp only [List.set_cons_succ]); (try simp only [List.set_cons_zero])
          refine tkV (i := 9) (d := some 6) (v := ?_) rfl (by kernel_rfl) (by kernel_rfl) (by kernel_rfl) rfl (fun _ _ _ h => h) (by rfl) ?_ (by assumption) ?_
          rotate_left
          · (intro w hSw; (try dsimp only at hSw); (try simp only [List.getElem_toArray, List.getElem_cons_zero, List.getElem_cons_succ]); go_simp; try with_reducible rfl)
          try simp only [Act.put, List.setIfInBounds_toArray, List.set_cons_zero, List.set_cons_succ]
          refine wpAnyH_done (by kernel_rfl) ?_ _
          refine NoPanic.normal ?_
          have hbx : Below v2.heap.size v2 (v2.alloc (.cells #[.slice (some ⟨w0.drew.heap.size, 0, none⟩) Le.length Le.length, .map (some v6.heap.size), .slice none 0 0, .slice (some ⟨g4, 0, none⟩) ((Le.length + 511) / 512) ((Le.length + 511) / 512), .slice (some ⟨g6, 0, none⟩) ((Le.length + 511) / 512) ((Le.length + 511) / 512)] 58)) := (Below.refl _ _).alloc (Nat.le_refl _) _
          have hz1 := hb1.size
          have hz4 := hb4.size
          have hz6 := hb6.size
          have hz2 := hb2.size
          have hq1 := h1.lt
          have hq2 := h2.lt
          have hq4 := h4.lt
          have hq6 := h6.lt
          have hd0 : w0.drew.heap.size = w0.heap.size := rfl
          have hbd : Below w0.heap.size w0 w0.drew := ⟨rfl, rfl, rfl, Nat.le_refl _, fun _ _ => rfl⟩
          exact H _ _ _ _ _ _ ⟨heap_alloc_new _ _, ((((h1.below hb4).below hb6).below hb2).below hbx), (h2.below hbx), (((h4.below hb6).below hb2).below hbx), ((h6.below hb2).below hbx), (Below.later (Below.later (Below.later (Below.later (Below.later hbd hb1) hb4) hb6) hb2) hbx), ⟨by omega, by omega, by omega, by omega, by omega⟩, ⟨by omega, by omega, by omega, by omega, by omega, by omega, by omega, by omega, by omega, by omega⟩⟩
    · obtain ⟨v2, hrun, h2, hb2⟩ := make_map w0.drew
      try simp only [List.getElem_toArray, List.getElem_cons_zero, List.getElem_cons_succ]
      go_simp
      clear hrun
      refine hK.out _ _ trivial (fun hHeld2 => ?_)
      clear hK K
      (try simp only [Act.put]); (try simp only [List.setIfInBounds_toArray]); (try simp only [List.set_cons_succ]); (try simp only [List.set_cons_zero])
      refine wpAnyH_ready (rs := [1, 4]) (by kernel_rfl) (by simp) (AllReadyH.cons rfl (fun K hK => ?_) (AllReadyH.cons rfl (fun K hK => ?_) AllReadyH.nil))
      · obtain ⟨v1, hrun, h1, hb1⟩ := make_rows Le.length v2 hl1
        try simp only [List.getElem_toArray, List.getElem_cons_zero, List.getElem_cons_succ]
        go_simp
        clear hrun
        refine hK.out _ _ trivial (fun hHeld1 => ?_)
        clear hK K
        (try simp only [Act.put]); (try simp only [List.setIfInBounds_toArray]); (try simp only [List.set_cons_succ]); (try simp only [List.set_cons_zero])
        refine wpAnyH_ready (rs := [4]) (by kernel_rfl) (by simp) (AllReadyH.cons rfl (fun K hK => ?_) AllReadyH.nil)
        try simp only [List.getElem_toArray, List.getElem_cons_zero, List.getElem_cons_succ]
        go_simp
        refine (roomFor_any Le.length v1 hl8).mono ?_
        rintro e v4 ⟨g4, rfl, hlo4, h4, hb4⟩
        go_wp2_with fail
        refine hK.out _ _ trivial (fun hHeld4 => ?_)
        clear hK K
        (try simp only [Act.put]); (try simp only [List.setIfInBounds_toArray]); (try simp only [List.set_cons_succ]); (try simp only [List.set_cons_zero])
        refine wpAnyH_ready (rs := [6]) (by kernel_rfl) (by simp) (AllReadyH.cons rfl (fun K hK => ?_) AllReadyH.nil)
        try simp only [List.getElem_toArray, List.getElem_cons_zero, List.getElem_cons_succ]
        go_simp
        refine (roomFor_any Le.length v4 hl8).mono ?_
        rintro e v6 ⟨g6, rfl, hlo6, h6, hb6⟩
        go_wp2_with fail
        refine hK.out _ _ trivial (fun hHeld6 => ?_)
        clear hK K
        (try simp only [Act.put]); (try simp only [List.setIfInBounds_toArray]); (try simp only [List.set_cons_succ]); (try simp only [List.set_cons_zero])
        refine tkV (i := 7) (d := some 25) (v := ?_) rfl (by kernel_rfl) (by kernel_rfl) (by kernel_rfl) rfl (fun _ _ _ h => h) (by rfl) ?_ (by assumption) ?_
        rotate_left
        · (intro w hSw; (try dsimp only at hSw); (try simp only [List.getElem_toArray, List.getElem_cons_zero, List.getElem_cons_succ]); go_simp; try with_reducible rfl)
        try simp only [Act.put, List.setIfInBounds_toArray, List.set_cons_zero, List.set_cons_succ]
        refine wpAnyH_ready (rs := [8]) (by kernel_rfl) (by simp) (AllReadyH.cons rfl (fun K hK => ?_) AllReadyH.nil)
        try simp only [List.getElem_toArray, List.getElem_cons_zero, List.getElem_cons_succ]
        go_simp
        refine hK.out _ _ trivial (fun hHeld8 => ?_)
        clear hK K
        (try simp only [Act.put]); (try simp only [List.setIfInBounds_toArray]); (try simp only [List.set_cons_succ]); (try simp only [List.set_cons_zero])
        refine tkV (i := 9) (d := some 6) (v := ?_) rfl (by kernel_rfl) (by kernel_rfl) (by kernel_rfl) rfl (fun _ _ _ h => h) (by rfl) ?_ (by assumption) ?_
        rotate_left
        · (intro w hSw; (try dsimp only at hSw); (try simp only [List.getElem_toArray, List.getElem_cons_zero, List.getElem_cons_succ]); go_simp; try with_reducible rfl)
        try simp only [Act.put, List.setIfInBounds_toArray, List.set_cons_zero, List.set_cons_succ]
        refine wpAnyH_done (by kernel_rfl) ?_ _
        refine NoPanic.normal ?_
        have hbx : Below v6.heap.size v6 (v6.alloc (.cells #[.slice (some ⟨v2.heap.size, 0, none⟩) Le.length Le.length, .map (some w0.drew.heap.size), .slice none 0 0, .slice (some ⟨g4, 0, none⟩) ((Le.length + 511) / 512) ((Le.length + 511) / 512), .slice (some ⟨g6, 0, none⟩) ((Le.length + 511) / 512) ((Le.length + 511) / 512)] 58)) := (Below.refl _ _).alloc (Nat.le_refl _) _
        have hz2 := hb2.size
        have hz1 := hb1.size
        have hz4 := hb4.size
        have hz6 := hb6.size
        have hq1 := h1.lt
        have hq2 := h2.lt
        have hq4 := h4.lt
        have hq6 := h6.lt
        have hd0 : w0.drew.heap.size = w0.heap.size := rfl
        have hbd : Below w0.heap.size w0 w0.drew := ⟨rfl, rfl, rfl, Nat.le_refl _, fun _ _ => rfl⟩
        exact H _ _ _ _ _ _ ⟨heap_alloc_new _ _, (((h1.below hb4).below hb6).below hbx), ((((h2.below hb1).below hb4).below hb6).below hbx), ((h4.below hb6).below hbx), (h6.below hbx), (Below.later (Below.later (Below.later (Below.later (Below.later hbd hb2) hb1) hb4) hb6) hbx), ⟨by omega, by omega, by omega, by omega, by omega⟩, ⟨by omega, by omega, by omega, by omega, by omega, by omega, by omega, by omega, by omega, by omega⟩⟩
      · try simp only [List.getElem_toArray, List.getElem_cons_zero, List.getElem_cons_succ]
        go_simp
        refine (roomFor_any Le.length v2 hl8).mono ?_
        rintro e v4 ⟨g4, rfl, hlo4, h4, hb4⟩
        go_wp2_with fail
        refine hK.out _ _ trivial (fun hHeld4 => ?_)
        clear hK K
        (try simp only [Act.put]); (try simp only [List.setIfInBounds_toArray]); (try simp only [List.set_cons_succ]); (try simp only [List.set_cons_zero])
        refine wpAnyH_ready (rs := [1, 6]) (by kernel_rfl) (by simp) (AllReadyH.cons rfl (fun K hK => ?_) (AllReadyH.cons rfl (fun K hK => ?_) AllReadyH.nil))
        · obtain ⟨v1, hrun, h1, hb1⟩ := make_rows Le.length v4 hl1
          try simp only [List.getElem_toArray, List.getElem_cons_zero, List.getElem_cons_succ]
          go_simp
          clear hrun
          refine hK.out _ _ trivial (fun hHeld1 => ?_)
          clear hK K
          (try simp only [Act.put]); (try simp only [List.setIfInBounds_toArray]); (try simp only [List.set_cons_succ]); (try simp only [List.set_cons_zero])
          refine wpAnyH_ready (rs := [6]) (by kernel_rfl) (by simp) (AllReadyH.cons rfl (fun K hK => ?_) AllReadyH.nil)
          try simp only [List.getElem_toArray, List.getElem_cons_zero, List.getElem_cons_succ]
          go_simp
          refine (roomFor_any Le.length v1 hl8).mono ?_
          rintro e v6 ⟨g6, rfl, hlo6, h6, hb6⟩
          go_wp2_with fail
          refine hK.out _ _ trivial (fun hHeld6 => ?_)
          clear hK K
          (try simp only [Act.put]); (try simp only [List.setIfInBounds_toArray]); (try simp only [List.set_cons_succ]); (try simp only [List.set_cons_zero])
          refine tkV (i := 7) (d := some 25) (v := ?_) rfl (by kernel_rfl) (by kernel_rfl) (by kernel_rfl) rfl (fun _ _ _ h => h) (by rfl) ?_ (by assumption) ?_
          rotate_left
          · (intro w hSw; (try dsimp only at hSw); (try simp only [List.getElem_toArray, List.getElem_cons_zero, List.getElem_cons_succ]); go_simp; try with_reducible rfl)
          try simp only [Act.put, List.setIfInBounds_toArray, List.set_cons_zero, List.set_cons_succ]
          refine wpAnyH_ready (rs := [8]) (by kernel_rfl) (by simp) (AllReadyH.cons rfl (fun K hK => ?_) AllReadyH.nil)
          try simp only [List.getElem_toArray, List.getElem_cons_zero, List.getElem_cons_succ]
          go_simp
          refine hK.out _ _ trivial (fun hHeld8 => ?_)
          clear hK K
          (try simp only [Act.put]); (try simp only [List.setIfInBounds_toArray]); (try simp only [List.set_cons_succ]); (try simp only [List.set_cons_zero])
          refine tkV (i := 9) (d := some 6) (v := ?_) rfl (by kernel_rfl) (by kernel_rfl) (by kernel_rfl) rfl (fun _ _ _ h => h) (by rfl) ?_ (by assumption) ?_
          rotate_left
          · (intro w hSw; (try dsimp only at hSw); (try simp only [List.getElem_toArray, List.getElem_cons_zero, List.getElem_cons_succ]); go_simp; try with_reducible rfl)
          try simp only [Act.put, List.setIfInBounds_toArray, List.set_cons_zero, List.set_cons_succ]
          refine wpAnyH_done (by kernel_rfl) ?_ _
          refine NoPanic.normal ?_
          have hbx : Below v6.heap.size v6 (v6.alloc (.cells #[.slice (some ⟨v4.heap.size, 0, none⟩) Le.length Le.length, .map (some w0.drew.heap.size), .slice none 0 0, .slice (some ⟨g4, 0, none⟩) ((Le.length + 511) / 512) ((Le.length + 511) / 512), .slice (some ⟨g6, 0, none⟩) ((Le.length + 511) / 512) ((Le.length + 511) / 512)] 58)) := (Below.refl _ _).alloc (Nat.le_refl _) _
          have hz2 := hb2.size
          have hz4 := hb4.size
          have hz1 := hb1.size
          have hz6 := hb6.size
          have hq1 := h1.lt
          have hq2 := h2.lt
          have hq4 := h4.lt
          have hq6 := h6.lt
          have hd0 : w0.drew.heap.size = w0.heap.size := rfl
          have hbd : Below w0.heap.size w0 w0.drew := ⟨rfl, rfl, rfl, Nat.le_refl _, fun _ _ => rfl⟩
          exact H _ _ _ _ _ _ ⟨heap_alloc_new _ _, ((h1.below hb6).below hbx), ((((h2.below hb4).below hb1).below hb6).below hbx), (((h4.below hb1).below hb6).below hbx), (h6.below hbx), (Below.later (Below.later (Below.later (Below.later (Below.later hbd hb2) hb4) hb1) hb6) hbx), ⟨by omega, by omega, by omega, by omega, by omega⟩, ⟨by omega, by omega, by omega, by omega, by omega, by omega, by omega, by omega, by omega, by omega⟩⟩
        · try simp only [List.getElem_toArray, List.getElem_cons_zero, List.getElem_cons_succ]
          go_simp
          refine (roomFor_any Le.length v4 hl8).mono ?_
          rintro e v6 ⟨g6, rfl, hlo6, h6, hb6⟩
          go_wp2_with fail
          refine hK.out _ _ trivial (fun hHeld6 => ?_)
          clear hK K
          (try simp only [Act.put]); (try simp only [List.setIfInBounds_toArray]); (try simp only [List.set_cons_succ]); (try simp only [List.set_cons_zero])
          refine wpAnyH_ready (rs := [1]) (by kernel_rfl) (by simp) (AllReadyH.cons rfl (fun K hK => ?_) AllReadyH.nil)
          obtain ⟨v1, hrun, h1, hb1⟩ := make_rows Le.length v6 hl1
          try simp only [List.getElem_toArray, List.getElem_cons_zero, List.getElem_cons_succ]
          go_simp
          clear hrun
          refine hK.out _ _ trivial (fun hHeld1 => ?_)
          clear hK K
          (try simp only [Act.put]); (try simp only [List.setIfInBounds_toArray]); (try simp only [List.set_cons_succ]); (try simp only [List.set_cons_zero])
          refine tkV (i := 7) (d := some 25) (v := ?_) rfl (by kernel_rfl) (by kernel_rfl) (by kernel_rfl) rfl (fun _ _ _ h => h) (by rfl) ?_ (by assumption) ?_
          rotate_left
          · (intro w hSw; (try dsimp only at hSw); (try simp only [List.getElem_toArray, List.getElem_cons_zero, List.getElem_cons_succ]); go_simp; try with_reducible rfl)
          try simp only [Act.put, List.setIfInBounds_toArray, List.set_cons_zero, List.set_cons_succ]
          refine wpAnyH_ready (rs := [8]) (by kernel_rfl) (by simp) (AllReadyH.cons rfl (fun K hK => ?_) AllReadyH.nil)
          try simp only [List.getElem_toArray, List.getElem_cons_zero, List.getElem_cons_succ]
          go_simp
          refine hK.out _ _ trivial (fun hHeld8 => ?_)
          clear hK K
          (try simp only [Act.put]); (try simp only [List.setIfInBounds_toArray]); (try simp only [List.set_cons_succ]); (try simp only [List.set_cons_zero])
          refine tkV (i := 9) (d := some 6) (v := ?_) rfl (by kernel_rfl) (by kernel_rfl) (by kernel_rfl) rfl (fun _ _ _ h => h) (by rfl) ?_ (by assumption) ?_
          rotate_left
          · (intro w hSw; (try dsimp only at hSw); (try simp only [List.getElem_toArray, List.getElem_cons_zero, List.getElem_cons_succ]); go_simp; try with_reducible rfl)
          try simp only [Act.put, List.setIfInBounds_toArray, List.set_cons_zero, List.set_cons_succ]
          refine wpAnyH_done (by kernel_rfl) ?_ _
          refine NoPanic.normal ?_
          have hbx : Below v1.heap.size v1 (v1.alloc (.cells #[.slice (some ⟨v6.heap.size, 0, none⟩) Le.length Le.length, .map (some w0.drew.heap.size), .slice none 0 0, .slice (some ⟨g4, 0, none⟩) ((Le.length + 511) / 512) ((Le.length + 511) / 512), .slice (some ⟨g6, 0, none⟩) ((Le.length + 511) / 512) ((Le.length + 511) / 512)] 58)) := (Below.refl _ _).alloc (Nat.le_refl _) _
          have hz2 := hb2.size
          have hz4 := hb4.size
          have hz6 := hb6.size
          have hz1 := hb1.size
          have hq1 := h1.lt
          have hq2 := h2.lt
          have hq4 := h4.lt
          have hq6 := h6.lt
          have hd0 : w0.drew.heap.size = w0.heap.size := rfl
          have hbd : Below w0.heap.size w0 w0.drew := ⟨rfl, rfl, rfl, Nat.le_refl _, fun _ _ => rfl⟩
          exact H _ _ _ _ _ _ ⟨heap_alloc_new _ _, (h1.below hbx), ((((h2.below hb4).below hb6).below hb1).below hbx), (((h4.below hb6).below hb1).below hbx), ((h6.below hb1).below hbx), (Below.later (Below.later (Below.later (Below.later (Below.later hbd hb2) hb4) hb6) hb1) hbx), ⟨by omega, by omega, by omega, by omega, by omega⟩, ⟨by omega, by omega, by omega, by omega, by omega, by omega, by omega, by omega, by omega, by omega⟩⟩
    · try simp only [List.getElem_toArray, List.getElem_cons_zero, List.getElem_cons_succ]
      go_simp
      refine (roomFor_any Le.length w0.drew hl8).mono ?_
      rintro e v4 ⟨g4, rfl, hlo4, h4, hb4⟩
      go_wp2_with fail
      refine hK.out _ _ trivial (fun hHeld4 => ?_)
      clear hK K
      (try simp only [Act.put]); (try simp only [List.setIfInBounds_toArray]); (try simp only [List.set_cons_succ]); (try simp only [List.set_cons_zero])
      refine wpAnyH_ready (rs := [1, 2, 6]) (by kernel_rfl) (by simp) (AllReadyH.cons rfl (fun K hK => ?_) (AllReadyH.cons rfl (fun K hK => ?_) (AllReadyH.cons rfl (fun K hK => ?_) AllReadyH.nil)))
      · obtain ⟨v1, hrun, h1, hb1⟩ := make_rows Le.length v4 hl1
        try simp only [List.getElem_toArray, List.getElem_cons_zero, List.getElem_cons_succ]
        go_simp
        clear hrun
        refine hK.out _ _ trivial (fun hHeld1 => ?_)
        clear hK K
        (try simp only [Act.put]); (try simp only [List.setIfInBounds_toArray]); (try simp only [List.set_cons_succ]); (try simp only [List.set_cons_zero])
        refine wpAnyH_ready (rs := [2, 6]) (by kernel_rfl) (by simp) (AllReadyH.cons rfl (fun K hK => ?_) (AllReadyH.cons rfl (fun K hK => ?_) AllReadyH.nil))
        · obtain ⟨v2, hrun, h2, hb2⟩ := make_map v1
          try simp only [List.getElem_toArray, List.getElem_cons_zero, List.getElem_cons_succ]
          go_simp
          clear hrun
          refine hK.out _ _ trivial (fun hHeld2 => ?_)
          clear hK K
          (try simp only [Act.put]); (try simp only [List.setIfInBounds_toArray]); (try simp only [List.set_cons_succ]); (try simp only [List.set_cons_zero])
          refine wpAnyH_ready (rs := [6]) (by kernel_rfl) (by simp) (AllReadyH.cons rfl (fun K hK => ?_) AllReadyH.nil)
          try simp only [List.getElem_toArray, List.getElem_cons_zero, List.getElem_cons_succ]
          go_simp
          refine (roomFor_any Le.length v2 hl8).mono ?_
          rintro e v6 ⟨g6, rfl, hlo6, h6, hb6⟩
          go_wp2_with fail
          refine hK.out _ _ trivial (fun hHeld6 => ?_)
          clear hK K
          (try simp only [Act.put]); (try simp only [List.setIfInBounds_toArray]); (try simp only [List.set_cons_succ]); (try simp only [List.set_cons_zero])
          refine tkV (i := 7) (d := some 25) (v := ?_) rfl (by kernel_rfl) (by kernel_rfl) (by kernel_rfl) rfl (fun _ _ _ h => h) (by rfl) ?_ (by assumption) ?_
          rotate_left
          · (intro w hSw; (try dsimp only at hSw); (try simp only [List.getElem_toArray, List.getElem_cons_zero, List.getElem_cons_succ]); go_simp; try with_reducible rfl)
          try simp only [Act.put, List.setIfInBounds_toArray, List.set_cons_zero, List.set_cons_succ]
          refine wpAnyH_ready (rs := [8]) (by kernel_rfl) (by simp) (AllReadyH.cons rfl (fun K hK => ?_) AllReadyH.nil)
          try simp only [List.getElem_toArray, List.getElem_cons_zero, List.getElem_cons_succ]
          go_simp
          refine hK.out _ _ trivial (fun hHeld8 => ?_)
          clear hK K
          (try simp only [Act.put]); (try simp only [List.setIfInBounds_toArray]); (try simp only [List.set_cons_succ]); (try simp only [List.set_cons_zero])
          refine tkV (i := 9) (d := some 6) (v := ?_) rfl (by kernel_rfl) (by kernel_rfl) (by kernel_rfl) rfl (fun _ _ _ h => h) (by rfl) ?_ (by assumption) ?_
          rotate_left
          · (intro w hSw; (try dsimp only at hSw); (try simp only [List.getElem_toArray, List.getElem_cons_zero, List.getElem_cons_succ]); go_simp; try with_reducible rfl)
          try simp only [Act.put, List.setIfInBounds_toArray, List.set_cons_zero, List.set_cons_succ]
          refine wpAnyH_done (by kernel_rfl) ?_ _
          refine NoPanic.normal ?_
          have hbx : Below v6.heap.size v6 (v6.alloc (.cells #[.slice (some ⟨v4.heap.size, 0, none⟩) Le.length Le.length, .map (some v1.heap.size), .slice none 0 0, .slice (some ⟨g4, 0, none⟩) ((Le.length + 511) / 512) ((Le.length + 511) / 512), .slice (some ⟨g6, 0, none⟩) ((Le.length + 511) / 512) ((Le.length + 511) / 512)] 58)) := (Below.refl _ _).alloc (Nat.le_refl _) _
          have hz4 := hb4.size
          have hz1 := hb1.size
          have hz2 := hb2.size
          have hz6 := hb6.size
          have hq1 := h1.lt
          have hq2 := h2.lt
          have hq4 := h4.lt
          have hq6 := h6.lt
          have hd0 : w0.drew.heap.size = w0.heap.size := rfl
          have hbd : Below w0.heap.size w0 w0.drew := ⟨rfl, rfl, rfl, Nat.le_refl _, fun _ _ => rfl⟩
          exact H _ _ _ _ _ _ ⟨heap_alloc_new _ _, (((h1.below hb2).below hb6).below hbx), ((h2.below hb6).below hbx), ((((h4.below hb1).below hb2).below hb6).below hbx), (h6.below hbx), (Below.later (Below.later (Below.later (Below.later (Below.later hbd hb4) hb1) hb2) hb6) hbx), ⟨by omega, by omega, by omega, by omega, by omega⟩, ⟨by omega, by omega, by omega, by omega, by omega, by omega, by omega, by omega, by omega, by omega⟩⟩
        · try simp only [List.getElem_toArray, List.getElem_cons_zero, List.getElem_cons_succ]
          go_simp
          refine (roomFor_any Le.length v1 hl8).mono ?_
          rintro e v6 ⟨g6, rfl, hlo6, h6, hb6⟩
          go_wp2_with fail
          refine hK.out _ _ trivial (fun hHeld6 => ?_)
          clear hK K
          (try simp only [Act.put]); (try simp only [List.setIfInBounds_toArray]); (try simp only [List.set_cons_succ]); (try simp only [List.set_cons_zero])
          refine wpAnyH_ready (rs := [2]) (by kernel_rfl) (by simp) (AllReadyH.cons rfl (fun K hK => ?_) AllReadyH.nil)
          obtain ⟨v2, hrun, h2, hb2⟩ := make_map v6
          try simp only [List.getElem_toArray, List.getElem_cons_zero, List.getElem_cons_succ]
          go_simp
          clear hrun
          refine hK.out _ _ trivial (fun hHeld2 => ?_)
          clear hK K
          (try simp only [Act.put]); (try simp only [List.setIfInBounds_toArray]); (try simp only [List.set_cons_succ]); (try simp only [List.set_cons_zero])
          refine tkV (i := 7) (d := some 25) (v := ?_) rfl (by kernel_rfl) (by kernel_rfl) (by kernel_rfl) rfl (fun _ _ _ h => h) (by rfl) ?_ (by assumption) ?_
          rotate_left
          · (intro w hSw; (try dsimp only at hSw); (try simp only [List.getElem_toArray, List.getElem_cons_zero, List.getElem_cons_succ]); go_simp; try with_reducible rfl)
          try simp only [Act.put, List.setIfInBounds_toArray, List.set_cons_zero, List.set_cons_succ]
          refine wpAnyH_ready (rs := [8]) (by kernel_rfl) (by simp) (AllReadyH.cons rfl (fun K hK => ?_) AllReadyH.nil)
          try simp only [List.getElem_toArray, List.getElem_cons_zero, List.getElem_cons_succ]
          go_simp
          refine hK.out _ _ trivial (fun hHeld8 => ?_)
          clear hK K
          (try simp only [Act.put]); (try simp only [List.setIfInBounds_toArray]); (try simp only [List.set_cons_succ]); (try simp only [List.set_cons_zero])
          refine tkV (i := 9) (d := some 6) (v := ?_) rfl (by kernel_rfl) (by kernel_rfl) (by kernel_rfl) rfl (fun _ _ _ h => h) (by rfl) ?_ (by assumption) ?_
          rotate_left
          · (intro w hSw; (try dsimp only at hSw); (try simp only [List.getElem_toArray, List.getElem_cons_zero, List.getElem_cons_succ]); go_simp; try with_reducible rfl)
          try simp only [Act.put, List.setIfInBounds_toArray, List.set_cons_zero, List.set_cons_succ]
          refine wpAnyH_done (by kernel_rfl) ?_ _
          refine NoPanic.normal ?_
          have hbx : Below v2.heap.size v2 (v2.alloc (.cells #[.slice (some ⟨v4.heap.size, 0, none⟩) Le.length Le.length, .map (some v6.heap.size), .slice none 0 0, .slice (some ⟨g4, 0, none⟩) ((Le.length + 511) / 512) ((Le.length + 511) / 512), .slice (some ⟨g6, 0, none⟩) ((Le.length + 511) / 512) ((Le.length + 511) / 512)] 58)) := (Below.refl _ _).alloc (Nat.le_refl _) _
          have hz4 := hb4.size
          have hz1 := hb1.size
          have hz6 := hb6.size
          have hz2 := hb2.size
          have hq1 := h1.lt
          have hq2 := h2.lt
          have hq4 := h4.lt
          have hq6 := h6.lt
          have hd0 : w0.drew.heap.size = w0.heap.size := rfl
          have hbd : Below w0.heap.size w0 w0.drew := ⟨rfl, rfl, rfl, Nat.le_refl _, fun _ _ => rfl⟩
          exact H _ _ _ _ _ _ ⟨heap_alloc_new _ _, (((h1.below hb6).below hb2).below hbx), (h2.below hbx), ((((h4.below hb1).below hb6).below hb2).below hbx), ((h6.below hb2).below hbx), (Below.later (Below.later (Below.later (Below.later (Below.later hbd hb4) hb1) hb6) hb2) hbx), ⟨by omega, by omega, by omega, by omega, by omega⟩, ⟨by omega, by omega, by omega, by omega, by omega, by omega, by omega, by omega, by omega, by omega⟩⟩
      · obtain ⟨v2, hrun, h2, hb2⟩ := make_map v4
        try simp only [List.getElem_toArray, List.getElem_cons_zero, List.getElem_cons_succ]
        go_simp
        clear hrun
        refine hK.out _ _ trivial (fun hHeld2 => ?_)
        clear hK K
        (try simp only [Act.put]); (try simp only [List.setIfInBounds_toArray]); (try simp only [List.set_cons_succ]); (try simp only [List.set_cons_zero])
        refine wpAnyH_ready (rs := [1, 6]) (by kernel_rfl) (by simp) (AllReadyH.cons rfl (fun K hK => ?_) (AllReadyH.cons rfl (fun K hK => ?_) AllReadyH.nil))
        · obtain ⟨v1, hrun, h1, hb1⟩ := make_rows Le.length v2 hl1
          try simp only [List.getElem_toArray, List.getElem_cons_zero, List.getElem_cons_succ]
          go_simp
          clear hrun
          refine hK.out _ _ trivial (fun hHeld1 => ?_)
          clear hK K
          (try simp only [Act.put]); (try simp only [List.setIfInBounds_toArray]); (try simp only [List.set_cons_succ]); (try simp only [List.set_cons_zero])
          refine wpAnyH_ready (rs := [6]) (by kernel_rfl) (by simp) (AllReadyH.cons rfl (fun K hK => ?_) AllReadyH.nil)
          try simp only [List.getElem_toArray, List.getElem_cons_zero, List.getElem_cons_succ]
          go_simp
          refine (roomFor_any Le.length v1 hl8).mono ?_
          rintro e v6 ⟨g6, rfl, hlo6, h6, hb6⟩
          go_wp2_with fail
          refine hK.out _ _ trivial (fun hHeld6 => ?_)
          clear hK K
          (try simp only [Act.put]); (try simp only [List.setIfInBounds_toArray]); (try simp only [List.set_cons_succ]); (try simp only [List.set_cons_zero])
          refine tkV (i := 7) (d := some 25) (v := ?_) rfl (by kernel_rfl) (by kernel_rfl) (by kernel_rfl) rfl (fun _ _ _ h => h) (by rfl) ?_ (by assumption) ?_
          rotate_left
          · (intro w hSw; (try dsimp only at hSw); (try simp only [List.getElem_toArray, List.getElem_cons_zero, List.getElem_cons_succ]); go_simp; try with_reducible rfl)
          try simp only [Act.put, List.setIfInBounds_toArray, List.set_cons_zero, List.set_cons_succ]
          refine wpAnyH_ready (rs := [8]) (by kernel_rfl) (by simp) (AllReadyH.cons rfl (fun K hK => ?_) AllReadyH.nil)
          try simp only [List.getElem_toArray, List.getElem_cons_zero, List.getElem_cons_succ]
          go_simp
          refine hK.out _ _ trivial (fun hHeld8 => ?_)
          clear hK K
          (try simp only [Act.put]); (try simp only [List.setIfInBounds_toArray]); (try simp only [List.set_cons_succ]); (try simp only [List.set_cons_zero])
          refine tkV (i := 9) (d := some 6) (v := ?_) rfl (by kernel_rfl) (by kernel_rfl) (by kernel_rfl) rfl (fun _ _ _ h => h) (by rfl) ?_ (by assumption) ?_
          rotate_left
          · (intro w hSw; (try dsimp only at hSw); (try simp only [List.getElem_toArray, List.getElem_cons_zero, List.getElem_cons_succ]); go_simp; try with_reducible rfl)
          try simp only [Act.put, List.setIfInBounds_toArray, List.set_cons_zero, List.set_cons_succ]
          refine wpAnyH_done (by kernel_rfl) ?_ _
          refine NoPanic.normal ?_
          have hbx : Below v6.heap.size v6 (v6.alloc (.cells #[.slice (some ⟨v2.heap.size, 0, none⟩) Le.length Le.length, .map (some v4.heap.size), .slice none 0 0, .slice (some ⟨g4, 0, none⟩) ((Le.length + 511) / 512) ((Le.length + 511) / 512), .slice (some ⟨g6, 0, none⟩) ((Le.length + 511) / 512) ((Le.length + 511) / 512)] 58)) := (Below.refl _ _).alloc (Nat.le_refl _) _
          have hz4 := hb4.size
          have hz2 := hb2.size
          have hz1 := hb1.size
          have hz6 := hb6.size
          have hq1 := h1.lt
          have hq2 := h2.lt
          have hq4 := h4.lt
          have hq6 := h6.lt
          have hd0 : w0.drew.heap.size = w0.heap.size := rfl
          have hbd : Below w0.heap.size w0 w0.drew := ⟨rfl, rfl, rfl, Nat.le_refl _, fun _ _ => rfl⟩
          exact H _ _ _ _ _ _ ⟨heap_alloc_new _ _, ((h1.below hb6).below hbx), (((h2.below hb1).below hb6).below hbx), ((((h4.below hb2).below hb1).below hb6).below hbx), (h6.below hbx), (Below.later (Below.later (Below.later (Below.later (Below.later hbd hb4) hb2) hb1) hb6) hbx), ⟨by omega, by omega, by omega, by omega, by omega⟩, ⟨by omega, by omega, by omega, by omega, by omega, by omega, by omega, by omega, by omega, by omega⟩⟩
        · try simp only [List.getElem_toArray, List.getElem_cons_zero, List.getElem_cons_succ]
          go_simp
          refine (roomFor_any Le.length v2 hl8).mono ?_
          rintro e v6 ⟨g6, rfl, hlo6, h6, hb6⟩
          go_wp2_with fail
          refine hK.out _ _ trivial (fun hHeld6 => ?_)
          clear hK K
          (try simp only [Act.put]); (try simp only [List.setIfInBounds_toArray]); (try simp only [List.set_cons_succ]); (try simp only [List.set_cons_zero])
          refine wpAnyH_ready (rs := [1]) (by kernel_rfl) (by simp) (AllReadyH.cons rfl (fun K hK => ?_) AllReadyH.nil)
          obtain ⟨v1, hrun, h1, hb1⟩ := make_rows Le.length v6 hl1
          try simp only [List.getElem_toArray, List.getElem_cons_zero, List.getElem_cons_succ]
          go_simp
          clear hrun
          refine hK.out _ _ trivial (fun hHeld1 => ?_)
          clear hK K
          (try simp only [Act.put]); (try simp only [List.setIfInBounds_toArray]); (try simp only [List.set_cons_succ]); (try simp only [List.set_cons_zero])
          refine tkV (i := 7) (d := some 25) (v := ?_) rfl (by kernel_rfl) (by kernel_rfl) (by kernel_rfl) rfl (fun _ _ _ h => h) (by rfl) ?_ (by assumption) ?_
          rotate_left
          · (intro w hSw; (try dsimp only at hSw); (try simp only [List.getElem_toArray, List.getElem_cons_zero, List.getElem_cons_succ]); go_simp; try with_reducible rfl)
          try simp only [Act.put, List.setIfInBounds_toArray, List.set_cons_zero, List.set_cons_succ]
          refine wpAnyH_ready (rs := [8]) (by kernel_rfl) (by simp) (AllReadyH.cons rfl (fun K hK => ?_) AllReadyH.nil)
          try simp only [List.getElem_toArray, List.getElem_cons_zero, List.getElem_cons_succ]
          go_simp
          refine hK.out _ _ trivial (fun hHeld8 => ?_)
          clear hK K
          (try simp only [Act.put]); (try simp only [List.setIfInBounds_toArray]); (try simp only [List.set_cons_succ]); (try simp only [List.set_cons_zero])
          refine tkV (i := 9) (d := some 6) (v := ?_) rfl (by kernel_rfl) (by kernel_rfl) (by kernel_rfl) rfl (fun _ _ _ h => h) (by rfl) ?_ (by assumption) ?_
          rotate_left
          · (intro w hSw; (try dsimp only at hSw); (try simp only [List.getElem_toArray, List.getElem_cons_zero, List.getElem_cons_succ]); go_simp; try with_reducible rfl)
          try simp only [Act.put, List.setIfInBounds_toArray, List.set_cons_zero, List.set_cons_succ]
          refine wpAnyH_done (by kernel_rfl) ?_ _
          refine NoPanic.normal ?_
          have hbx : Below v1.heap.size v1 (v1.alloc (.cells #[.slice (some ⟨v6.heap.size, 0, none⟩) Le.length Le.length, .map (some v4.heap.size), .slice none 0 0, .slice (some ⟨g4, 0, none⟩) ((Le.length + 511) / 512) ((Le.length + 511) / 512), .slice (some ⟨g6, 0, none⟩) ((Le.length + 511) / 512) ((Le.length + 511) / 512)] 58)) := (Below.refl _ _).alloc (Nat.le_refl _) _
          have hz4 := hb4.size
          have hz2 := hb2.size
          have hz6 := hb6.size
          have hz1 := hb1.size
          have hq1 := h1.lt
          have hq2 := h2.lt
          have hq4 := h4.lt
          have hq6 := h6.lt
          have hd0 : w0.drew.heap.size = w0.heap.size := rfl
          have hbd : Below w0.heap.size w0 w0.drew := ⟨rfl, rfl, rfl, Nat.le_refl _, fun _ _ => rfl⟩
          exact H _ _ _ _ _ _ ⟨heap_alloc_new _ _, (h1.below hbx), (((h2.below hb6).below hb1).below hbx), ((((h4.below hb2).below hb6).below hb1).below hbx), ((h6.below hb1).below hbx), (Below.later (Below.later (Below.later (Below.later (Below.later hbd hb4) hb2) hb6) hb1) hbx), ⟨by omega, by omega, by omega, by omega, by omega⟩, ⟨by omega, by omega, by omega, by omega, by omega, by omega, by omega, by omega, by omega, by omega⟩⟩
      · try simp only [List.getElem_toArray, List.getElem_cons_zero, List.getElem_cons_succ]
        go_simp
        refine (roomFor_any Le.length v4 hl8).mono ?_
        rintro e v6 ⟨g6, rfl, hlo6, h6, hb6⟩
        go_wp2_with fail
        refine hK.out _ _ trivial (fun hHeld6 => ?_)
        clear hK K
        (try simp only [Act.put]); (try simp only [List.setIfInBounds_toArray]); (try simp only [List.set_cons_succ]); (try simp only [List.set_cons_zero])
        refine wpAnyH_ready (rs := [1, 2]) (by kernel_rfl) (by simp) (AllReadyH.cons rfl (fun K hK => ?_) (AllReadyH.cons rfl (fun K hK => ?_) AllReadyH.nil))
        · obtain ⟨v1, hrun, h1, hb1⟩ := make_rows Le.length v6 hl1
          try simp only [List.getElem_toArray, List.getElem_cons_zero, List.getElem_cons_succ]
          go_simp
          clear hrun
          refine hK.out _ _ trivial (fun hHeld1 => ?_)
          clear hK K
          (try simp only [Act.put]); (try simp only [List.setIfInBounds_toArray]); (try simp only [List.set_cons_succ]); (try simp only [List.set_cons_zero])
          refine wpAnyH_ready (rs := [2]) (by kernel_rfl) (by simp) (AllReadyH.cons rfl (fun K hK => ?_) AllReadyH.nil)
          obtain ⟨v2, hrun, h2, hb2⟩ := make_map v1
          try simp only [List.getElem_toArray, List.getElem_cons_zero, List.getElem_cons_succ]
          go_simp
          clear hrun
          refine hK.out _ _ trivial (fun hHeld2 => ?_)
          clear hK K
          (try simp only [Act.put]); (try simp only [List.setIfInBounds_toArray]); (try simp only [List.set_cons_succ]); (try simp only [List.set_cons_zero])
          refine tkV (i := 7) (d := some 25) (v := ?_) rfl (by kernel_rfl) (by kernel_rfl) (by kernel_rfl) rfl (fun _ _ _ h => h) (by rfl) ?_ (by assumption) ?_
          rotate_left
          · (intro w hSw; (try dsimp only at hSw); (try simp only [List.getElem_toArray, List.getElem_cons_zero, List.getElem_cons_succ]); go_simp; try with_reducible rfl)
          try simp only [Act.put, List.setIfInBounds_toArray, List.set_cons_zero, List.set_cons_succ]
          refine wpAnyH_ready (rs := [8]) (by kernel_rfl) (by simp) (AllReadyH.cons rfl (fun K hK => ?_) AllReadyH.nil)
          try simp only [List.getElem_toArray, List.getElem_cons_zero, List.getElem_cons_succ]
          go_simp
          refine hK.out _ _ trivial (fun hHeld8 => ?_)
          clear hK K
          (try simp only [Act.put]); (try simp only [List.setIfInBounds_toArray]); (try simp only [List.set_cons_succ]); (try simp only [List.set_cons_zero])
          refine tkV (i := 9) (d := some 6) (v := ?_) rfl (by kernel_rfl) (by kernel_rfl) (by kernel_rfl) rfl (fun _ _ _ h => h) (by rfl) ?_ (by assumption) ?_
          rotate_left
          · (intro w hSw; (try dsimp only at hSw); (try simp only [List.getElem_toArray, List.getElem_cons_zero, List.getElem_cons_succ]); go_simp; try with_reducible rfl)
          try simp only [Act.put, List.setIfInBounds_toArray, List.set_cons_zero, List.set_cons_succ]
          refine wpAnyH_done (by kernel_rfl) ?_ _
          refine NoPanic.normal ?_
          have hbx : Below v2.heap.size v2 (v2.alloc (.cells #[.slice (some ⟨v6.heap.size, 0, none⟩) Le.length Le.length, .map (some v1.heap.size), .slice none 0 0, .slice (some ⟨g4, 0, none⟩) ((Le.length + 511) / 512) ((Le.length + 511) / 512), .slice (some ⟨g6, 0, none⟩) ((Le.length + 511) / 512) ((Le.length + 511) / 512)] 58)) := (Below.refl _ _).alloc (Nat.le_refl _) _
          have hz4 := hb4.size
          have hz6 := hb6.size
          have hz1 := hb1.size
          have hz2 := hb2.size
          have hq1 := h1.lt
          have hq2 := h2.lt
          have hq4 := h4.lt
          have hq6 := h6.lt
          have hd0 : w0.drew.heap.size = w0.heap.size := rfl
          have hbd : Below w0.heap.size w0 w0.drew := ⟨rfl, rfl, rfl, Nat.le_refl _, fun _ _ => rfl⟩
          exact H _ _ _ _ _ _ ⟨heap_alloc_new _ _, ((h1.below hb2).below hbx), (h2.below hbx), ((((h4.below hb6).below hb1).below hb2).below hbx), (((h6.below hb1).below hb2).below hbx), (Below.later (Below.later (Below.later (Below.later (Below.later hbd hb4) hb6) hb1) hb2) hbx), ⟨by omega, by omega, by omega, by omega, by omega⟩, ⟨by omega, by omega, by omega, by omega, by omega, by omega, by omega, by omega, by omega, by omega⟩⟩
        · obtain ⟨v2, hrun, h2, hb2⟩ := make_map v6
          try simp only [List.getElem_toArray, List.getElem_cons_zero, List.getElem_cons_succ]
          go_simp
          clear hrun
          refine hK.out _ _ trivial (fun hHeld2 => ?_)
          clear hK K
          (try simp only [Act.put]); (try simp only [List.setIfInBounds_toArray]); (try simp only [List.set_cons_succ]); (try simp only [List.set_cons_zero])
          refine wpAnyH_ready (rs := [1]) (by kernel_rfl) (by simp) (AllReadyH.cons rfl (fun K hK => ?_) AllReadyH.nil)
          obtain ⟨v1, hrun, h1, hb1⟩ := make_rows Le.length v2 hl1
          try simp only [List.getElem_toArray, List.getElem_cons_zero, List.getElem_cons_succ]
          go_simp
          clear hrun
          refine hK.out _ _ trivial (fun hHeld1 => ?_)
          clear hK K
          (try simp only [Act.put]); (try simp only [List.setIfInBounds_toArray]); (try simp only [List.set_cons_succ]); (try simp only [List.set_cons_zero])
          refine tkV (i := 7) (d := some 25) (v := ?_) rfl (by kernel_rfl) (by kernel_rfl) (by kernel_rfl) rfl (fun _ _ _ h => h) (by rfl) ?_ (by assumption) ?_
          rotate_left
          · (intro w hSw; (try dsimp only at hSw); (try simp only [List.getElem_toArray, List.getElem_cons_zero, List.getElem_cons_succ]); go_simp; try with_reducible rfl)
          try simp only [Act.put, List.setIfInBounds_toArray, List.set_cons_zero, List.set_cons_succ]
          refine wpAnyH_ready (rs := [8]) (by kernel_rfl) (by simp) (AllReadyH.cons rfl (fun K hK => ?_) AllReadyH.nil)
          try simp only [List.getElem_toArray, List.getElem_cons_zero, List.getElem_cons_succ]
          go_simp
          refine hK.out _ _ trivial (fun hHeld8 => ?_)
          clear hK K
          (try simp only [Act.put]); (try simp only [List.setIfInBounds_toArray]); (try simp only [List.set_cons_succ]); (try simp only [List.set_cons_zero])
          refine tkV (i := 9) (d := some 6) (v := ?_) rfl (by kernel_rfl) (by kernel_rfl) (by kernel_rfl) rfl (fun _ _ _ h => h) (by rfl) ?_ (by assumption) ?_
          rotate_left
          · (intro w hSw; (try dsimp only at hSw); (try simp only [List.getElem_toArray, List.getElem_cons_zero, List.getElem_cons_succ]); go_simp; try with_reducible rfl)
          try simp only [Act.put, List.setIfInBounds_toArray, List.set_cons_zero, List.set_cons_succ]
          refine wpAnyH_done (by kernel_rfl) ?_ _
          refine NoPanic.normal ?_
          have hbx : Below v1.heap.size v1 (v1.alloc (.cells #[.slice (some ⟨v2.heap.size, 0, none⟩) Le.length Le.length, .map (some v6.heap.size), .slice none 0 0, .slice (some ⟨g4, 0, none⟩) ((Le.length + 511) / 512) ((Le.length + 511) / 512), .slice (some ⟨g6, 0, none⟩) ((Le.length + 511) / 512) ((Le.length + 511) / 512)] 58)) := (Below.refl _ _).alloc (Nat.le_refl _) _
          have hz4 := hb4.size
          have hz6 := hb6.size
          have hz2 := hb2.size
          have hz1 := hb1.size
          have hq1 := h1.lt
          have hq2 := h2.lt
          have hq4 := h4.lt
          have hq6 := h6.lt
          have hd0 : w0.drew.heap.size = w0.heap.size := rfl
          have hbd : Below w0.heap.size w0 w0.drew := ⟨rfl, rfl, rfl, Nat.le_refl _, fun _ _ => rfl⟩
          exact H _ _ _ _ _ _ ⟨heap_alloc_new _ _, (h1.below hbx), ((h2.below hb1).below hbx), ((((h4.below hb6).below hb2).below hb1).below hbx), (((h6.below hb2).below hb1).below hbx), (Below.later (Below.later (Below.later (Below.later (Below.later hbd hb4) hb6) hb2) hb1) hbx), ⟨by omega, by omega, by omega, by omega, by omega⟩, ⟨by omega, by omega, by omega, by omega, by omega, by omega, by omega, by omega, by omega, by omega⟩⟩
  intro gF mp ga gn B W hI
  have hFl := HFl.out
  have hs0 := HZ0.out
  apply hK0
  obtain ⟨hL, hA⟩ := hI.begin Fo
  have HL0 := hid0 hL
  have HAp := hid0 hA
  obtain ⟨y0, y1, y3⟩ := HC5.out W hL.bel
  obtain ⟨j0, hj, hy0, hy1, hy2⟩ := info_parts infoRow
  clear hK0 hI hL hA c0 c1 c2 c3 c4
  go_wp2
  go_loopw [30] (fun i wr => ∃ k : Nat, k ≤ Fo.length ∧ i = .int .i64 (k : Int) ∧ Hid (NwL w0 wr Le.length ((Le.length + 511) / 512) gF mp ga gn B k [] Fo (.slice none 0 0))) (fun i _ => Fo.length - (intOf i).toNat)
  case atStart => exact ⟨0, Nat.zero_le _, rfl, HL0⟩
  case round =>
    clear HL0 y0 y1 y3
    obtain ⟨k, hk, rfl, HL⟩ := hrel
    by_cases hlt : k < Fo.length
    · obtain ⟨b, off, rfl, hbl, a1, c1, d1, i1, hbk⟩ := HFb.out.at' k hlt
      have hBw := HBW.out wr HL.out.bel
      have d1' := (hBw.cell (p := ⟨b, off + k, none⟩) hbl).trans d1
      have hkI : (k : Int) < (Fo.length : Int) := by omega
      have hkI2 : (k : Int) < (Le.length : Int) := by omega
      have hkL : k < Le.length := by omega
      have hkI0 : (0 : Int) ≤ (k : Int) := by omega
      have hrl := HP.out.r4 _ (List.getElem_mem hlt)
      have HRo := hid0 (rowOf_any Le.length Fo[k] a1 c1 wr.drew hl8 (by omega) (HSd.out.2.2 _ (List.getElem_mem hlt)) ((i1.past hBw).past (drew_below wr)))
      have HXx : Hid (∀ (x : Option Nat) (w2 : World), (x = a1.map (·.block) ∨ ∃ b, x = some b ∧ wr.drew.heap.size ≤ b ∧ b < w2.heap.size) → Below wr.drew.heap.size wr.drew w2 → ∀ b, x = some b → b < w2.heap.size ∧ Oth gF mp ga gn B b) := hid0 (fun x w2 hx hb2 b e => by
        rcases hx with rfl | ⟨b', rfl, h1, h2⟩
        · cases a1 with
          | none => cases e
          | some p =>
            cases e
            have h3 := hbk p rfl
            have h4 := hBw.size
            have h5 := hb2.size
            exact ⟨Nat.lt_of_lt_of_le (Nat.lt_of_lt_of_le h3 h4) h5, oth_old HAp.out (by have h6 : p.block < w.heap.size := h3; show p.block < _; omega)⟩
        · cases e
          exact ⟨h2, oth_new HL.out h1⟩)
      clear d1 i1 hbk hBw
      go_upto_region 6 with fail
      refine wp_region_noPanic ?_
      refine wp_region_held_drew (S := (fun V => V.cell? ⟨B, 0, none⟩ = some (.slice (some ⟨gF, 0, none⟩) Le.length Le.length))) (by kernel_rfl) ?_ (fun hHeld => ?_)
      · exact HL.out.cells.1
      refine tkV (i := 0) (d := some 35) (v := ?_) rfl (by kernel_rfl) (by kernel_rfl) (by kernel_rfl) rfl (fun _ _ _ h => h) (by rfl) ?_ (by assumption) ?_
      rotate_left
      · (intro w hSw; (try dsimp only at hSw); (try simp only [List.getElem_toArray, List.getElem_cons_zero]); go_simp; try with_reducible rfl)
      try simp only [Act.put, List.setIfInBounds_toArray, List.set_cons_zero, List.set_cons_succ]
      refine tkV (i := 1) (d := some 36) (v := ?_) rfl (by kernel_rfl) (by kernel_rfl) (by kernel_rfl) rfl (fun _ _ _ h => h) (by rfl) ?_ (by assumption) ?_
      rotate_left
      · (intro w hSw; (try dsimp only at hSw); (try simp only [List.getElem_toArray, List.getElem_cons_zero, List.getElem_cons_succ]); go_simp; try with_reducible rfl)
      try simp only [Act.put, List.setIfInBounds_toArray, List.set_cons_zero, List.set_cons_succ]
      refine tkV (i := 2) (d := some 37) (v := ?_) rfl (by kernel_rfl) (by kernel_rfl) (by kernel_rfl) rfl (fun _ _ _ h => h) (by rfl) ?_ (by assumption) ?_
      rotate_left
      · (intro w hSw; (try dsimp only at hSw); (try simp only [List.getElem_toArray, List.getElem_cons_zero, List.getElem_cons_succ]); go_simp; try with_reducible rfl)
      try simp only [Act.put, List.setIfInBounds_toArray, List.set_cons_zero, List.set_cons_succ]
      refine tkV (i := 3) (d := some 38) (v := ?_) rfl (by kernel_rfl) (by kernel_rfl) (by kernel_rfl) rfl (fun _ _ _ h => h) (by rfl) ?_ (by assumption) ?_
      rotate_left
      · (intro w hSw; (try dsimp only at hSw); (try simp only [List.getElem_toArray, List.getElem_cons_zero, List.getElem_cons_succ]); go_simp; try with_reducible rfl)
      try simp only [Act.put, List.setIfInBounds_toArray, List.set_cons_zero, List.set_cons_succ]
      refine tkV (i := 4) (d := some 39) (v := ?_) rfl (by kernel_rfl) (by kernel_rfl) (by kernel_rfl) rfl (fun _ _ _ h => h) (by rfl) ?_ (by assumption) ?_
      rotate_left
      · (intro w hSw; (try dsimp only at hSw); (try simp only [List.getElem_toArray, List.getElem_cons_zero, List.getElem_cons_succ]); go_simp; try with_reducible rfl)
      try simp only [Act.put, List.setIfInBounds_toArray, List.set_cons_zero, List.set_cons_succ]
      refine tkV (i := 5) (d := some 40) (v := ?_) rfl (by kernel_rfl) (by kernel_rfl) (by kernel_rfl) rfl (fun _ _ _ h => h) (by rfl) ?_ (by assumption) ?_
      rotate_left
      · (intro w hSw; (try dsimp only at hSw); (try simp only [List.getElem_toArray, List.getElem_cons_zero, List.getElem_cons_succ]); go_simp; try with_reducible rfl)
      try simp only [Act.put, List.setIfInBounds_toArray, List.set_cons_zero, List.set_cons_succ]
      refine tkV (i := 6) (d := some 41) (v := ?_) rfl (by kernel_rfl) (by kernel_rfl) (by kernel_rfl) rfl (fun _ _ _ h => h) (by rfl) ?_ (by assumption) ?_
      rotate_left
      · (intro w hSw; (try dsimp only at hSw); (try simp only [List.getElem_toArray, List.getElem_cons_zero, List.getElem_cons_succ]); go_simp; try with_reducible rfl)
      try simp only [Act.put, List.setIfInBounds_toArray, List.set_cons_zero, List.set_cons_succ]
      refine wpAnyH_ready (rs := [7]) (by kernel_rfl) (by simp) (AllReadyH.cons rfl (fun K hK => ?_) AllReadyH.nil)
      try simp only [List.getElem_toArray, List.getElem_cons_zero, List.getElem_cons_succ]
      go_simp
      refine HRo.out.mono ?_
      rintro e w2 ⟨x, v, rfl, hri, hx, hb2⟩
      obtain ⟨a1', n1', c1', a2', n2', c2', rfl⟩ := hri.shape
      have hL2 := HL.out.past (below_drew hb2)
      obtain ⟨⟨u0, hu0⟩, hf0⟩ := hL2.fol.cell (k * 2) (by omega)
      obtain ⟨⟨u1, hu1⟩, hf1⟩ := hL2.fol.cell (k * 2 + 1) (by omega)
      have HX : Hid (∀ b, x = some b → b < w2.heap.size ∧ Oth gF mp ga gn B b) := hid0 (HXx.out x w2 hx hb2)
      have HL3 := hid0 (hL2.put HAp.out (by omega) hlt x _ _ hri HX.out)
      have HS2 := hid0 hL2.cells.1
      clear hri hx hb2 hL2
      go_wp2_with fail
      refine hK.out _ _ ?_ (fun hHeld7 => ?_)
      · exact HS2.out
      clear hK K
      (try simp only [Act.put]); (try simp only [List.setIfInBounds_toArray]); (try simp only [List.set_cons_succ]); (try simp only [List.set_cons_zero])
      refine tkV (i := 8) (d := some 43) (v := ?_) rfl (by kernel_rfl) (by kernel_rfl) (by kernel_rfl) rfl (fun _ _ _ h => h) (by rfl) ?_ (by assumption) ?_
      rotate_left
      · (intro w hSw; (try dsimp only at hSw); (try simp only [List.getElem_toArray, List.getElem_cons_zero, List.getElem_cons_succ]); go_simp; try with_reducible rfl)
      try simp only [Act.put, List.setIfInBounds_toArray, List.set_cons_zero, List.set_cons_succ]
      refine wpAnyH_ready (rs := [9]) (by kernel_rfl) (by simp) (AllReadyH.cons rfl (fun K hK => ?_) AllReadyH.nil)
      try simp only [List.getElem_toArray, List.getElem_cons_zero, List.getElem_cons_succ]
      go_simp
      refine hK.out _ _ ?_ (fun hHeld9 => ?_)
      · exact HL3.out.cells.1
      clear hK K
      (try simp only [Act.put]); (try simp only [List.setIfInBounds_toArray]); (try simp only [List.set_cons_succ]); (try simp only [List.set_cons_zero])
      refine wpAnyH_done (by kernel_rfl) ?_ _
      refine NoPanic.normal ?_
      go_wp2
      go_roundw
      case rel => exact ⟨k + 1, by omega, by go_num, HL3⟩
      case measure => simp [intOf]; omega
    · have hke : k = Fo.length := by omega
      subst hke
      have HL1 := HL
      clear HL
      go_wp2
      go_loopw [47] (fun i wr => ∃ (k : Nat) (ks : List Int), k ≤ Wd.length ∧ i = .int .i64 (k : Int) ∧ Hid (NwL w0 wr Le.length ((Le.length + 511) / 512) gF mp ga gn B Fo.length ks Fo (.slice none 0 0)) ∧ Hid (ks.Nodup ∧ ks.length ≤ k ∧ (∀ c, c ∈ ks ↔ c ∈ Wd.take k))) (fun i _ => Wd.length - (intOf i).toNat)
      case atStart => exact ⟨0, [], Nat.zero_le _, rfl, HL1, hid0 ⟨List.nodup_nil, Nat.le_refl _, fun c => by simp⟩⟩
      case round =>
        clear HL1
        obtain ⟨k, ks, hk, rfl, HL, HKs⟩ := hrel
        by_cases hlt : k < Wd.length
        · have hBw := HBW.out wr HL.out.bel
          obtain ⟨b, off, rfl, _, d1⟩ := (HWd.out.past hBw).at' k hlt
          have hkI : (k : Int) < (Wd.length : Int) := by omega
          have hkI0 : (0 : Int) ≤ (k : Int) := by omega
          have hin := HWi.out _ (List.getElem_mem hlt)
          have HTk : Hid (Wd.take (k + 1) = Wd.take k ++ [Wd[k]]) := hid0 (List.take_succ_eq_append_getElem hlt)
          obtain ⟨q0, q1, q2, q3⟩ := HL.out.cells
          generalize Wd[k] = c at *
          clear hBw
          by_cases hc : c ∈ ks
          · obtain ⟨i, hi, rfl⟩ := List.mem_iff_getElem.1 hc
            have hlk := HL.out.nu.look hi hin
            have HKs2 : Hid (ks.Nodup ∧ ks.length ≤ k + 1 ∧ (∀ c, c ∈ ks ↔ c ∈ Wd.take (k + 1))) := hid0 ⟨HKs.out.1, by have := HKs.out.2.1; omega, fun d => by
              rw [HTk.out, List.mem_append, ← HKs.out.2.2 d, List.mem_singleton]
              exact ⟨fun h => .inl h, fun h => h.elim id (fun e => by rw [e]; exact hc)⟩⟩
            clear hc hin HTk HKs
            generalize ks[i] = c at *
            go_wp2
            go_roundw
            case rel => exact ⟨k + 1, ks, by omega, by go_num, HL, HKs2⟩
            case measure => simp [intOf]; omega
          · have hlk := HL.out.nu.lookNot hc hin
            have hkl : ks.length ≤ 1000000000000 := by have := HKs.out.2.1; omega
            obtain ⟨w2, hrun, hmn, hgr⟩ := (HL.out.nu.below (drew_below wr)).put hc hin hkl
            have hlen : ∀ ty, (Builtin.len_ #[53] ty #[.map (some mp)]).run Tryd.prog wr.drew = .ok (.int .i64 (ks.length : Int)) wr.drew := fun ty => (HL.out.nu.below (drew_below wr)).len ty
            have HL2 := hid0 ((HL.out.past (drew_below wr)).map HAp.out hgr hmn)
            have HKs2 : Hid ((ks ++ [c]).Nodup ∧ (ks ++ [c]).length ≤ k + 1 ∧ (∀ d, d ∈ ks ++ [c] ↔ d ∈ Wd.take (k + 1))) := hid0 ⟨by
              rw [List.nodup_append]
              exact ⟨HKs.out.1, by simp, fun a ha b hb e => hc (by rw [List.mem_singleton.1 hb] at e; exact e ▸ ha)⟩, by have := HKs.out.2.1; simp; omega, fun d => by
              rw [HTk.out, List.mem_append, List.mem_append, HKs.out.2.2 d]⟩
            clear hc hin HTk HKs hmn hgr
            go_upto_region 13 with fail
            go_region
            all_goals
              go_wp2
              go_roundw
              case rel => exact ⟨k + 1, ks ++ [c], by omega, by go_num, HL2, HKs2⟩
              case measure => simp [intOf]; omega
        · have hke : k = Wd.length := by omega
          subst hke
          have HKin : Hid (∀ c ∈ ks, inI c) := hid0 (fun c hc => HWi.out c (by have := (HKs.out.2.2 c).1 hc; rwa [List.take_length] at this))
          have HKall : Hid (∀ c ∈ Wd, c ∈ ks) := hid0 (fun c hc => (HKs.out.2.2 c).2 (by rw [List.take_length]; exact hc))
          have hkl : ks.length ≤ 4000000 := by have := HKs.out.2.1; omega
          have hkp : 0 < ks.length := by
            have h1 := HKall.out _ (List.getElem_mem hw1)
            exact List.length_pos_of_mem h1
          have hBw := HBW.out wr HL.out.bel
          obtain ⟨q0, q1, q2, q3⟩ := HL.out.cells
          obtain ⟨y0, y1, y3⟩ := HC5.out wr HL.out.bel
          have HHd := hid0 (holdersOf_any B mp ks Le aL cL wr hl1 HP.out.r1 HLi.out hkl HKs.out.1 (HP.out.le.past hBw) (Array.getElem?_eq_some_iff.1 HL.out.row).1 q1 HL.out.nu)
          clear HKs hBw
          go_wp2_with (go_at_call 49; go_loud ((
            refine HHd.out.mono ?_
            rintro e Wb ⟨v, rfl, ps, hbag, hhold, hle, hbb⟩
            obtain ⟨H, hH⟩ : ∃ H, ps.map (fun x : Value × List Int => x.2) = H := ⟨_, rfl⟩
            have hhold' : HoldI ks Le Le.length 0 H := by { rw [← hH]; exact hhold }
            obtain ⟨aH, cH, rfl, hrw⟩ := hbag.rwb hH
            have HHl : Hid (∀ r ∈ H, r.length ≤ 100000000000000) := hid0 (fun r hr => by { rw [← hH] at hr; obtain ⟨x, hx, rfl⟩ := List.mem_map.1 hr; exact hle x hx })
            have hHk : H.length = ks.length := hhold'.len
            have HLb := hid0 (HL.out.past hbb)
            have HRw := hid0 hrw
            have HBb := hid0 hbb
            have HHo := hid0 hhold'
            clear hbag hhold hle hbb hhold' hrw hH)))
          have hbsz := HBb.out.size
          have HBlt := hid0 (Array.getElem?_eq_some_iff.1 HL.out.row).1
          have HOn : Hid (∀ b, wr.heap.size ≤ b → Oth gF mp ga gn B b) := hid0 (fun b hb => oth_new HL.out hb)
          have HW0 := hid0 HL.out.bel.size
          clear HHd q0 q1 q2 q3 y0 y1 y3 HL
          go_loopw [78] (fun i W => ∃ (k : Nat) (vH : Value), k ≤ H.length ∧ i = .int .i64 (k : Int) ∧ Hid (HolI W Wb ((Le.length + 511) / 512) k H (Oth gF mp ga gn B) vH ∧ Only Wb W (fun b => b = B) ∧ W.heap[B]? = some (.cells #[.slice (some ⟨gF, 0, none⟩) Le.length Le.length, .map (some mp), vH, .slice (some ⟨ga, 0, none⟩) ((Le.length + 511) / 512) ((Le.length + 511) / 512), .slice (some ⟨gn, 0, none⟩) ((Le.length + 511) / 512) ((Le.length + 511) / 512)] 58 (0, 0)))) (fun i _ => H.length - (intOf i).toNat)
          case atStart => exact ⟨0, _, Nat.zero_le _, rfl, hid0 ⟨HolI.begin _ _ _ _ _, Only.refl _ _, HLb.out.row⟩⟩
          case round =>
            obtain ⟨k, vH, hk, rfl, HI⟩ := hrel
            by_cases hlt : k < H.length
            · obtain ⟨hHo, hOn, hRB⟩ := HI.out
              obtain ⟨b, rfl, hbase, hbl, a1, c1, d1, i1, hbk⟩ := HRw.out k hlt
              have hBl := HBlt.out
              have d1' := (hOn.cell (p := ⟨b, k, none⟩) hbl (by show ¬ b = B; omega)).trans d1
              have i1' := i1.only hOn (fun p hp => by have := (hbk p hp).1; show ¬ p.block = B; omega)
              have hkI : (k : Int) < (H.length : Int) := by omega
              have hkI0 : (0 : Int) ≤ (k : Int) := by omega
              have hrl := HHl.out _ (List.getElem_mem hlt)
              have hall : (H[k]).all (oneOf Le.length) = true := by
                have := HHo.out.inn k
                rwa [List.getD_eq_getElem?_getD, List.getElem?_eq_getElem hlt] at this
              have HRo := hid0 (rowOf_any Le.length H[k] a1 c1 wr.drew hl8 hrl hall (i1'.past (drew_below wr)))
              have hs0 : wr.cell? ⟨B, 2, none⟩ = some vH := by rw [cell_of_row _ _ _ _ _ _ hRB]; rfl
              have hBw : B < wr.heap.size := (Array.getElem?_eq_some_iff.1 hRB).1
              have HPut : Hid (∀ (x : Option Nat) (w2 w3 : World) a1' n1' c1' a2' n2' c2', RowIs w2 ((Le.length + 511) / 512) H[k] x (.agg #[.slice a1' n1' c1', .slice a2' n2' c2']) → (x = a1.map (·.block) ∨ ∃ b, x = some b ∧ wr.drew.heap.size ≤ b ∧ b < w2.heap.size) → Below wr.drew.heap.size wr.drew w2 → w3 = w2.alloc (.cells #[.slice a1' n1' c1', .slice a2' n2' c2'] 64) → ∃ g4 c4 w4, (Builtin.append_ #[52, 52] 52 #[vH, .slice (some ⟨w2.heap.size, 0, none⟩) 1 1]).run Tryd.prog w3 = .ok (.slice (some ⟨g4, 0, none⟩) (k + 1) c4) w4 ∧ w4.cell? ⟨B, 2, none⟩ = some vH ∧ w4.frozen? ⟨B, 2, none⟩ = false ∧ w2.cell? ⟨B, 2, none⟩ = some vH ∧ w3.cell? ⟨B, 2, none⟩ = some vH ∧
                  Hid (HolI (w4.setCell ⟨B, 2, none⟩ (.slice (some ⟨g4, 0, none⟩) (k + 1) c4)) Wb ((Le.length + 511) / 512) (k + 1) H (Oth gF mp ga gn B) (.slice (some ⟨g4, 0, none⟩) (k + 1) c4) ∧ Only Wb (w4.setCell ⟨B, 2, none⟩ (.slice (some ⟨g4, 0, none⟩) (k + 1) c4)) (fun b => b = B) ∧ (w4.setCell ⟨B, 2, none⟩ (.slice (some ⟨g4, 0, none⟩) (k + 1) c4)).heap[B]? = some (.cells #[.slice (some ⟨gF, 0, none⟩) Le.length Le.length, .map (some mp), .slice (some ⟨g4, 0, none⟩) (k + 1) c4, .slice (some ⟨ga, 0, none⟩) ((Le.length + 511) / 512) ((Le.length + 511) / 512), .slice (some ⟨gn, 0, none⟩) ((Le.length + 511) / 512) ((Le.length + 511) / 512)] 58 (0, 0)))) := hid0 (fun x w2 w3 a1' n1' c1' a2' n2' c2' hri hx hb2 hw3 => by
                have hb2' := below_drew hb2
                have hb3 : Below w2.heap.size w2 w3 := by rw [hw3]; exact (Below.refl _ _).alloc (Nat.le_refl _) _
                have hb23 := Below.later hb2' hb3
                have hz3 : w3.heap.size = w2.heap.size + 1 := by rw [hw3]; simp
                have hz2 := hb2'.size
                have hoz := hOn.size
                obtain ⟨xs, hox, hrx⟩ := (hHo.only (Only.ofNew hb23 (fun _ => False)) (fun _ e => e.elim) (fun _ _ e => e))
                have hcl3 : ∀ j u, [Value.slice a1' n1' c1', .slice a2' n2' c2'][j]? = some u → w3.cell? ((⟨w2.heap.size, 0, none⟩ : Addr).add j) = some u := by rw [hw3]; exact cell_pair_new _ _ _ _
                obtain ⟨v4, w4, hrun4, hown4, hgrow4, _, hat4⟩ := run_append_own_at (P := Tryd.prog) w3 Wb.heap.size 52 52 64 j0 (.agg #[.slice none 0 0, .slice none 0 0]) 2 48 Tryd.underlying52 hj hy0 hy1 hy2 rfl (by decide) vH k xs hox ⟨w2.heap.size, 0, none⟩ 1 1 [.slice a1' n1' c1', .slice a2' n2' c2'] rfl hcl3 (by simp [Value.oneCell']) (by unfold maxLen; omega) (by omega) (by omega)
                have hvb : ∀ g, vH.ownBlock = some g → Wb.heap.size ≤ g ∧ g < wr.heap.size := fun g hg => by
                  obtain ⟨ys, hoy, _⟩ := hHo
                  exact World.ownsRow.lt hoy g hg
                have hXx : ∀ b, x = some b → (b < w3.heap.size ∧ Oth gF mp ga gn B b) ∧ vH.ownBlock ≠ some b := fun b' e => by
                  rcases hx with rfl | ⟨b2, rfl, g1, g2⟩
                  · cases a1 with
                    | none => cases e
                    | some p =>
                      cases e
                      have g3 : _ ≤ p.block ∧ p.block < _ := hbk p rfl
                      exact ⟨⟨by show p.block < _; omega, HOn.out _ g3.1⟩, fun e2 => by have g4 : Wb.heap.size ≤ p.block ∧ _ := hvb _ e2; omega⟩
                  · have e3 : b2 = b' := Option.some.inj e
                    have g1' : wr.heap.size ≤ b2 := g1
                    exact ⟨⟨by omega, HOn.out b' (by omega)⟩, fun e2 => by have := hvb b' e2; omega⟩
                obtain ⟨g4, c4, rfl, _⟩ := own_form hown4 (by omega)
                have hHo4 := HolI.put hox hrx hlt x _ _ (hri.only (Only.ofNew hb3 (fun _ => False)) (fun _ _ e => e)) hXx hown4 hgrow4 hat4
                have hB4 : w4.heap[B]? = _ := (hgrow4.block B (by omega) (fun e => by have := hvb B e.symm; omega)).trans ((hb23.block B hBw).trans hRB)
                have hO4 : Only Wb w4 (fun b => b = B) := (hOn.trans (Only.ofNew hb23 (fun _ => False)) (fun i e => e.elim)).trans (⟨hgrow4.os, hgrow4.tape, hgrow4.output, hgrow4.size, fun i hi hs => hgrow4.block i hi (fun e => hs e.symm)⟩ : Only w3 w4 (fun b => vH.ownBlock = some b)) (fun i hi => .inr (hvb i hi).1)
                have hsB := Only.setCell w4 B 2 (.slice (some ⟨g4, 0, none⟩) (k + 1) c4)
                refine ⟨g4, c4, w4, hrun4, by rw [cell_of_row _ _ _ _ _ _ hB4]; rfl, by simp [World.frozen?, hB4], (hb2'.cell (p := ⟨B, 2, none⟩) hBw).trans hs0, (hb23.cell (p := ⟨B, 2, none⟩) hBw).trans hs0, hid0 ⟨hHo4.only hsB (fun b e => by subst e; omega) (fun b hb => hb.2.2.2.2), hO4.trans hsB (fun i hi => .inl hi), heap_setCell_same _ _ 2 _ _ _ hB4⟩⟩)
              generalize H[k] = Hk at *
              clear HI hHo hOn hRB d1 i1 i1' hbk hall
              go_upto_region 18 with fail
              refine wp_region_noPanic ?_
              refine wp_region_held_drew (S := fun _ => True) (by kernel_rfl) trivial (fun hHeld => ?_)
              refine tkV (i := 0) (d := some 82) (v := ?_) rfl (by kernel_rfl) (by kernel_rfl) (by kernel_rfl) rfl (fun _ _ _ h => h) (by rfl) ?_ (by assumption) ?_
              rotate_left
              · (intro w hSw; (try dsimp only at hSw); (try simp only [List.getElem_toArray, List.getElem_cons_zero]); go_simp; try with_reducible rfl)
              try simp only [Act.put, List.setIfInBounds_toArray, List.set_cons_zero, List.set_cons_succ]
              refine tkV (i := 1) (d := some 83) (v := ?_) rfl (by kernel_rfl) (by kernel_rfl) (by kernel_rfl) rfl (fun _ _ _ h => h) (by rfl) ?_ (by assumption) ?_
              rotate_left
              · (intro w hSw; (try dsimp only at hSw); (try simp only [List.getElem_toArray, List.getElem_cons_zero, List.getElem_cons_succ]); go_simp; try with_reducible rfl)
              try simp only [Act.put, List.setIfInBounds_toArray, List.set_cons_zero, List.set_cons_succ]
              refine tkV (i := 2) (d := some 84) (v := ?_) rfl (by kernel_rfl) (by kernel_rfl) (by kernel_rfl) rfl (fun _ _ _ h => h) (by rfl) ?_ (by assumption) ?_
              rotate_left
              · (intro w hSw; (try dsimp only at hSw); (try simp only [List.getElem_toArray, List.getElem_cons_zero, List.getElem_cons_succ]); go_simp; try with_reducible rfl)
              try simp only [Act.put, List.setIfInBounds_toArray, List.set_cons_zero, List.set_cons_succ]
              refine tkV (i := 3) (d := some 85) (v := ?_) rfl (by kernel_rfl) (by kernel_rfl) (by kernel_rfl) rfl (fun _ _ _ h => h) (by rfl) ?_ (by assumption) ?_
              rotate_left
              · (intro w hSw; (try dsimp only at hSw); (try simp only [List.getElem_toArray, List.getElem_cons_zero, List.getElem_cons_succ]); go_simp; try with_reducible rfl)
              try simp only [Act.put, List.setIfInBounds_toArray, List.set_cons_zero, List.set_cons_succ]
              refine tkV (i := 5) (d := some 87) (v := ?_) rfl (by kernel_rfl) (by kernel_rfl) (by kernel_rfl) rfl (fun _ _ _ h => h) (by rfl) ?_ (by assumption) ?_
              rotate_left
              · (intro w hSw; (try dsimp only at hSw); (try simp only [List.getElem_toArray, List.getElem_cons_zero, List.getElem_cons_succ]); go_simp; try with_reducible rfl)
              try simp only [Act.put, List.setIfInBounds_toArray, List.set_cons_zero, List.set_cons_succ]
              refine tkV (i := 6) (d := some 88) (v := ?_) rfl (by kernel_rfl) (by kernel_rfl) (by kernel_rfl) rfl (fun _ _ _ h => h) (by rfl) ?_ (by assumption) ?_
              rotate_left
              · (intro w hSw; (try dsimp only at hSw); (try simp only [List.getElem_toArray, List.getElem_cons_zero, List.getElem_cons_succ]); go_simp; try with_reducible rfl)
              try simp only [Act.put, List.setIfInBounds_toArray, List.set_cons_zero, List.set_cons_succ]
              refine wpAnyH_ready (rs := [4, 7]) (by kernel_rfl) (by simp) (AllReadyH.cons rfl (fun K hK => ?_) (AllReadyH.cons rfl (fun K hK => ?_) AllReadyH.nil))
              · try simp only [List.getElem_toArray, List.getElem_cons_zero, List.getElem_cons_succ]
                go_simp
                refine hK.out _ _ trivial (fun hHeld4 => ?_)
                clear hK K
                (try simp only [Act.put]); (try simp only [List.setIfInBounds_toArray]); (try simp only [List.set_cons_succ]); (try simp only [List.set_cons_zero])
                refine wpAnyH_ready (rs := [7]) (by kernel_rfl) (by simp) (AllReadyH.cons rfl (fun K hK => ?_) AllReadyH.nil)
                try simp only [List.getElem_toArray, List.getElem_cons_zero, List.getElem_cons_succ]
                go_simp
                refine HRo.out.mono ?_
                rintro e w2 ⟨x, v, rfl, hri, hx, hb2⟩
                obtain ⟨a1', n1', c1', a2', n2', c2', rfl⟩ := hri.shape
                obtain ⟨w3, hw3⟩ : ∃ w3, w3 = w2.alloc (.cells #[.slice a1' n1' c1', .slice a2' n2' c2'] 64) := ⟨_, rfl⟩
                obtain ⟨g4, c4, w4, hrun4, hc4, hf4, hs2, hs3, HH4⟩ := HPut.out x w2 w3 a1' n1' c1' a2' n2' c2' hri hx hb2 hw3
                have HRun := hid0 hrun4
                have hfold3 := hw3.symm
                clear hri hx hb2 hrun4 hw3
                go_wp2_with fail
                refine hK.out _ _ trivial (fun hHeld7 => ?_)
                clear hK K
                (try simp only [Act.put]); (try simp only [List.setIfInBounds_toArray]); (try simp only [List.set_cons_succ]); (try simp only [List.set_cons_zero])
                refine wpAnyH_ready (rs := [8]) (by kernel_rfl) (by simp) (AllReadyH.cons rfl (fun K hK => ?_) AllReadyH.nil)
                try simp only [List.getElem_toArray, List.getElem_cons_zero, List.getElem_cons_succ]
                go_simp
                refine hK.out _ _ trivial (fun hHeld8 => ?_)
                clear hK K
                (try simp only [Act.put]); (try simp only [List.setIfInBounds_toArray]); (try simp only [List.set_cons_succ]); (try simp only [List.set_cons_zero])
                refine wpAnyH_ready (rs := [9]) (by kernel_rfl) (by simp) (AllReadyH.cons rfl (fun K hK => ?_) AllReadyH.nil)
                refine step_append_run rfl (.tmp 86) (.tmp 90) 52 rfl _ _ _ _ HRun.out (by simp [Act.eval]) (by simp [Act.eval]) ?_
                refine hK.out _ _ trivial (fun hHeld9 => ?_)
                clear hK K
                (try simp only [Act.put]); (try simp only [List.setIfInBounds_toArray]); (try simp only [List.set_cons_succ]); (try simp only [List.set_cons_zero])
                refine tkV (i := 10) (d := some 92) (v := ?_) rfl (by kernel_rfl) (by kernel_rfl) (by kernel_rfl) rfl (fun _ _ _ h => h) (by rfl) ?_ (by assumption) ?_
                rotate_left
                · (intro w hSw; (try dsimp only at hSw); (try simp only [List.getElem_toArray, List.getElem_cons_zero, List.getElem_cons_succ]); go_simp; try with_reducible rfl)
                try simp only [Act.put]
                refine tkV (i := 11) (d := some 93) (v := ?_) rfl (by kernel_rfl) (by kernel_rfl) (by kernel_rfl) rfl (fun _ _ _ h => h) (by rfl) ?_ (by assumption) ?_
                rotate_left
                · (intro w hSw; (try dsimp only at hSw); (try simp only [List.getElem_toArray, List.getElem_cons_zero, List.getElem_cons_succ]); go_simp; try with_reducible rfl)
                try simp only [Act.put]
                refine wpAnyH_ready (rs := [12]) (by kernel_rfl) (by simp) (AllReadyH.cons rfl (fun K hK => ?_) AllReadyH.nil)
                try simp only [List.getElem_toArray, List.getElem_cons_zero, List.getElem_cons_succ]
                go_simp
                refine hK.out _ _ trivial (fun hHeld12 => ?_)
                clear hK K
                (try simp only [Act.put]); (try simp only [List.setIfInBounds_toArray]); (try simp only [List.set_cons_succ]); (try simp only [List.set_cons_zero])
                refine wpAnyH_done (by kernel_rfl) ?_ _
                refine NoPanic.normal ?_
                go_wp2
                go_roundw
                case rel => exact ⟨k + 1, _, by omega, by go_num, HH4⟩
                case measure => simp [intOf]; omega
              · try simp only [List.getElem_toArray, List.getElem_cons_zero, List.getElem_cons_succ]
                go_simp
                refine HRo.out.mono ?_
                rintro e w2 ⟨x, v, rfl, hri, hx, hb2⟩
                obtain ⟨a1', n1', c1', a2', n2', c2', rfl⟩ := hri.shape
                obtain ⟨w3, hw3⟩ : ∃ w3, w3 = w2.alloc (.cells #[.slice a1' n1' c1', .slice a2' n2' c2'] 64) := ⟨_, rfl⟩
                obtain ⟨g4, c4, w4, hrun4, hc4, hf4, hs2, hs3, HH4⟩ := HPut.out x w2 w3 a1' n1' c1' a2' n2' c2' hri hx hb2 hw3
                have HRun := hid0 hrun4
                have hfold3 := hw3.symm
                clear hri hx hb2 hrun4 hw3
                go_wp2_with fail
                refine hK.out _ _ trivial (fun hHeld7 => ?_)
                clear hK K
                (try simp only [Act.put]); (try simp only [List.setIfInBounds_toArray]); (try simp only [List.set_cons_succ]); (try simp only [List.set_cons_zero])
                refine wpAnyH_ready (rs := [4, 8]) (by kernel_rfl) (by simp) (AllReadyH.cons rfl (fun K hK => ?_) (AllReadyH.cons rfl (fun K hK => ?_) AllReadyH.nil))
                · try simp only [List.getElem_toArray, List.getElem_cons_zero, List.getElem_cons_succ]
                  go_simp
                  refine hK.out _ _ trivial (fun hHeld4 => ?_)
                  clear hK K
                  (try simp only [Act.put]); (try simp only [List.setIfInBounds_toArray]); (try simp only [List.set_cons_succ]); (try simp only [List.set_cons_zero])
                  refine wpAnyH_ready (rs := [8]) (by kernel_rfl) (by simp) (AllReadyH.cons rfl (fun K hK => ?_) AllReadyH.nil)
                  try simp only [List.getElem_toArray, List.getElem_cons_zero, List.getElem_cons_succ]
                  go_simp
                  refine hK.out _ _ trivial (fun hHeld8 => ?_)
                  clear hK K
                  (try simp only [Act.put]); (try simp only [List.setIfInBounds_toArray]); (try simp only [List.set_cons_succ]); (try simp only [List.set_cons_zero])
                  refine wpAnyH_ready (rs := [9]) (by kernel_rfl) (by simp) (AllReadyH.cons rfl (fun K hK => ?_) AllReadyH.nil)
                  refine step_append_run rfl (.tmp 86) (.tmp 90) 52 rfl _ _ _ _ HRun.out (by simp [Act.eval]) (by simp [Act.eval]) ?_
                  refine hK.out _ _ trivial (fun hHeld9 => ?_)
                  clear hK K
                  (try simp only [Act.put]); (try simp only [List.setIfInBounds_toArray]); (try simp only [List.set_cons_succ]); (try simp only [List.set_cons_zero])
                  refine tkV (i := 10) (d := some 92) (v := ?_) rfl (by kernel_rfl) (by kernel_rfl) (by kernel_rfl) rfl (fun _ _ _ h => h) (by rfl) ?_ (by assumption) ?_
                  rotate_left
                  · (intro w hSw; (try dsimp only at hSw); (try simp only [List.getElem_toArray, List.getElem_cons_zero, List.getElem_cons_succ]); go_simp; try with_reducible rfl)
                  try simp only [Act.put]
                  refine tkV (i := 11) (d := some 93) (v := ?_) rfl (by kernel_rfl) (by kernel_rfl) (by kernel_rfl) rfl (fun _ _ _ h => h) (by rfl) ?_ (by assumption) ?_
                  rotate_left
                  · (intro w hSw; (try dsimp only at hSw); (try simp only [List.getElem_toArray, List.getElem_cons_zero, List.getElem_cons_succ]); go_simp; try with_reducible rfl)
                  try simp only [Act.put]
                  refine wpAnyH_ready (rs := [12]) (by kernel_rfl) (by simp) (AllReadyH.cons rfl (fun K hK => ?_) AllReadyH.nil)
                  try simp only [List.getElem_toArray, List.getElem_cons_zero, List.getElem_cons_succ]
                  go_simp
                  refine hK.out _ _ trivial (fun hHeld12 => ?_)
                  clear hK K
                  (try simp only [Act.put]); (try simp only [List.setIfInBounds_toArray]); (try simp only [List.set_cons_succ]); (try simp only [List.set_cons_zero])
                  refine wpAnyH_done (by kernel_rfl) ?_ _
                  refine NoPanic.normal ?_
                  go_wp2
                  go_roundw
                  case rel => exact ⟨k + 1, _, by omega, by go_num, HH4⟩
                  case measure => simp [intOf]; omega
                · try simp only [List.getElem_toArray, List.getElem_cons_zero, List.getElem_cons_succ]
                  go_simp
                  refine hK.out _ _ trivial (fun hHeld8 => ?_)
                  clear hK K
                  (try simp only [Act.put]); (try simp only [List.setIfInBounds_toArray]); (try simp only [List.set_cons_succ]); (try simp only [List.set_cons_zero])
                  refine wpAnyH_ready (rs := [4]) (by kernel_rfl) (by simp) (AllReadyH.cons rfl (fun K hK => ?_) AllReadyH.nil)
                  try simp only [List.getElem_toArray, List.getElem_cons_zero, List.getElem_cons_succ]
                  go_simp
                  refine hK.out _ _ trivial (fun hHeld4 => ?_)
                  clear hK K
                  (try simp only [Act.put]); (try simp only [List.setIfInBounds_toArray]); (try simp only [List.set_cons_succ]); (try simp only [List.set_cons_zero])
                  refine wpAnyH_ready (rs := [9]) (by kernel_rfl) (by simp) (AllReadyH.cons rfl (fun K hK => ?_) AllReadyH.nil)
                  refine step_append_run rfl (.tmp 86) (.tmp 90) 52 rfl _ _ _ _ HRun.out (by simp [Act.eval]) (by simp [Act.eval]) ?_
                  refine hK.out _ _ trivial (fun hHeld9 => ?_)
                  clear hK K
                  (try simp only [Act.put]); (try simp only [List.setIfInBounds_toArray]); (try simp only [List.set_cons_succ]); (try simp only [List.set_cons_zero])
                  refine tkV (i := 10) (d := some 92) (v := ?_) rfl (by kernel_rfl) (by kernel_rfl) (by kernel_rfl) rfl (fun _ _ _ h => h) (by rfl) ?_ (by assumption) ?_
                  rotate_left
                  · (intro w hSw; (try dsimp only at hSw); (try simp only [List.getElem_toArray, List.getElem_cons_zero, List.getElem_cons_succ]); go_simp; try with_reducible rfl)
                  try simp only [Act.put]
                  refine tkV (i := 11) (d := some 93) (v := ?_) rfl (by kernel_rfl) (by kernel_rfl) (by kernel_rfl) rfl (fun _ _ _ h => h) (by rfl) ?_ (by assumption) ?_
                  rotate_left
                  · (intro w hSw; (try dsimp only at hSw); (try simp only [List.getElem_toArray, List.getElem_cons_zero, List.getElem_cons_succ]); go_simp; try with_reducible rfl)
                  try simp only [Act.put]
                  refine wpAnyH_ready (rs := [12]) (by kernel_rfl) (by simp) (AllReadyH.cons rfl (fun K hK => ?_) AllReadyH.nil)
                  try simp only [List.getElem_toArray, List.getElem_cons_zero, List.getElem_cons_succ]
                  go_simp
                  refine hK.out _ _ trivial (fun hHeld12 => ?_)
                  clear hK K
                  (try simp only [Act.put]); (try simp only [List.setIfInBounds_toArray]); (try simp only [List.set_cons_succ]); (try simp only [List.set_cons_zero])
                  refine wpAnyH_done (by kernel_rfl) ?_ _
                  refine NoPanic.normal ?_
                  go_wp2
                  go_roundw
                  case rel => exact ⟨k + 1, _, by omega, by go_num, HH4⟩
                  case measure => simp [intOf]; omega
            · have hke : k = H.length := by omega
              subst hke
              obtain ⟨hHo, hOn, hRB⟩ := HI.out
              have hL := HLb.out.onlyB HAp.out hOn hRB
              have hAp := HAp.out
              obtain ⟨y0, y1, y3⟩ := HC5.out wr hL.bel
              have HF0 := hid0 y1
              have hBl := (Array.getElem?_eq_some_iff.1 hRB).1
              have HF1 : Hid (∀ w2, Only wr.drew w2 (fun k => k = gn) → w2.cell? ⟨w.heap.size, 1, none⟩ = some (.slice aF Fi.length cF)) := hid0 (fun w2 h2 => (h2.cell (p := ⟨w.heap.size, 1, none⟩) (World.block_lt_of_cell? wr _ y1) (by have := hAp.1.2.2.2.1; show ¬ w.heap.size = gn; omega)).trans y1)
              have HAd := hid0 (addAll_any B 4 gn ((Le.length + 511) / 512) Le.length (fun _ => false) Fi aF cF wr.drew (by omega) (by omega) (by omega) HSd.out.2.1 hBl (fun e => hAp.2.2.2.2.2.2.2.2.2.2 e.symm) (by show wr.cell? _ = _; rw [cell_of_row _ _ _ _ _ _ hRB]; rfl) ((HP.out.fi.past (HBW.out wr hL.bel)).past (drew_below wr)) (fun p hp => by have h1 := HFi.out p hp; have h2 := hAp.1.2.2.2.1; show ¬ p.block = gn; omega) (hL.nx.below (drew_below wr)))
              have HEnd : Hid (∀ w2, BS w2 gn ((Le.length + 511) / 512) (addF Fi (fun _ => false)) → Only wr.drew w2 (fun k => k = gn) → NwR w Le Fo Fi Wd (.returned (.pointer (some ⟨B, 0, none⟩))) w2) := hid0 (fun w2 g1 g2 => nw_end rfl hb0 HLb.out hL hAp hHo (by omega) hFl g1 ((Only.drewN wr 1 (fun k => k = gn)).trans g2 (fun i hi => .inl hi)) HTb.out hT11 HKall.out HKin.out hkl HHo.out HHl.out)
              clear hHo hOn hRB hL hAp HI y0 y1 y3
              go_upto_region 20 with fail
              refine wp_region_noPanic ?_
              refine wp_region_held_drew (S := (fun V => V.cell? ⟨w.heap.size, 1, none⟩ = some (.slice aF Fi.length cF))) (by kernel_rfl) ?_ (fun hHeld => ?_)
              · exact HF0.out
              refine tkV (i := 0) (d := some 95) (v := ?_) rfl (by kernel_rfl) (by kernel_rfl) (by kernel_rfl) rfl (fun _ _ _ h => h) (by rfl) ?_ (by assumption) ?_
              rotate_left
              · (intro w hSw; (try dsimp only at hSw); (try simp only [List.getElem_toArray, List.getElem_cons_zero]); go_simp; try with_reducible rfl)
              try simp only [Act.put, List.setIfInBounds_toArray, List.set_cons_zero, List.set_cons_succ]
              refine tkV (i := 1) (d := some 96) (v := ?_) rfl (by kernel_rfl) (by kernel_rfl) (by kernel_rfl) rfl (fun _ _ _ h => h) (by rfl) ?_ (by assumption) ?_
              rotate_left
              · (intro w hSw; (try dsimp only at hSw); (try simp only [List.getElem_toArray, List.getElem_cons_zero, List.getElem_cons_succ]); go_simp; try with_reducible rfl)
              try simp only [Act.put, List.setIfInBounds_toArray, List.set_cons_zero, List.set_cons_succ]
              refine tkV (i := 2) (d := some 97) (v := ?_) rfl (by kernel_rfl) (by kernel_rfl) (by kernel_rfl) rfl (fun _ _ _ h => h) (by rfl) ?_ (by assumption) ?_
              rotate_left
              · (intro w hSw; (try dsimp only at hSw); (try simp only [List.getElem_toArray, List.getElem_cons_zero, List.getElem_cons_succ]); go_simp; try with_reducible rfl)
              try simp only [Act.put, List.setIfInBounds_toArray, List.set_cons_zero, List.set_cons_succ]
              refine tkV (i := 3) (d := some 98) (v := ?_) rfl (by kernel_rfl) (by kernel_rfl) (by kernel_rfl) rfl (fun _ _ _ h => h) (by rfl) ?_ (by assumption) ?_
              rotate_left
              · (intro w hSw; (try dsimp only at hSw); (try simp only [List.getElem_toArray, List.getElem_cons_zero, List.getElem_cons_succ]); go_simp; try with_reducible rfl)
              try simp only [Act.put, List.setIfInBounds_toArray, List.set_cons_zero, List.set_cons_succ]
              refine tkV (i := 4) (d := some 99) (v := ?_) rfl (by kernel_rfl) (by kernel_rfl) (by kernel_rfl) rfl (fun _ _ _ h => h) (by rfl) ?_ (by assumption) ?_
              rotate_left
              · (intro w hSw; (try dsimp only at hSw); (try simp only [List.getElem_toArray, List.getElem_cons_zero, List.getElem_cons_succ]); go_simp; try with_reducible rfl)
              try simp only [Act.put, List.setIfInBounds_toArray, List.set_cons_zero, List.set_cons_succ]
              refine wpAnyH_ready (rs := [5]) (by kernel_rfl) (by simp) (AllReadyH.cons rfl (fun K hK => ?_) AllReadyH.nil)
              try simp only [List.getElem_toArray, List.getElem_cons_zero, List.getElem_cons_succ]
              go_simp
              refine HAd.out.mono ?_
              rintro e w2 ⟨rfl, hb2, ho2⟩
              have HB2 := hid0 hb2
              have HO2 := hid0 ho2
              have HS2 := hid0 (HF1.out w2 ho2)
              clear hb2 ho2
              go_wp2_with fail
              refine hK.out _ _ ?_ (fun hHeld5 => ?_)
              · exact HS2.out
              clear hK K
              (try simp only [Act.put]); (try simp only [List.setIfInBounds_toArray]); (try simp only [List.set_cons_succ]); (try simp only [List.set_cons_zero])
              refine wpAnyH_done (by kernel_rfl) ?_ _
              refine NoPanic.normal ?_
              go_wp2
              go_ret
              exact HEnd.out w2 HB2.out HO2.out
end Go.Proofs.YtlkgghbdgjomkaaDoor
namespace Go.Proofs.YtlkgghbdgjomkaaDoor
open Go.RowKit
/-- The post Q at an ordinary end, and at no other. -/
def NormO (Q : Exit → Act → World → Prop) : Exit → Act → World → Prop
  | .normal, a, w => Q .normal a w
  | _, _, _ => False
theorem NormO.normal {Q : Exit → Act → World → Prop} {a : Act} {w : World} (h : Q .normal a w) : NormO Q .normal a w := h
theorem NormO.imp {Q : Exit → Act → World → Prop} : ∀ (e : Exit) (a : Act) (w : World), NormO Q e a w → Q e a w := fun e a w h => by
  cases e <;> first | exact h | exact (h : False).elim
theorem NormO.shut {Q : Exit → Act → World → Prop} : ¬ LetsOut (NormO Q) := fun ⟨_, _, h⟩ => h
def noDefer (ops : Array Oper) : Bool := ops.toList.all fun o => match o.op with
  | .defer _ => false
  | _ => true
theorem noDefer_at {ops : Array Oper} (h : noDefer ops = true) {i : Nat} {o : Oper} (ho : ops[i]? = some o) : ∀ c, o.op ≠ .defer c := fun c e => by
  have h1 := List.all_eq_true.1 h o (by rw [← Array.getElem?_toList] at ho; exact List.mem_of_getElem? ho)
  rw [e] at h1
  cases h1
theorem wpOpIn_of {P : Program} {ops : Array Oper} {Q : Exit → Act → World → Prop} {i n l : Nat} {K K' : Act → World → Prop} {a : Act} {w : World} (hno : ¬ LetsOut Q) (hd : noDefer ops = true)
    (hK : ∀ a w, K a w → K' a w) (h : wpOp P ops Q i K a w) : wpOpIn (Fence.wide.inRound l) n P ops Q i K' a w := by
  unfold wpOp at h
  unfold wpOpIn
  cases ho : ops[i]? with
  | none =>
    simp only [ho] at h ⊢
    exact hK _ _ h
  | some o =>
    simp only [ho] at h ⊢
    by_cases hw : Region.wanted o (yielded ops a.tmps) = true
    · simp only [hw, if_true] at h ⊢
      rcases h with h | ⟨_, h⟩
      · refine ⟨fun _ _ => trivial, ?_⟩
        rw [Fence.inRound_round, Oper.semAt_some l _ o (noDefer_at hd ho)]
        unfold Oper.wp at h
        generalize (execOp a.eval o).run P w = r at *
        cases r with
        | ok x w' =>
          cases x <;> simp only [Oper.upon, Oper.uponIn] at h ⊢
          case value => exact hK _ _ h
          case skip => exact hK _ _ h
          case defer => exact hK _ _ h
          case enter f args =>
            refine ⟨fun e => (by cases e), CallsIn.inRound l (callsIn_wide.2 (Calls.mono h fun e w'' he => ?_))⟩
            cases e with
            | returned v => exact hK _ _ he
            | panicked c => exact he
            | outgrown => exact he
          case row row args => exact ⟨fun e => (by cases e), fun c cs _ => let ⟨v, w'', r, s⟩ := h c cs; ⟨v, w'', hK _ _ r, stepsIn_wide.2 s⟩⟩
        | halt x w' => cases x <;> simp only [Oper.upon, Oper.uponIn] at h ⊢ <;> exact h
      · exact (hno h).elim
    · simp only [hw] at h ⊢
      exact ⟨fun _ _ => trivial, hK _ _ h⟩
theorem wpAnyIn_of {P : Program} {ops : Array Oper} {Q : Exit → Act → World → Prop} {S : World → Prop} {n l : Nat} {md : Region.Mode} (hno : ¬ LetsOut Q) (hd : noDefer ops = true) : ∀ (fuel : Nat) (listed : Array Bool) (a : Act) (w : World),
    wpAnyH P md ops Q S fuel listed a w → wpAnyIn (Fence.wide.inRound l) n P md ops Q fuel listed a w
  | 0, _, _, _, h => h
  | fuel + 1, _, _, _, h => ⟨h.1, fun i hi => wpOpIn_of hno hd (fun a' w' h' => wpAnyIn_of hno hd fuel _ a' w' h'.2) (h.2 i hi)⟩
/-- The beginning, inside a round. -/
theorem wpIn_region_round {P : Program} {id : Nat} {ops : Array Oper} {Q : Exit → Act → World → Prop} {S : World → Prop} {n l : Nat} {a : Act} {w : World} (hm : P.follows .mixedOrders = true) (hd : noDefer ops = true) (hS : S w.drew)
    (h : S w.drew → wpAnyH P .any ops (NormO Q) S ops.size (Array.replicate ops.size false) a w.drew) : (Code.region id ops true).wpIn (Fence.wide.inRound l) n P Q a w :=
  wpIn_mono (wpIn_region_any hm (wpAnyIn_of NormO.shut hd _ _ _ _ (h hS))) NormO.imp
end Go.Proofs.YtlkgghbdgjomkaaDoor
