/-
  QlGaW, QlEeW.
-/
import Derived.Test.YtleeedjpccooaaaDoorNdm
import Derived.Test.YtleeedjpccooaaaDoorNda
import Derived.Test.YtleeedjpccooaaaDoorNde
namespace Go.Proofs.YtleeedjpccooaaaDoor
open Go.RowKit Go.Shelf
set_option maxRecDepth 10000 in
set_option maxHeartbeats 1600000 in
theorem newWalkj_any (aL aF aA aO aW : Option Addr) (cL cF cA cO cW : Nat) (Le Fo : List (List Int)) (Fi La Wd : List Int) (em : Bool) (w : World) (hp : PosA w aL aF aA aO Le Fo Fi La) (hwd : IA w aW Wd) (hwl : Wd.length ≤ 4000000) (hw1 : 0 < Wd.length) (hso : soundP Le.length Fi La Fo = true) (hfb : RwE w aO Fo) (hfi : Fi ≠ [] → ∀ p, aF = some p → p.block < w.heap.size) (hLi : ∀ r ∈ Le, ∀ z ∈ r, inI z) (hWi : ∀ z ∈ Wd, inI z) (hTab : TabAt 11 Lib.deBruijn64tab w) (hT11 : 11 < w.heap.size) :
    Calls Tryd.prog 58 #[posV aL aF aA aO cL cF cA cO Le Fo Fi La em, .slice aW Wd.length cW] w (NwRj w Le Fo Fi Wd) := by
  unfold posV
  obtain ⟨w0, hw0⟩ : ∃ w0, w0 = w.alloc (.cells #[.slice aL Le.length cL, .slice aF Fi.length cF, .slice aA La.length cA, .slice aO Fo.length cO, .bool em] 46) := ⟨_, rfl⟩
  have hr0 : w0.heap[w.heap.size]? = some (.cells #[.slice aL Le.length cL, .slice aF Fi.length cF, .slice aA La.length cA, .slice aO Fo.length cO, .bool em] 46 (0, 0)) := by rw [hw0]; exact heap_alloc_new w _
  obtain ⟨c0, c1, c2, c3, c4⟩ := row5 hr0
  have hl1 := hp.l1
  have hl2 := hp.l2
  have hl4 := hp.l4
  have hb0 : Below w.heap.size w w0 := by rw [hw0]; exact (Below.refl _ _).alloc (Nat.le_refl _) _
  have hs0 : w0.heap.size = w.heap.size + 1 := by rw [hw0]; simp
  have hsd : Fo.length = Le.length ∧ Fi.all (oneOf Le.length) = true ∧ ∀ r ∈ Fo, r.all (oneOf Le.length) = true := by
    unfold soundP insA at hso
    simp only [Bool.and_eq_true, decide_eq_true_eq] at hso
    exact ⟨hso.1.1.1, hso.1.1.2, List.all_eq_true.1 hso.2⟩
  have HC5 : Hid (∀ W, Below w0.heap.size w0 W → W.cell? ⟨w.heap.size, 0, none⟩ = some (.slice aL Le.length cL) ∧ W.cell? ⟨w.heap.size, 1, none⟩ = some (.slice aF Fi.length cF) ∧ W.cell? ⟨w.heap.size, 3, none⟩ = some (.slice aO Fo.length cO)) := hid0 (fun W hW => by
    have := (hW.block w.heap.size (by omega)).trans hr0
    obtain ⟨q0, q1, q2, q3, q4⟩ := row5 this
    exact ⟨q0, q1, q3⟩)
  have HBW : Hid (∀ W, Below w0.heap.size w0 W → Below w.heap.size w W) := hid0 (fun W hW => Below.later hb0 hW)
  have HP := hid0 hp
  have HFb := hid0 hfb
  have HSd := hid0 hsd
  have HLi := hid0 hLi
  have HWi := hid0 hWi
  have HWd := hid0 hwd
  have HFi := hid0 hfi
  have HTb := hid0 hTab
  have hl8 : Le.length ≤ 100000000 := by omega
  have hfold := hw0.symm
  have HFl := hid0 hsd.1
  have HZ0 := hid0 hs0
  clear hs0 hw0 hp hfb hsd hLi hWi hwd hfi hTab hso
  go_enter Tryd.func58, Tryd.ntmps58
  go_upto_region 2 with fail
  rename_i K0 hK0
  suffices H : ∀ (gF mp ga gn B : Nat) (W : World), NwI w0 W Le.length ((Le.length + 511) / 512) gF mp ga gn B → K0 { tmps := #[.agg #[.slice aL Le.length cL, .slice aF Fi.length cF, .slice aA La.length cA, .slice aO Fo.length cO, .bool em], .slice aW Wd.length cW, .pointer (some ⟨w.heap.size, 0, none⟩), undef, .pointer none, .int .i64 (Le.length : Int), .pointer (some ⟨B, 0, none⟩), undef, undef, undef, undef, undef, undef, undef, undef, .pointer (some ⟨w.heap.size, 0, none⟩), .slice aL Le.length cL, .int .i64 (Le.length : Int), .int .i64 (Le.length : Int), .slice (some ⟨gF, 0, none⟩) Le.length Le.length, .map (some mp), .int .i64 (Le.length : Int), .agg #[.slice (some ⟨ga, 0, none⟩) ((Le.length + 511) / 512) ((Le.length + 511) / 512)], .int .i64 (Le.length : Int), .agg #[.slice (some ⟨gn, 0, none⟩) ((Le.length + 511) / 512) ((Le.length + 511) / 512)], .agg #[.slice (some ⟨gF, 0, none⟩) Le.length Le.length, .map (some mp), .slice none 0 0, .slice (some ⟨ga, 0, none⟩) ((Le.length + 511) / 512) ((Le.length + 511) / 512), .slice (some ⟨gn, 0, none⟩) ((Le.length + 511) / 512) ((Le.length + 511) / 512)], .pointer (some ⟨B, 0, none⟩), undef, undef, undef, undef, undef, undef, undef, undef, undef, undef, undef, undef, undef, undef, undef, undef, undef, undef, undef, undef, undef, undef, undef, undef, undef, undef, undef, undef, undef, undef, undef, undef, undef, undef, undef, undef, undef, undef, undef, undef, undef, undef, undef, undef, undef, undef, undef, undef, undef, undef, undef, undef, undef, undef, undef, undef, undef, undef, undef, undef, undef, undef, undef, undef, undef, undef, undef, undef, undef, undef, undef, undef, undef, undef, undef], defers := [] } W by
    refine wp_region_noPanic ?_
    refine wp_region_held_drew (S := fun _ => True) (by kernel_rfl) trivial (fun hHeld => ?_)
    refine tkV (i := 0) (d := some 18) (v := ?_) rfl (by kernel_rfl) (by kernel_rfl) (by kernel_rfl) rfl (fun _ _ _ h => h) (by rfl) ?_ (by assumption) ?_
    rotate_left
    · (intro w hSw; (try dsimp only at hSw); (try simp only [List.getElem_toArray, List.getElem_cons_zero]); go_simp; try with_reducible rfl)
    try simp only [Act.put, List.setIfInBounds_toArray, List.set_cons_zero, List.set_cons_succ]
    refine tkV (i := 3) (d := some 21) (v := ?_) rfl (by kernel_rfl) (by kernel_rfl) (by kernel_rfl) rfl (fun _ _ _ h => h) (by rfl) ?_ (by assumption) ?_
    rotate_left
    · (intro w hSw; (try dsimp only at hSw); (try simp only [List.getElem_toArray, List.getElem_cons_zero, List.getElem_cons_succ]); go_simp; try with_reducible rfl)
    try simp only [Act.put, List.setIfInBounds_toArray, List.set_cons_zero, List.set_cons_succ]
    refine tkV (i := 5) (d := some 23) (v := ?_) rfl (by kernel_rfl) (by kernel_rfl) (by kernel_rfl) rfl (fun _ _ _ h => h) (by rfl) ?_ (by assumption) ?_
    rotate_left
    · (intro w hSw; (try dsimp only at hSw); (try simp only [List.getElem_toArray, List.getElem_cons_zero, List.getElem_cons_succ]); go_simp; try with_reducible rfl)
    try simp only [Act.put, List.setIfInBounds_toArray, List.set_cons_zero, List.set_cons_succ]
    refine wpAnyH_ready (rs := [1, 2, 4]) (by kernel_rfl) (by simp) (AllReadyH.cons rfl (fun K hK => ?_) (AllReadyH.cons rfl (fun K hK => ?_) (AllReadyH.cons rfl (fun K hK => ?_) AllReadyH.nil)))
    · obtain ⟨v1, hrun, h1, hb1⟩ := make_rows Le.length w0.drew hl1
      try simp only [List.getElem_toArray, List.getElem_cons_zero, List.getElem_cons_succ]
      go_simp
      clear hrun
      refine hK.out _ _ trivial (fun hHeld1 => ?_)
      clear hK K
      (try simp only [Act.put]); (try simp only [List.setIfInBounds_toArray]); (try simp only [List.set_cons_succ]); (try simp only [List.set_cons_zero])
      refine wpAnyH_ready (rs := [2, 4]) (by kernel_rfl) (by simp) (AllReadyH.cons rfl (fun K hK => ?_) (AllReadyH.cons rfl (fun K hK => ?_) AllReadyH.nil))
      · obtain ⟨v2, hrun, h2, hb2⟩ := make_map v1
        try simp only [List.getElem_toArray, List.getElem_cons_zero, List.getElem_cons_succ]
        go_simp
        clear hrun
        refine hK.out _ _ trivial (fun hHeld2 => ?_)
        clear hK K
        (try simp only [Act.put]); (try simp only [List.setIfInBounds_toArray]); (try simp only [List.set_cons_succ]); (try simp only [List.set_cons_zero])
        refine wpAnyH_ready (rs := [4]) (by kernel_rfl) (by simp) (AllReadyH.cons rfl (fun K hK => ?_) AllReadyH.nil)
        try simp only [List.getElem_toArray, List.getElem_cons_zero, List.getElem_cons_succ]
        go_simp
        refine (roomFor_any Le.length v2 hl8).mono ?_
        rintro e v4 ⟨g4, rfl, hlo4, h4, hb4⟩
        go_wp2_with fail
        refine hK.out _ _ trivial (fun hHeld4 => ?_)
        clear hK K
        (try simp only [Act.put]); (try simp only [List.setIfInBounds_toArray]); (try simp only [List.set_cons_succ]); (try simp only [List.set_cons_zero])
        refine wpAnyH_ready (rs := [6]) (by kernel_rfl) (by simp) (AllReadyH.cons rfl (fun K hK => ?_) AllReadyH.nil)
        try simp only [List.getElem_toArray, List.getElem_cons_zero, List.getElem_cons_succ]
        go_simp
        refine (roomFor_any Le.length v4 hl8).mono ?_
        rintro e v6 ⟨g6, rfl, hlo6, h6, hb6⟩
        go_wp2_with fail
        refine hK.out _ _ trivial (fun hHeld6 => ?_)
        clear hK K
        (try simp only [Act.put]); (try simp only [List.setIfInBounds_toArray]); (try simp only [List.set_cons_succ]); (try simp only [List.set_cons_zero])
        refine tkV (i := 7) (d := some 25) (v := ?_) rfl (by kernel_rfl) (by kernel_rfl) (by kernel_rfl) rfl (fun _ _ _ h => h) (by rfl) ?_ (by assumption) ?_
        rotate_left
        · (intro w hSw; (try dsimp only at hSw); (try simp only [List.getElem_toArray, List.getElem_cons_zero, List.getElem_cons_succ]); go_simp; try with_reducible rfl)
        try simp only [Act.put, List.setIfInBounds_toArray, List.set_cons_zero, List.set_cons_succ]
        refine wpAnyH_ready (rs := [8]) (by kernel_rfl) (by simp) (AllReadyH.cons rfl (fun K hK => ?_) AllReadyH.nil)
        try simp only [List.getElem_toArray, List.getElem_cons_zero, List.getElem_cons_succ]
        go_simp
        refine hK.out _ _ trivial (fun hHeld8 => ?_)
        clear hK K
        (try simp only [Act.put]); (try simp only [List.setIfInBounds_toArray]); (try simp only [List.set_cons_succ]); (try simp only [List.set_cons_zero])
        refine tkV (i := 9) (d := some 6) (v := ?_) rfl (by kernel_rfl) (by kernel_rfl) (by kernel_rfl) rfl (fun _ _ _ h => h) (by rfl) ?_ (by assumption) ?_
        rotate_left
        · (intro w hSw; (try dsimp only at hSw); (try simp only [List.getElem_toArray, List.getElem_cons_zero, List.getElem_cons_succ]); go_simp; try with_reducible rfl)
        try simp only [Act.put, List.setIfInBounds_toArray, List.set_cons_zero, List.set_cons_succ]
        refine wpAnyH_done (by kernel_rfl) ?_ _
        refine NoPanic.normal ?_
        have hbx : Below v6.heap.size v6 (v6.alloc (.cells #[.slice (some ⟨w0.drew.heap.size, 0, none⟩) Le.length Le.length, .map (some v1.heap.size), .slice none 0 0, .slice (some ⟨g4, 0, none⟩) ((Le.length + 511) / 512) ((Le.length + 511) / 512), .slice (some ⟨g6, 0, none⟩) ((Le.length + 511) / 512) ((Le.length + 511) / 512)] 121)) := (Below.refl _ _).alloc (Nat.le_refl _) _
        have hz1 := hb1.size
        have hz2 := hb2.size
        have hz4 := hb4.size
        have hz6 := hb6.size
        have hq1 := h1.lt
        have hq2 := h2.lt
        have hq4 := h4.lt
        have hq6 := h6.lt
        have hd0 : w0.drew.heap.size = w0.heap.size := rfl
        have hbd : Below w0.heap.size w0 w0.drew := ⟨rfl, rfl, rfl, Nat.le_refl _, fun _ _ => rfl⟩
        exact H _ _ _ _ _ _ ⟨heap_alloc_new _ _, ((((h1.below hb2).below hb4).below hb6).below hbx), (((h2.below hb4).below hb6).below hbx), ((h4.below hb6).below hbx), (h6.below hbx), (Below.later (Below.later (Below.later (Below.later (Below.later hbd hb1) hb2) hb4) hb6) hbx), ⟨by omega, by omega, by omega, by omega, by omega⟩, ⟨by omega, by omega, by omega, by omega, by omega, by omega, by omega, by omega, by omega, by omega⟩⟩
      · try simp only [List.getElem_toArray, List.getElem_cons_zero, List.getElem_cons_succ]
        go_simp
        refine (roomFor_any Le.length v1 hl8).mono ?_
        rintro e v4 ⟨g4, rfl, hlo4, h4, hb4⟩
        go_wp2_with fail
        refine hK.out _ _ trivial (fun hHeld4 => ?_)
        clear hK K
        (try simp only [Act.put]); (try simp only [List.setIfInBounds_toArray]); (try simp only [List.set_cons_succ]); (try simp only [List.set_cons_zero])
        refine wpAnyH_ready (rs := [2, 6]) (by kernel_rfl) (by simp) (AllReadyH.cons rfl (fun K hK => ?_) (AllReadyH.cons rfl (fun K hK => ?_) AllReadyH.nil))
        · obtain ⟨v2, hrun, h2, hb2⟩ := make_map v4
          try simp only [List.getElem_toArray, List.getElem_cons_zero, List.getElem_cons_succ]
          go_simp
          clear hrun
          refine hK.out _ _ trivial (fun hHeld2 => ?_)
          clear hK K
          (try simp only [Act.put]); (try simp only [List.setIfInBounds_toArray]); (try simp only [List.set_cons_succ]); (try simp only [List.set_cons_zero])
          refine wpAnyH_ready (rs := [6]) (by kernel_rfl) (by simp) (AllReadyH.cons rfl (fun K hK => ?_) AllReadyH.nil)
          try simp only [List.getElem_toArray, List.getElem_cons_zero, List.getElem_cons_succ]
          go_simp
          refine (roomFor_any Le.length v2 hl8).mono ?_
          rintro e v6 ⟨g6, rfl, hlo6, h6, hb6⟩
          go_wp2_with fail
          refine hK.out _ _ trivial (fun hHeld6 => ?_)
          clear hK K
          (try simp only [Act.put]); (try simp only [List.setIfInBounds_toArray]); (try simp only [List.set_cons_succ]); (try simp only [List.set_cons_zero])
          refine tkV (i := 7) (d := some 25) (v := ?_) rfl (by kernel_rfl) (by kernel_rfl) (by kernel_rfl) rfl (fun _ _ _ h => h) (by rfl) ?_ (by assumption) ?_
          rotate_left
          · (intro w hSw; (try dsimp only at hSw); (try simp only [List.getElem_toArray, List.getElem_cons_zero, List.getElem_cons_succ]); go_simp; try with_reducible rfl)
          try simp only [Act.put, List.setIfInBounds_toArray, List.set_cons_zero, List.set_cons_succ]
          refine wpAnyH_ready (rs := [8]) (by kernel_rfl) (by simp) (AllReadyH.cons rfl (fun K hK => ?_) AllReadyH.nil)
          try simp only [List.getElem_toArray, List.getElem_cons_zero, List.getElem_cons_succ]
          go_simp
          refine hK.out _ _ trivial (fun hHeld8 => ?_)
          clear hK K
          (try simp only [Act.put]); (try simp only [List.setIfInBounds_toArray]); (try simp only [List.set_cons_succ]); (try simp only [List.set_cons_zero])
          refine tkV (i := 9) (d := some 6) (v := ?_) rfl (by kernel_rfl) (by kernel_rfl) (by kernel_rfl) rfl (fun _ _ _ h => h) (by rfl) ?_ (by assumption) ?_
          rotate_left
          · (intro w hSw; (try dsimp only at hSw); (try simp only [List.getElem_toArray, List.getElem_cons_zero, List.getElem_cons_succ]); go_simp; try with_reducible rfl)
          try simp only [Act.put, List.setIfInBounds_toArray, List.set_cons_zero, List.set_cons_succ]
          refine wpAnyH_done (by kernel_rfl) ?_ _
          refine NoPanic.normal ?_
          have hbx : Below v6.heap.size v6 (v6.alloc (.cells #[.slice (some ⟨w0.drew.heap.size, 0, none⟩) Le.length Le.length, .map (some v4.heap.size), .slice none 0 0, .slice (some ⟨g4, 0, none⟩) ((Le.length + 511) / 512) ((Le.length + 511) / 512), .slice (some ⟨g6, 0, none⟩) ((Le.length + 511) / 512) ((Le.length + 511) / 512)] 121)) := (Below.refl _ _).alloc (Nat.le_refl _) _
          have hz1 := hb1.size
          have hz4 := hb4.size
          have hz2 := hb2.size
          have hz6 := hb6.size
          have hq1 := h1.lt
          have hq2 := h2.lt
          have hq4 := h4.lt
          have hq6 := h6.lt
          have hd0 : w0.drew.heap.size = w0.heap.size := rfl
          have hbd : Below w0.heap.size w0 w0.drew := ⟨rfl, rfl, rfl, Nat.le_refl _, fun _ _ => rfl⟩
          exact H _ _ _ _ _ _ ⟨heap_alloc_new _ _, ((((h1.below hb4).below hb2).below hb6).below hbx), ((h2.below hb6).below hbx), (((h4.below hb2).below hb6).below hbx), (h6.below hbx), (Below.later (Below.later (Below.later (Below.later (Below.later hbd hb1) hb4) hb2) hb6) hbx), ⟨by omega, by omega, by omega, by omega, by omega⟩, ⟨by omega, by omega, by omega, by omega, by omega, by omega, by omega, by omega, by omega, by omega⟩⟩
        · try simp only [List.getElem_toArray, List.getElem_cons_zero, List.getElem_cons_succ]
          go_simp
          refine (roomFor_any Le.length v4 hl8).mono ?_
          rintro e v6 ⟨g6, rfl, hlo6, h6, hb6⟩
          go_wp2_with fail
          refine hK.out _ _ trivial (fun hHeld6 => ?_)
          clear hK K
          (try simp only [Act.put]); (try simp only [List.setIfInBounds_toArray]); (try simp only [List.set_cons_succ]); (try simp only [List.set_cons_zero])
          refine wpAnyH_ready (rs := [2]) (by kernel_rfl) (by simp) (AllReadyH.cons rfl (fun K hK => ?_) AllReadyH.nil)
          obtain ⟨v2, hrun, h2, hb2⟩ := make_map v6
          try simp only [List.getElem_toArray, List.getElem_cons_zero, List.getElem_cons_succ]
          go_simp
          clear hrun
          refine hK.out _ _ trivial (fun hHeld2 => ?_)
          clear hK K
          (try simp only [Act.put]); (try simp only [List.setIfInBounds_toArray]); (try simp only [List.set_cons_succ]); (try simp only [List.set_cons_zero])
          refine tkV (i := 7) (d := some 25) (v := ?_) rfl (by kernel_rfl) (by kernel_rfl) (by kernel_rfl) rfl (fun _ _ _ h => h) (by rfl) ?_ (by assumption) ?_
          rotate_left
          · (intro w hSw; (try dsimp only at hSw); (try simp only [List.getElem_toArray, List.getElem_cons_zero, List.getElem_cons_succ]); go_simp; try with_reducible rfl)
          try simp only [Act.put, List.setIfInBounds_toArray, List.set_cons_zero, List.set_cons_succ]
          refine wpAnyH_ready (rs := [8]) (by kernel_rfl) (by simp) (AllReadyH.cons rfl (fun K hK => ?_) AllReadyH.nil)
          try simp only [List.getElem_toArray, List.getElem_cons_zero, List.getElem_cons_succ]
          go_simp
          refine hK.out _ _ trivial (fun hHeld8 => ?_)
          clear hK K
          (try simp only [Act.put]); (try simp only [List.setIfInBounds_toArray]); (try simp only [List.set_cons_succ]); (try simp only [List.set_cons_zero])
          refine tkV (i := 9) (d := some 6) (v := ?_) rfl (by kernel_rfl) (by kernel_rfl) (by kernel_rfl) rfl (fun _ _ _ h => h) (by rfl) ?_ (by assumption) ?_
          rotate_left
          · (intro w hSw; (try dsimp only at hSw); (try simp only [List.getElem_toArray, List.getElem_cons_zero, List.getElem_cons_succ]); go_simp; try with_reducible rfl)
          try simp only [Act.put, List.setIfInBounds_toArray, List.set_cons_zero, List.set_cons_succ]
          refine wpAnyH_done (by kernel_rfl) ?_ _
          refine NoPanic.normal ?_
          have hbx : Below v2.heap.size v2 (v2.alloc (.cells #[.slice (some ⟨w0.drew.heap.size, 0, none⟩) Le.length Le.length, .map (some v6.heap.size), .slice none 0 0, .slice (some ⟨g4, 0, none⟩) ((Le.length + 511) / 512) ((Le.length + 511) / 512), .slice (some ⟨g6, 0, none⟩) ((Le.length + 511) / 512) ((Le.length + 511) / 512)] 121)) := (Below.refl _ _).alloc (Nat.le_refl _) _
          have hz1 := hb1.size
          have hz4 := hb4.size
          have hz6 := hb6.size
          have hz2 := hb2.size
          have hq1 := h1.lt
          have hq2 := h2.lt
          have hq4 := h4.lt
          have hq6 := h6.lt
          have hd0 : w0.drew.heap.size = w0.heap.size := rfl
          have hbd : Below w0.heap.size w0 w0.drew := ⟨rfl, rfl, rfl, Nat.le_refl _, fun _ _ => rfl⟩
          exact H _ _ _ _ _ _ ⟨heap_alloc_new _ _, ((((h1.below hb4).below hb6).below hb2).below hbx), (h2.below hbx), (((h4.below hb6).below hb2).below hbx), ((h6.below hb2).below hbx), (Below.later (Below.later (Below.later (Below.later (Below.later hbd hb1) hb4) hb6) hb2) hbx), ⟨by omega, by omega, by omega, by omega, by omega⟩, ⟨by omega, by omega, by omega, by omega, by omega, by omega, by omega, by omega, by omega, by omega⟩⟩
    · obtain ⟨v2, hrun, h2, hb2⟩ := make_map w0.drew
      try simp only [List.getElem_toArray, List.getElem_cons_zero, List.getElem_cons_succ]
      go_simp
      clear hrun
      refine hK.out _ _ trivial (fun hHeld2 => ?_)
      clear hK K
      (try simp only [Act.put]); (try simp only [List.setIfInBounds_toArray]); (try simp only [List.set_cons_succ]); (try simp only [List.set_cons_zero])
      refine wpAnyH_ready (rs := [1, 4]) (by kernel_rfl) (by simp) (AllReadyH.cons rfl (fun K hK => ?_) (AllReadyH.cons rfl (fun K hK => ?_) AllReadyH.nil))
      · obtain ⟨v1, hrun, h1, hb1⟩ := make_rows Le.length v2 hl1
        try simp only [List.getElem_toArray, List.getElem_cons_zero, List.getElem_cons_succ]
        go_simp
        clear hrun
        refine hK.out _ _ trivial (fun hHeld1 => ?_)
        clear hK K
        (try simp only [Act.put]); (try simp only [List.setIfInBounds_toArray]); (try simp only [List.set_cons_succ]); (try simp only [List.set_cons_zero])
        refine wpAnyH_ready (rs := [4]) (by kernel_rfl) (by simp) (AllReadyH.cons rfl (fun K hK => ?_) AllReadyH.nil)
        try simp only [List.getElem_toArray, List.getElem_cons_zero, List.getElem_cons_succ]
        go_simp
        refine (roomFor_any Le.length v1 hl8).mono ?_
        rintro e v4 ⟨g4, rfl, hlo4, h4, hb4⟩
        go_wp2_with fail
        refine hK.out _ _ trivial (fun hHeld4 => ?_)
        clear hK K
        (try simp only [Act.put]); (try simp only [List.setIfInBounds_toArray]); (try simp only [List.set_cons_succ]); (try simp only [List.set_cons_zero])
        refine wpAnyH_ready (rs := [6]) (by kernel_rfl) (by simp) (AllReadyH.cons rfl (fun K hK => ?_) AllReadyH.nil)
        try simp only [List.getElem_toArray, List.getElem_cons_zero, List.getElem_cons_succ]
        go_simp
        refine (roomFor_any Le.length v4 hl8).mono ?_
        rintro e v6 ⟨g6, rfl, hlo6, h6, hb6⟩
        go_wp2_with fail
        refine hK.out _ _ trivial (fun hHeld6 => ?_)
        clear hK K
        (try simp only [Act.put]); (try simp only [List.setIfInBounds_toArray]); (try simp only [List.set_cons_succ]); (try simp only [List.set_cons_zero])
        refine tkV (i := 7) (d := some 25) (v := ?_) rfl (by kernel_rfl) (by kernel_rfl) (by kernel_rfl) rfl (fun _ _ _ h => h) (by rfl) ?_ (by assumption) ?_
        rotate_left
        · (intro w hSw; (try dsimp only at hSw); (try simp only [List.getElem_toArray, List.getElem_cons_zero, List.getElem_cons_succ]); go_simp; try with_reducible rfl)
        try simp only [Act.put, List.setIfInBounds_toArray, List.set_cons_zero, List.set_cons_succ]
        refine wpAnyH_ready (rs := [8]) (by kernel_rfl) (by simp) (AllReadyH.cons rfl (fun K hK => ?_) AllReadyH.nil)
        try simp only [List.getElem_toArray, List.getElem_cons_zero, List.getElem_cons_succ]
        go_simp
        refine hK.out _ _ trivial (fun hHeld8 => ?_)
        clear hK K
        (try simp only [Act.put]); (try simp only [List.setIfInBounds_toArray]); (try simp only [List.set_cons_succ]); (try simp only [List.set_cons_zero])
        refine tkV (i := 9) (d := some 6) (v := ?_) rfl (by kernel_rfl) (by kernel_rfl) (by kernel_rfl) rfl (fun _ _ _ h => h) (by rfl) ?_ (by assumption) ?_
        rotate_left
        · (intro w hSw; (try dsimp only at hSw); (try simp only [List.getElem_toArray, List.getElem_cons_zero, List.getElem_cons_succ]); go_simp; try with_reducible rfl)
        try simp only [Act.put, List.setIfInBounds_toArray, List.set_cons_zero, List.set_cons_succ]
        refine wpAnyH_done (by kernel_rfl) ?_ _
        refine NoPanic.normal ?_
        have hbx : Below v6.heap.size v6 (v6.alloc (.cells #[.slice (some ⟨v2.heap.size, 0, none⟩) Le.length Le.length, .map (some w0.drew.heap.size), .slice none 0 0, .slice (some ⟨g4, 0, none⟩) ((Le.length + 511) / 512) ((Le.length + 511) / 512), .slice (some ⟨g6, 0, none⟩) ((Le.length + 511) / 512) ((Le.length + 511) / 512)] 121)) := (Below.refl _ _).alloc (Nat.le_refl _) _
        have hz2 := hb2.size
        have hz1 := hb1.size
        have hz4 := hb4.size
        have hz6 := hb6.size
        have hq1 := h1.lt
        have hq2 := h2.lt
        have hq4 := h4.lt
        have hq6 := h6.lt
        have hd0 : w0.drew.heap.size = w0.heap.size := rfl
        have hbd : Below w0.heap.size w0 w0.drew := ⟨rfl, rfl, rfl, Nat.le_refl _, fun _ _ => rfl⟩
        exact H _ _ _ _ _ _ ⟨heap_alloc_new _ _, (((h1.below hb4).below hb6).below hbx), ((((h2.below hb1).below hb4).below hb6).below hbx), ((h4.below hb6).below hbx), (h6.below hbx), (Below.later (Below.later (Below.later (Below.later (Below.later hbd hb2) hb1) hb4) hb6) hbx), ⟨by omega, by omega, by omega, by omega, by omega⟩, ⟨by omega, by omega, by omega, by omega, by omega, by omega, by omega, by omega, by omega, by omega⟩⟩
      · try simp only [List.getElem_toArray, List.getElem_cons_zero, List.getElem_cons_succ]
        go_simp
        refine (roomFor_any Le.length v2 hl8).mono ?_
        rintro e v4 ⟨g4, rfl, hlo4, h4, hb4⟩
        go_wp2_with fail
        refine hK.out _ _ trivial (fun hHeld4 => ?_)
        clear hK K
        (try simp only [Act.put]); (try simp only [List.setIfInBounds_toArray]); (try simp only [List.set_cons_succ]); (try simp only [List.set_cons_zero])
        refine wpAnyH_ready (rs := [1, 6]) (by kernel_rfl) (by simp) (AllReadyH.cons rfl (fun K hK => ?_) (AllReadyH.cons rfl (fun K hK => ?_) AllReadyH.nil))
        · obtain ⟨v1, hrun, h1, hb1⟩ := make_rows Le.length v4 hl1
          try simp only [List.getElem_toArray, List.getElem_cons_zero, List.getElem_cons_succ]
          go_simp
          clear hrun
          refine hK.out _ _ trivial (fun hHeld1 => ?_)
          clear hK K
          (try simp only [Act.put]); (try simp only [List.setIfInBounds_toArray]); (try simp only [List.set_cons_succ]); (try simp only [List.set_cons_zero])
          refine wpAnyH_ready (rs := [6]) (by kernel_rfl) (by simp) (AllReadyH.cons rfl (fun K hK => ?_) AllReadyH.nil)
          try simp only [List.getElem_toArray, List.getElem_cons_zero, List.getElem_cons_succ]
          go_simp
          refine (roomFor_any Le.length v1 hl8).mono ?_
          rintro e v6 ⟨g6, rfl, hlo6, h6, hb6⟩
          go_wp2_with fail
          refine hK.out _ _ trivial (fun hHeld6 => ?_)
          clear hK K
          (try simp only [Act.put]); (try simp only [List.setIfInBounds_toArray]); (try simp only [List.set_cons_succ]); (try simp only [List.set_cons_zero])
          refine tkV (i := 7) (d := some 25) (v := ?_) rfl (by kernel_rfl) (by kernel_rfl) (by kernel_rfl) rfl (fun _ _ _ h => h) (by rfl) ?_ (by assumption) ?_
          rotate_left
          · (intro w hSw; (try dsimp only at hSw); (try simp only [List.getElem_toArray, List.getElem_cons_zero, List.getElem_cons_succ]); go_simp; try with_reducible rfl)
          try simp only [Act.put, List.setIfInBounds_toArray, List.set_cons_zero, List.set_cons_succ]
          refine wpAnyH_ready (rs := [8]) (by kernel_rfl) (by simp) (AllReadyH.cons rfl (fun K hK => ?_) AllReadyH.nil)
          try simp only [List.getElem_toArray, List.getElem_cons_zero, List.getElem_cons_succ]
          go_simp
          refine hK.out _ _ trivial (fun hHeld8 => ?_)
          clear hK K
          (try simp only [Act.put]); (try simp only [List.setIfInBounds_toArray]); (try simp only [List.set_cons_succ]); (try simp only [List.set_cons_zero])
          refine tkV (i := 9) (d := some 6) (v := ?_) rfl (by kernel_rfl) (by kernel_rfl) (by kernel_rfl) rfl (fun _ _ _ h => h) (by rfl) ?_ (by assumption) ?_
          rotate_left
          · (intro w hSw; (try dsimp only at hSw); (try simp only [List.getElem_toArray, List.getElem_cons_zero, List.getElem_cons_succ]); go_simp; try with_reducible rfl)
          try simp only [Act.put, List.setIfInBounds_toArray, List.set_cons_zero, List.set_cons_succ]
          refine wpAnyH_done (by kernel_rfl) ?_ _
          refine NoPanic.normal ?_
          have hbx : Below v6.heap.size v6 (v6.alloc (.cells #[.slice (some ⟨v4.heap.size, 0, none⟩) Le.length Le.length, .map (some w0.drew.heap.size), .slice none 0 0, .slice (some ⟨g4, 0, none⟩) ((Le.length + 511) / 512) ((Le.length + 511) / 512), .slice (some ⟨g6, 0, none⟩) ((Le.length + 511) / 512) ((Le.length + 511) / 512)] 121)) := (Below.refl _ _).alloc (Nat.le_refl _) _
          have hz2 := hb2.size
          have hz4 := hb4.size
          have hz1 := hb1.size
          have hz6 := hb6.size
          have hq1 := h1.lt
          have hq2 := h2.lt
          have hq4 := h4.lt
          have hq6 := h6.lt
          have hd0 : w0.drew.heap.size = w0.heap.size := rfl
          have hbd : Below w0.heap.size w0 w0.drew := ⟨rfl, rfl, rfl, Nat.le_refl _, fun _ _ => rfl⟩
          exact H _ _ _ _ _ _ ⟨heap_alloc_new _ _, ((h1.below hb6).below hbx), ((((h2.below hb4).below hb1).below hb6).below hbx), (((h4.below hb1).below hb6).below hbx), (h6.below hbx), (Below.later (Below.later (Below.later (Below.later (Below.later hbd hb2) hb4) hb1) hb6) hbx), ⟨by omega, by omega, by omega, by omega, by omega⟩, ⟨by omega, by omega, by omega, by omega, by omega, by omega, by omega, by omega, by omega, by omega⟩⟩
        · try simp only [List.getElem_toArray, List.getElem_cons_zero, List.getElem_cons_succ]
          go_simp
          refine (roomFor_any Le.length v4 hl8).mono ?_
          rintro e v6 ⟨g6, rfl, hlo6, h6, hb6⟩
          go_wp2_with fail
          refine hK.out _ _ trivial (fun hHeld6 => ?_)
          clear hK K
          (try simp only [Act.put]); (try simp only [List.setIfInBounds_toArray]); (try simp only [List.set_cons_succ]); (try simp only [List.set_cons_zero])
          refine wpAnyH_ready (rs := [1]) (by kernel_rfl) (by simp) (AllReadyH.cons rfl (fun K hK => ?_) AllReadyH.nil)
          obtain ⟨v1, hrun, h1, hb1⟩ := make_rows Le.length v6 hl1
          try simp only [List.getElem_toArray, List.getElem_cons_zero, List.getElem_cons_succ]
          go_simp
          clear hrun
          refine hK.out _ _ trivial (fun hHeld1 => ?_)
          clear hK K
          (try simp only [Act.put]); (try simp only [List.setIfInBounds_toArray]); (try simp only [List.set_cons_succ]); (try simp only [List.set_cons_zero])
          refine tkV (i := 7) (d := some 25) (v := ?_) rfl (by kernel_rfl) (by kernel_rfl) (by kernel_rfl) rfl (fun _ _ _ h => h) (by rfl) ?_ (by assumption) ?_
          rotate_left
          · (intro w hSw; (try dsimp only at hSw); (try simp only [List.getElem_toArray, List.getElem_cons_zero, List.getElem_cons_succ]); go_simp; try with_reducible rfl)
          try simp only [Act.put, List.setIfInBounds_toArray, List.set_cons_zero, List.set_cons_succ]
          refine wpAnyH_ready (rs := [8]) (by kernel_rfl) (by simp) (AllReadyH.cons rfl (fun K hK => ?_) AllReadyH.nil)
          try simp only [List.getElem_toArray, List.getElem_cons_zero, List.getElem_cons_succ]
          go_simp
          refine hK.out _ _ trivial (fun hHeld8 => ?_)
          clear hK K
          (try simp only [Act.put]); (try simp only [List.setIfInBounds_toArray]); (try simp only [List.set_cons_succ]); (try simp only [List.set_cons_zero])
          refine tkV (i := 9) (d := some 6) (v := ?_) rfl (by kernel_rfl) (by kernel_rfl) (by kernel_rfl) rfl (fun _ _ _ h => h) (by rfl) ?_ (by assumption) ?_
          rotate_left
          · (intro w hSw; (try dsimp only at hSw); (try simp only [List.getElem_toArray, List.getElem_cons_zero, List.getElem_cons_succ]); go_simp; try with_reducible rfl)
          try simp only [Act.put, List.setIfInBounds_toArray, List.set_cons_zero, List.set_cons_succ]
          refine wpAnyH_done (by kernel_rfl) ?_ _
          refine NoPanic.normal ?_
          have hbx : Below v1.heap.size v1 (v1.alloc (.cells #[.slice (some ⟨v6.heap.size, 0, none⟩) Le.length Le.length, .map (some w0.drew.heap.size), .slice none 0 0, .slice (some ⟨g4, 0, none⟩) ((Le.length + 511) / 512) ((Le.length + 511) / 512), .slice (some ⟨g6, 0, none⟩) ((Le.length + 511) / 512) ((Le.length + 511) / 512)] 121)) := (Below.refl _ _).alloc (Nat.le_refl _) _
          have hz2 := hb2.size
          have hz4 := hb4.size
          have hz6 := hb6.size
          have hz1 := hb1.size
          have hq1 := h1.lt
          have hq2 := h2.lt
          have hq4 := h4.lt
          have hq6 := h6.lt
          have hd0 : w0.drew.heap.size = w0.heap.size := rfl
          have hbd : Below w0.heap.size w0 w0.drew := ⟨rfl, rfl, rfl, Nat.le_refl _, fun _ _ => rfl⟩
          exact H _ _ _ _ _ _ ⟨heap_alloc_new _ _, (h1.below hbx), ((((h2.below hb4).below hb6).below hb1).below hbx), (((h4.below hb6).below hb1).below hbx), ((h6.below hb1).below hbx), (Below.later (Below.later (Below.later (Below.later (Below.later hbd hb2) hb4) hb6) hb1) hbx), ⟨by omega, by omega, by omega, by omega, by omega⟩, ⟨by omega, by omega, by omega, by omega, by omega, by omega, by omega, by omega, by omega, by omega⟩⟩
    · try simp only [List.getElem_toArray, List.getElem_cons_zero, List.getElem_cons_succ]
      go_simp
      refine (roomFor_any Le.length w0.drew hl8).mono ?_
      rintro e v4 ⟨g4, rfl, hlo4, h4, hb4⟩
      go_wp2_with fail
      refine hK.out _ _ trivial (fun hHeld4 => ?_)
      clear hK K
      (try simp only [Act.put]); (try simp only [List.setIfInBounds_toArray]); (try simp only [List.set_cons_succ]); (try simp only [List.set_cons_zero])
      refine wpAnyH_ready (rs := [1, 2, 6]) (by kernel_rfl) (by simp) (AllReadyH.cons rfl (fun K hK => ?_) (AllReadyH.cons rfl (fun K hK => ?_) (AllReadyH.cons rfl (fun K hK => ?_) AllReadyH.nil)))
      · obtain ⟨v1, hrun, h1, hb1⟩ := make_rows Le.length v4 hl1
        try simp only [List.getElem_toArray, List.getElem_cons_zero, List.getElem_cons_succ]
        go_simp
        clear hrun
        refine hK.out _ _ trivial (fun hHeld1 => ?_)
        clear hK K
        (try simp only [Act.put]); (try simp only [List.setIfInBounds_toArray]); (try simp only [List.set_cons_succ]); (try simp only [List.set_cons_zero])
        refine wpAnyH_ready (rs := [2, 6]) (by kernel_rfl) (by simp) (AllReadyH.cons rfl (fun K hK => ?_) (AllReadyH.cons rfl (fun K hK => ?_) AllReadyH.nil))
        · obtain ⟨v2, hrun, h2, hb2⟩ := make_map v1
          try simp only [List.getElem_toArray, List.getElem_cons_zero, List.getElem_cons_succ]
          go_simp
          clear hrun
          refine hK.out _ _ trivial (fun hHeld2 => ?_)
          clear hK K
          (try simp only [Act.put]); (try simp only [List.setIfInBounds_toArray]); (try simp only [List.set_cons_succ]); (try simp only [List.set_cons_zero])
          refine wpAnyH_ready (rs := [6]) (by kernel_rfl) (by simp) (AllReadyH.cons rfl (fun K hK => ?_) AllReadyH.nil)
          try simp only [List.getElem_toArray, List.getElem_cons_zero, List.getElem_cons_succ]
          go_simp
          refine (roomFor_any Le.length v2 hl8).mono ?_
          rintro e v6 ⟨g6, rfl, hlo6, h6, hb6⟩
          go_wp2_with fail
          refine hK.out _ _ trivial (fun hHeld6 => ?_)
          clear hK K
          (try simp only [Act.put]); (try simp only [List.setIfInBounds_toArray]); (try simp only [List.set_cons_succ]); (try simp only [List.set_cons_zero])
          refine tkV (i := 7) (d := some 25) (v := ?_) rfl (by kernel_rfl) (by kernel_rfl) (by kernel_rfl) rfl (fun _ _ _ h => h) (by rfl) ?_ (by assumption) ?_
          rotate_left
          · (intro w hSw; (try dsimp only at hSw); (try simp only [List.getElem_toArray, List.getElem_cons_zero, List.getElem_cons_succ]); go_simp; try with_reducible rfl)
          try simp only [Act.put, List.setIfInBounds_toArray, List.set_cons_zero, List.set_cons_succ]
          refine wpAnyH_ready (rs := [8]) (by kernel_rfl) (by simp) (AllReadyH.cons rfl (fun K hK => ?_) AllReadyH.nil)
          try simp only [List.getElem_toArray, List.getElem_cons_zero, List.getElem_cons_succ]
          go_simp
          refine hK.out _ _ trivial (fun hHeld8 => ?_)
          clear hK K
          (try simp only [Act.put]); (try simp only [List.setIfInBounds_toArray]); (try simp only [List.set_cons_succ]); (try simp only [List.set_cons_zero])
          refine tkV (i := 9) (d := some 6) (v := ?_) rfl (by kernel_rfl) (by kernel_rfl) (by kernel_rfl) rfl (fun _ _ _ h => h) (by rfl) ?_ (by assumption) ?_
          rotate_left
          · (intro w hSw; (try dsimp only at hSw); (try simp only [List.getElem_toArray, List.getElem_cons_zero, List.getElem_cons_succ]); go_simp; try with_reducible rfl)
          try simp only [Act.put, List.setIfInBounds_toArray, List.set_cons_zero, List.set_cons_succ]
          refine wpAnyH_done (by kernel_rfl) ?_ _
          refine NoPanic.normal ?_
          have hbx : Below v6.heap.size v6 (v6.alloc (.cells #[.slice (some ⟨v4.heap.size, 0, none⟩) Le.length Le.length, .map (some v1.heap.size), .slice none 0 0, .slice (some ⟨g4, 0, none⟩) ((Le.length + 511) / 512) ((Le.length + 511) / 512), .slice (some ⟨g6, 0, none⟩) ((Le.length + 511) / 512) ((Le.length + 511) / 512)] 121)) := (Below.refl _ _).alloc (Nat.le_refl _) _
          have hz4 := hb4.size
          have hz1 := hb1.size
          have hz2 := hb2.size
          have hz6 := hb6.size
          have hq1 := h1.lt
          have hq2 := h2.lt
          have hq4 := h4.lt
          have hq6 := h6.lt
          have hd0 : w0.drew.heap.size = w0.heap.size := rfl
          have hbd : Below w0.heap.size w0 w0.drew := ⟨rfl, rfl, rfl, Nat.le_refl _, fun _ _ => rfl⟩
          exact H _ _ _ _ _ _ ⟨heap_alloc_new _ _, (((h1.below hb2).below hb6).below hbx), ((h2.below hb6).below hbx), ((((h4.below hb1).below hb2).below hb6).below hbx), (h6.below hbx), (Below.later (Below.later (Below.later (Below.later (Below.later hbd hb4) hb1) hb2) hb6) hbx), ⟨by omega, by omega, by omega, by omega, by omega⟩, ⟨by omega, by omega, by omega, by omega, by omega, by omega, by omega, by omega, by omega, by omega⟩⟩
        · try simp only [List.getElem_toArray, List.getElem_cons_zero, List.getElem_cons_succ]
          go_simp
          refine (roomFor_any Le.length v1 hl8).mono ?_
          rintro e v6 ⟨g6, rfl, hlo6, h6, hb6⟩
          go_wp2_with fail
          refine hK.out _ _ trivial (fun hHeld6 => ?_)
          clear hK K
          (try simp only [Act.put]); (try simp only [List.setIfInBounds_toArray]); (try simp only [List.set_cons_succ]); (try simp only [List.set_cons_zero])
          refine wpAnyH_ready (rs := [2]) (by kernel_rfl) (by simp) (AllReadyH.cons rfl (fun K hK => ?_) AllReadyH.nil)
          obtain ⟨v2, hrun, h2, hb2⟩ := make_map v6
          try simp only [List.getElem_toArray, List.getElem_cons_zero, List.getElem_cons_succ]
          go_simp
          clear hrun
          refine hK.out _ _ trivial (fun hHeld2 => ?_)
          clear hK K
          (try simp only [Act.put]); (try simp only [List.setIfInBounds_toArray]); (try simp only [List.set_cons_succ]); (try simp only [List.set_cons_zero])
          refine tkV (i := 7) (d := some 25) (v := ?_) rfl (by kernel_rfl) (by kernel_rfl) (by kernel_rfl) rfl (fun _ _ _ h => h) (by rfl) ?_ (by assumption) ?_
          rotate_left
          · (intro w hSw; (try dsimp only at hSw); (try simp only [List.getElem_toArray, List.getElem_cons_zero, List.getElem_cons_succ]); go_simp; try with_reducible rfl)
          try simp only [Act.put, List.setIfInBounds_toArray, List.set_cons_zero, List.set_cons_succ]
          refine wpAnyH_ready (rs := [8]) (by kernel_rfl) (by simp) (AllReadyH.cons rfl (fun K hK => ?_) AllReadyH.nil)
          try simp only [List.getElem_toArray, List.getElem_cons_zero, List.getElem_cons_succ]
          go_simp
          refine hK.out _ _ trivial (fun hHeld8 => ?_)
          clear hK K
          (try simp only [Act.put]); (try simp only [List.setIfInBounds_toArray]); (try simp only [List.set_cons_succ]); (try simp only [List.set_cons_zero])
          refine tkV (i := 9) (d := some 6) (v := ?_) rfl (by kernel_rfl) (by kernel_rfl) (by kernel_rfl) rfl (fun _ _ _ h => h) (by rfl) ?_ (by assumption) ?_
          rotate_left
          · (intro w hSw; (try dsimp only at hSw); (try simp only [List.getElem_toArray, List.getElem_cons_zero, List.getElem_cons_succ]); go_simp; try with_reducible rfl)
          try simp only [Act.put, List.setIfInBounds_toArray, List.set_cons_zero, List.set_cons_succ]
          refine wpAnyH_done (by kernel_rfl) ?_ _
          refine NoPanic.normal ?_
          have hbx : Below v2.heap.size v2 (v2.alloc (.cells #[.slice (some ⟨v4.heap.size, 0, none⟩) Le.length Le.length, .map (some v6.heap.size), .slice none 0 0, .slice (some ⟨g4, 0, none⟩) ((Le.length + 511) / 512) ((Le.length + 511) / 512), .slice (some ⟨g6, 0, none⟩) ((Le.length + 511) / 512) ((Le.length + 511) / 512)] 121)) := (Below.refl _ _).alloc (Nat.le_refl _) _
          have hz4 := hb4.size
          have hz1 := hb1.size
          have hz6 := hb6.size
          have hz2 := hb2.size
          have hq1 := h1.lt
          have hq2 := h2.lt
          have hq4 := h4.lt
          have hq6 := h6.lt
          have hd0 : w0.drew.heap.size = w0.heap.size := rfl
          have hbd : Below w0.heap.size w0 w0.drew := ⟨rfl, rfl, rfl, Nat.le_refl _, fun _ _ => rfl⟩
          exact H _ _ _ _ _ _ ⟨heap_alloc_new _ _, (((h1.below hb6).below hb2).below hbx), (h2.below hbx), ((((h4.below hb1).below hb6).below hb2).below hbx), ((h6.below hb2).below hbx), (Below.later (Below.later (Below.later (Below.later (Below.later hbd hb4) hb1) hb6) hb2) hbx), ⟨by omega, by omega, by omega, by omega, by omega⟩, ⟨by omega, by omega, by omega, by omega, by omega, by omega, by omega, by omega, by omega, by omega⟩⟩
      · obtain ⟨v2, hrun, h2, hb2⟩ := make_map v4
        try simp only [List.getElem_toArray, List.getElem_cons_zero, List.getElem_cons_succ]
        go_simp
        clear hrun
        refine hK.out _ _ trivial (fun hHeld2 => ?_)
        clear hK K
        (try simp only [Act.put]); (try simp only [List.setIfInBounds_toArray]); (try simp only [List.set_cons_succ]); (try simp only [List.set_cons_zero])
        refine wpAnyH_ready (rs := [1, 6]) (by kernel_rfl) (by simp) (AllReadyH.cons rfl (fun K hK => ?_) (AllReadyH.cons rfl (fun K hK => ?_) AllReadyH.nil))
        · obtain ⟨v1, hrun, h1, hb1⟩ := make_rows Le.length v2 hl1
          try simp only [List.getElem_toArray, List.getElem_cons_zero, List.getElem_cons_succ]
          go_simp
          clear hrun
          refine hK.out _ _ trivial (fun hHeld1 => ?_)
          clear hK K
          (try simp only [Act.put]); (try simp only [List.setIfInBounds_toArray]); (try simp only [List.set_cons_succ]); (try simp only [List.set_cons_zero])
          refine wpAnyH_ready (rs := [6]) (by kernel_rfl) (by simp) (AllReadyH.cons rfl (fun K hK => ?_) AllReadyH.nil)
          try simp only [List.getElem_toArray, List.getElem_cons_zero, List.getElem_cons_succ]
          go_simp
          refine (roomFor_any Le.length v1 hl8).mono ?_
          rintro e v6 ⟨g6, rfl, hlo6, h6, hb6⟩
          go_wp2_with fail
          refine hK.out _ _ trivial (fun hHeld6 => ?_)
          clear hK K
          (try simp only [Act.put]); (try simp only [List.setIfInBounds_toArray]); (try simp only [List.set_cons_succ]); (try simp only [List.set_cons_zero])
          refine tkV (i := 7) (d := some 25) (v := ?_) rfl (by kernel_rfl) (by kernel_rfl) (by kernel_rfl) rfl (fun _ _ _ h => h) (by rfl) ?_ (by assumption) ?_
          rotate_left
          · (intro w hSw; (try dsimp only at hSw); (try simp only [List.getElem_toArray, List.getElem_cons_zero, List.getElem_cons_succ]); go_simp; try with_reducible rfl)
          try simp only [Act.put, List.setIfInBounds_toArray, List.set_cons_zero, List.set_cons_succ]
          refine wpAnyH_ready (rs := [8]) (by kernel_rfl) (by simp) (AllReadyH.cons rfl (fun K hK => ?_) AllReadyH.nil)
          try simp only [List.getElem_toArray, List.getElem_cons_zero, List.getElem_cons_succ]
          go_simp
          refine hK.out _ _ trivial (fun hHeld8 => ?_)
          clear hK K
          (try simp only [Act.put]); (try simp only [List.setIfInBounds_toArray]); (try simp only [List.set_cons_succ]); (try simp only [List.set_cons_zero])
          refine tkV (i := 9) (d := some 6) (v := ?_) rfl (by kernel_rfl) (by kernel_rfl) (by kernel_rfl) rfl (fun _ _ _ h => h) (by rfl) ?_ (by assumption) ?_
          rotate_left
          · (intro w hSw; (try dsimp only at hSw); (try simp only [List.getElem_toArray, List.getElem_cons_zero, List.getElem_cons_succ]); go_simp; try with_reducible rfl)
          try simp only [Act.put, List.setIfInBounds_toArray, List.set_cons_zero, List.set_cons_succ]
          refine wpAnyH_done (by kernel_rfl) ?_ _
          refine NoPanic.normal ?_
          have hbx : Below v6.heap.size v6 (v6.alloc (.cells #[.slice (some ⟨v2.heap.size, 0, none⟩) Le.length Le.length, .map (some v4.heap.size), .slice none 0 0, .slice (some ⟨g4, 0, none⟩) ((Le.length + 511) / 512) ((Le.length + 511) / 512), .slice (some ⟨g6, 0, none⟩) ((Le.length + 511) / 512) ((Le.length + 511) / 512)] 121)) := (Below.refl _ _).alloc (Nat.le_refl _) _
          have hz4 := hb4.size
          have hz2 := hb2.size
          have hz1 := hb1.size
          have hz6 := hb6.size
          have hq1 := h1.lt
          have hq2 := h2.lt
          have hq4 := h4.lt
          have hq6 := h6.lt
          have hd0 : w0.drew.heap.size = w0.heap.size := rfl
          have hbd : Below w0.heap.size w0 w0.drew := ⟨rfl, rfl, rfl, Nat.le_refl _, fun _ _ => rfl⟩
          exact H _ _ _ _ _ _ ⟨heap_alloc_new _ _, ((h1.below hb6).below hbx), (((h2.below hb1).below hb6).below hbx), ((((h4.below hb2).below hb1).below hb6).below hbx), (h6.below hbx), (Below.later (Below.later (Below.later (Below.later (Below.later hbd hb4) hb2) hb1) hb6) hbx), ⟨by omega, by omega, by omega, by omega, by omega⟩, ⟨by omega, by omega, by omega, by omega, by omega, by omega, by omega, by omega, by omega, by omega⟩⟩
        · try simp only [List.getElem_toArray, List.getElem_cons_zero, List.getElem_cons_succ]
          go_simp
          refine (roomFor_any Le.length v2 hl8).mono ?_
          rintro e v6 ⟨g6, rfl, hlo6, h6, hb6⟩
          go_wp2_with fail
          refine hK.out _ _ trivial (fun hHeld6 => ?_)
          clear hK K
          (try simp only [Act.put]); (try simp only [List.setIfInBounds_toArray]); (try simp only [List.set_cons_succ]); (try simp only [List.set_cons_zero])
          refine wpAnyH_ready (rs := [1]) (by kernel_rfl) (by simp) (AllReadyH.cons rfl (fun K hK => ?_) AllReadyH.nil)
          obtain ⟨v1, hrun, h1, hb1⟩ := make_rows Le.length v6 hl1
          try simp only [List.getElem_toArray, List.getElem_cons_zero, List.getElem_cons_succ]
          go_simp
          clear hrun
          refine hK.out _ _ trivial (fun hHeld1 => ?_)
          clear hK K
          (try simp only [Act.put]); (try simp only [List.setIfInBounds_toArray]); (try simp only [List.set_cons_succ]); (try simp only [List.set_cons_zero])
          refine tkV (i := 7) (d := some 25) (v := ?_) rfl (by kernel_rfl) (by kernel_rfl) (by kernel_rfl) rfl (fun _ _ _ h => h) (by rfl) ?_ (by assumption) ?_
          rotate_left
          · (intro w hSw; (try dsimp only at hSw); (try simp only [List.getElem_toArray, List.getElem_cons_zero, List.getElem_cons_succ]); go_simp; try with_reducible rfl)
          try simp only [Act.put, List.setIfInBounds_toArray, List.set_cons_zero, List.set_cons_succ]
          refine wpAnyH_ready (rs := [8]) (by kernel_rfl) (by simp) (AllReadyH.cons rfl (fun K hK => ?_) AllReadyH.nil)
          try simp only [List.getElem_toArray, List.getElem_cons_zero, List.getElem_cons_succ]
          go_simp
          refine hK.out _ _ trivial (fun hHeld8 => ?_)
          clear hK K
          (try simp only [Act.put]); (try simp only [List.setIfInBounds_toArray]); (try simp only [List.set_cons_succ]); (try simp only [List.set_cons_zero])
          refine tkV (i := 9) (d := some 6) (v := ?_) rfl (by kernel_rfl) (by kernel_rfl) (by kernel_rfl) rfl (fun _ _ _ h => h) (by rfl) ?_ (by assumption) ?_
          rotate_left
          · (intro w hSw; (try dsimp only at hSw); (try simp only [List.getElem_toArray, List.getElem_cons_zero, List.getElem_cons_succ]); go_simp; try with_reducible rfl)
          try simp only [Act.put, List.setIfInBounds_toArray, List.set_cons_zero, List.set_cons_succ]
          refine wpAnyH_done (by kernel_rfl) ?_ _
          refine NoPanic.normal ?_
          have hbx : Below v1.heap.size v1 (v1.alloc (.cells #[.slice (some ⟨v6.heap.size, 0, none⟩) Le.length Le.length, .map (some v4.heap.size), .slice none 0 0, .slice (some ⟨g4, 0, none⟩) ((Le.length + 511) / 512) ((Le.length + 511) / 512), .slice (some ⟨g6, 0, none⟩) ((Le.length + 511) / 512) ((Le.length + 511) / 512)] 121)) := (Below.refl _ _).alloc (Nat.le_refl _) _
          have hz4 := hb4.size
          have hz2 := hb2.size
          have hz6 := hb6.size
          have hz1 := hb1.size
          have hq1 := h1.lt
          have hq2 := h2.lt
          have hq4 := h4.lt
          have hq6 := h6.lt
          have hd0 : w0.drew.heap.size = w0.heap.size := rfl
          have hbd : Below w0.heap.size w0 w0.drew := ⟨rfl, rfl, rfl, Nat.le_refl _, fun _ _ => rfl⟩
          exact H _ _ _ _ _ _ ⟨heap_alloc_new _ _, (h1.below hbx), (((h2.below hb6).below hb1).below hbx), ((((h4.below hb2).below hb6).below hb1).below hbx), ((h6.below hb1).below hbx), (Below.later (Below.later (Below.later (Below.later (Below.later hbd hb4) hb2) hb6) hb1) hbx), ⟨by omega, by omega, by omega, by omega, by omega⟩, ⟨by omega, by omega, by omega, by omega, by omega, by omega, by omega, by omega, by omega, by omega⟩⟩
      · try simp only [List.getElem_toArray, List.getElem_cons_zero, List.getElem_cons_succ]
        go_simp
        refine (roomFor_any Le.length v4 hl8).mono ?_
        rintro e v6 ⟨g6, rfl, hlo6, h6, hb6⟩
        go_wp2_with fail
        refine hK.out _ _ trivial (fun hHeld6 => ?_)
        clear hK K
        (try simp only [Act.put]); (try simp only [List.setIfInBounds_toArray]); (try simp only [List.set_cons_succ]); (try simp only [List.set_cons_zero])
        refine wpAnyH_ready (rs := [1, 2]) (by kernel_rfl) (by simp) (AllReadyH.cons rfl (fun K hK => ?_) (AllReadyH.cons rfl (fun K hK => ?_) AllReadyH.nil))
        · obtain ⟨v1, hrun, h1, hb1⟩ := make_rows Le.length v6 hl1
          try simp only [List.getElem_toArray, List.getElem_cons_zero, List.getElem_cons_succ]
          go_simp
          clear hrun
          refine hK.out _ _ trivial (fun hHeld1 => ?_)
          clear hK K
          (try simp only [Act.put]); (try simp only [List.setIfInBounds_toArray]); (try simp only [List.set_cons_succ]); (try simp only [List.set_cons_zero])
          refine wpAnyH_ready (rs := [2]) (by kernel_rfl) (by simp) (AllReadyH.cons rfl (fun K hK => ?_) AllReadyH.nil)
          obtain ⟨v2, hrun, h2, hb2⟩ := make_map v1
          try simp only [List.getElem_toArray, List.getElem_cons_zero, List.getElem_cons_succ]
          go_simp
          clear hrun
          refine hK.out _ _ trivial (fun hHeld2 => ?_)
          clear hK K
          (try simp only [Act.put]); (try simp only [List.setIfInBounds_toArray]); (try simp only [List.set_cons_succ]); (try simp only [List.set_cons_zero])
          refine tkV (i := 7) (d := some 25) (v := ?_) rfl (by kernel_rfl) (by kernel_rfl) (by kernel_rfl) rfl (fun _ _ _ h => h) (by rfl) ?_ (by assumption) ?_
          rotate_left
          · (intro w hSw; (try dsimp only at hSw); (try simp only [List.getElem_toArray, List.getElem_cons_zero, List.getElem_cons_succ]); go_simp; try with_reducible rfl)
          try simp only [Act.put, List.setIfInBounds_toArray, List.set_cons_zero, List.set_cons_succ]
          refine wpAnyH_ready (rs := [8]) (by kernel_rfl) (by simp) (AllReadyH.cons rfl (fun K hK => ?_) AllReadyH.nil)
          try simp only [List.getElem_toArray, List.getElem_cons_zero, List.getElem_cons_succ]
          go_simp
          refine hK.out _ _ trivial (fun hHeld8 => ?_)
          clear hK K
          (try simp only [Act.put]); (try simp only [List.setIfInBounds_toArray]); (try simp only [List.set_cons_succ]); (try simp only [List.set_cons_zero])
          refine tkV (i := 9) (d := some 6) (v := ?_) rfl (by kernel_rfl) (by kernel_rfl) (by kernel_rfl) rfl (fun _ _ _ h => h) (by rfl) ?_ (by assumption) ?_
          rotate_left
          · (intro w hSw; (try dsimp only at hSw); (try simp only [List.getElem_toArray, List.getElem_cons_zero, List.getElem_cons_succ]); go_simp; try with_reducible rfl)
          try simp only [Act.put, List.setIfInBounds_toArray, List.set_cons_zero, List.set_cons_succ]
          refine wpAnyH_done (by kernel_rfl) ?_ _
          refine NoPanic.normal ?_
          have hbx : Below v2.heap.size v2 (v2.alloc (.cells #[.slice (some ⟨v6.heap.size, 0, none⟩) Le.length Le.length, .map (some v1.heap.size), .slice none 0 0, .slice (some ⟨g4, 0, none⟩) ((Le.length + 511) / 512) ((Le.length + 511) / 512), .slice (some ⟨g6, 0, none⟩) ((Le.length + 511) / 512) ((Le.length + 511) / 512)] 121)) := (Below.refl _ _).alloc (Nat.le_refl _) _
          have hz4 := hb4.size
          have hz6 := hb6.size
          have hz1 := hb1.size
          have hz2 := hb2.size
          have hq1 := h1.lt
          have hq2 := h2.lt
          have hq4 := h4.lt
          have hq6 := h6.lt
          have hd0 : w0.drew.heap.size = w0.heap.size := rfl
          have hbd : Below w0.heap.size w0 w0.drew := ⟨rfl, rfl, rfl, Nat.le_refl _, fun _ _ => rfl⟩
          exact H _ _ _ _ _ _ ⟨heap_alloc_new _ _, ((h1.below hb2).below hbx), (h2.below hbx), ((((h4.below hb6).below hb1).below hb2).below hbx), (((h6.below hb1).below hb2).below hbx), (Below.later (Below.later (Below.later (Below.later (Below.later hbd hb4) hb6) hb1) hb2) hbx), ⟨by omega, by omega, by omega, by omega, by omega⟩, ⟨by omega, by omega, by omega, by omega, by omega, by omega, by omega, by omega, by omega, by omega⟩⟩
        · obtain ⟨v2, hrun, h2, hb2⟩ := make_map v6
          try simp only [List.getElem_toArray, List.getElem_cons_zero, List.getElem_cons_succ]
          go_simp
          clear hrun
          refine hK.out _ _ trivial (fun hHeld2 => ?_)
          clear hK K
          (try simp only [Act.put]); (try simp only [List.setIfInBounds_toArray]); (try simp only [List.set_cons_succ]); (try simp only [List.set_cons_zero])
          refine wpAnyH_ready (rs := [1]) (by kernel_rfl) (by simp) (AllReadyH.cons rfl (fun K hK => ?_) AllReadyH.nil)
          obtain ⟨v1, hrun, h1, hb1⟩ := make_rows Le.length v2 hl1
          try simp only [List.getElem_toArray, List.getElem_cons_zero, List.getElem_cons_succ]
          go_simp
          clear hrun
          refine hK.out _ _ trivial (fun hHeld1 => ?_)
          clear hK K
          (try simp only [Act.put]); (try simp only [List.setIfInBounds_toArray]); (try simp only [List.set_cons_succ]); (try simp only [List.set_cons_zero])
          refine tkV (i := 7) (d := some 25) (v := ?_) rfl (by kernel_rfl) (by kernel_rfl) (by kernel_rfl) rfl (fun _ _ _ h => h) (by rfl) ?_ (by assumption) ?_
          rotate_left
          · (intro w hSw; (try dsimp only at hSw); (try simp only [List.getElem_toArray, List.getElem_cons_zero, List.getElem_cons_succ]); go_simp; try with_reducible rfl)
          try simp only [Act.put, List.setIfInBounds_toArray, List.set_cons_zero, List.set_cons_succ]
          refine wpAnyH_ready (rs := [8]) (by kernel_rfl) (by simp) (AllReadyH.cons rfl (fun K hK => ?_) AllReadyH.nil)
          try simp only [List.getElem_toArray, List.getElem_cons_zero, List.getElem_cons_succ]
          go_simp
          refine hK.out _ _ trivial (fun hHeld8 => ?_)
          clear hK K
          (try simp only [Act.put]); (try simp only [List.setIfInBounds_toArray]); (try simp only [List.set_cons_succ]); (try simp only [List.set_cons_zero])
          refine tkV (i := 9) (d := some 6) (v := ?_) rfl (by kernel_rfl) (by kernel_rfl) (by kernel_rfl) rfl (fun _ _ _ h => h) (by rfl) ?_ (by assumption) ?_
          rotate_left
          · (intro w hSw; (try dsimp only at hSw); (try simp only [List.getElem_toArray, List.getElem_cons_zero, List.getElem_cons_succ]); go_simp; try with_reducible rfl)
          try simp only [Act.put, List.setIfInBounds_toArray, List.set_cons_zero, List.set_cons_succ]
          refine wpAnyH_done (by kernel_rfl) ?_ _
          refine NoPanic.normal ?_
          have hbx : Below v1.heap.size v1 (v1.alloc (.cells #[.slice (some ⟨v2.heap.size, 0, none⟩) Le.length Le.length, .map (some v6.heap.size), .slice none 0 0, .slice (some ⟨g4, 0, none⟩) ((Le.length + 511) / 512) ((Le.length + 511) / 512), .slice (some ⟨g6, 0, none⟩) ((Le.length + 511) / 512) ((Le.length + 511) / 512)] 121)) := (Below.refl _ _).alloc (Nat.le_refl _) _
          have hz4 := hb4.size
          have hz6 := hb6.size
          have hz2 := hb2.size
          have hz1 := hb1.size
          have hq1 := h1.lt
          have hq2 := h2.lt
          have hq4 := h4.lt
          have hq6 := h6.lt
          have hd0 : w0.drew.heap.size = w0.heap.size := rfl
          have hbd : Below w0.heap.size w0 w0.drew := ⟨rfl, rfl, rfl, Nat.le_refl _, fun _ _ => rfl⟩
          exact H _ _ _ _ _ _ ⟨heap_alloc_new _ _, (h1.below hbx), ((h2.below hb1).below hbx), ((((h4.below hb6).below hb2).below hb1).below hbx), (((h6.below hb2).below hb1).below hbx), (Below.later (Below.later (Below.later (Below.later (Below.later hbd hb4) hb6) hb2) hb1) hbx), ⟨by omega, by omega, by omega, by omega, by omega⟩, ⟨by omega, by omega, by omega, by omega, by omega, by omega, by omega, by omega, by omega, by omega⟩⟩
  intro gF mp ga gn B W hI
  have hFl := HFl.out
  have hs0 := HZ0.out
  apply hK0
  obtain ⟨hL, hA⟩ := hI.beginj Fo
  have HL0 := hid0 hL
  have HAp := hid0 hA
  obtain ⟨y0, y1, y3⟩ := HC5.out W hL.bel
  obtain ⟨j0, hj, hy0, hy1, hy2⟩ := info_parts infoRow
  clear hK0 hI hL hA c0 c1 c2 c3 c4
  go_wp2
  go_loopw [30] (fun i wr => ∃ k : Nat, k ≤ Fo.length ∧ i = .int .i64 (k : Int) ∧ Hid (NwLj w0 wr Le.length ((Le.length + 511) / 512) gF mp ga gn B k [] Fo (.slice none 0 0))) (fun i _ => Fo.length - (intOf i).toNat)
  case atStart => exact ⟨0, Nat.zero_le _, rfl, HL0⟩
  case round =>
    clear HL0 y0 y1 y3
    obtain ⟨k, hk, rfl, HL⟩ := hrel
    by_cases hlt : k < Fo.length
    · obtain ⟨b, off, rfl, hbl, a1, c1, d1, i1, hbk⟩ := HFb.out.at' k hlt
      have hBw := HBW.out wr HL.out.bel
      have d1' := (hBw.cell (p := ⟨b, off + k, none⟩) hbl).trans d1
      have hkI : (k : Int) < (Fo.length : Int) := by omega
      have hkI2 : (k : Int) < (Le.length : Int) := by omega
      have hkL : k < Le.length := by omega
      have hkI0 : (0 : Int) ≤ (k : Int) := by omega
      have hrl := HP.out.r4 _ (List.getElem_mem hlt)
      have HRo := hid0 (rowOfj_any Le.length Fo[k] a1 c1 wr.drew hl8 (by omega) (HSd.out.2.2 _ (List.getElem_mem hlt)) ((i1.past hBw).past (drewj_below wr)))
      have HXx : Hid (∀ (x : Option Nat) (w2 : World), (x = blkL a1 Fo[k] ∨ ∃ b, x = some b ∧ wr.drew.heap.size ≤ b ∧ b < w2.heap.size) → Below wr.drew.heap.size wr.drew w2 → ∀ b, x = some b → b < w2.heap.size ∧ Othj gF mp ga gn B b) := hid0 (fun x w2 hx hb2 b e => by
        rcases hx with rfl | ⟨b', rfl, h1, h2⟩
        · obtain ⟨hne, p, hpa, hpb⟩ := blkL_none e
          subst hpb
          have h3 := hbk hne p hpa
          have h4 := hBw.size
          have h5 := hb2.size
          exact ⟨Nat.lt_of_lt_of_le (Nat.lt_of_lt_of_le h3 h4) h5, othj_old HAp.out (by have h6 : p.block < w.heap.size := h3; show p.block < _; omega)⟩
        · cases e
          exact ⟨h2, othj_new HL.out h1⟩)
      clear d1 i1 hbk hBw
      go_upto_region 6 with fail
      refine wp_region_noPanic ?_
      refine wp_region_held_drew (S := (fun V => V.cell? ⟨B, 0, none⟩ = some (.slice (some ⟨gF, 0, none⟩) Le.length Le.length))) (by kernel_rfl) ?_ (fun hHeld => ?_)
      · exact HL.out.cells.1
      refine tkV (i := 0) (d := some 35) (v := ?_) rfl (by kernel_rfl) (by kernel_rfl) (by kernel_rfl) rfl (fun _ _ _ h => h) (by rfl) ?_ (by assumption) ?_
      rotate_left
      · (intro w hSw; (try dsimp only at hSw); (try simp only [List.getElem_toArray, List.getElem_cons_zero]); go_simp; try with_reducible rfl)
      try simp only [Act.put, List.setIfInBounds_toArray, List.set_cons_zero, List.set_cons_succ]
      refine tkV (i := 1) (d := some 36) (v := ?_) rfl (by kernel_rfl) (by kernel_rfl) (by kernel_rfl) rfl (fun _ _ _ h => h) (by rfl) ?_ (by assumption) ?_
      rotate_left
      · (intro w hSw; (try dsimp only at hSw); (try simp only [List.getElem_toArray, List.getElem_cons_zero, List.getElem_cons_succ]); go_simp; try with_reducible rfl)
      try simp only [Act.put, List.setIfInBounds_toArray, List.set_cons_zero, List.set_cons_succ]
      refine tkV (i := 2) (d := some 37) (v := ?_) rfl (by kernel_rfl) (by kernel_rfl) (by kernel_rfl) rfl (fun _ _ _ h => h) (by rfl) ?_ (by assumption) ?_
      rotate_left
      · (intro w hSw; (try dsimp only at hSw); (try simp only [List.getElem_toArray, List.getElem_cons_zero, List.getElem_cons_succ]); go_simp; try with_reducible rfl)
      try simp only [Act.put, List.setIfInBounds_toArray, List.set_cons_zero, List.set_cons_succ]
      refine tkV (i := 3) (d := some 38) (v := ?_) rfl (by kernel_rfl) (by kernel_rfl) (by kernel_rfl) rfl (fun _ _ _ h => h) (by rfl) ?_ (by assumption) ?_
      rotate_left
      · (intro w hSw; (try dsimp only at hSw); (try simp only [List.getElem_toArray, List.getElem_cons_zero, List.getElem_cons_succ]); go_simp; try with_reducible rfl)
      try simp only [Act.put, List.setIfInBounds_toArray, List.set_cons_zero, List.set_cons_succ]
      refine tkV (i := 4) (d := some 39) (v := ?_) rfl (by kernel_rfl) (by kernel_rfl) (by kernel_rfl) rfl (fun _ _ _ h => h) (by rfl) ?_ (by assumption) ?_
      rotate_left
      · (intro w hSw; (try dsimp only at hSw); (try simp only [List.getElem_toArray, List.getElem_cons_zero, List.getElem_cons_succ]); go_simp; try with_reducible rfl)
      try simp only [Act.put, List.setIfInBounds_toArray, List.set_cons_zero, List.set_cons_succ]
      refine tkV (i := 5) (d := some 40) (v := ?_) rfl (by kernel_rfl) (by kernel_rfl) (by kernel_rfl) rfl (fun _ _ _ h => h) (by rfl) ?_ (by assumption) ?_
      rotate_left
      · (intro w hSw; (try dsimp only at hSw); (try simp only [List.getElem_toArray, List.getElem_cons_zero, List.getElem_cons_succ]); go_simp; try with_reducible rfl)
      try simp only [Act.put, List.setIfInBounds_toArray, List.set_cons_zero, List.set_cons_succ]
      refine tkV (i := 6) (d := some 41) (v := ?_) rfl (by kernel_rfl) (by kernel_rfl) (by kernel_rfl) rfl (fun _ _ _ h => h) (by rfl) ?_ (by assumption) ?_
      rotate_left
      · (intro w hSw; (try dsimp only at hSw); (try simp only [List.getElem_toArray, List.getElem_cons_zero, List.getElem_cons_succ]); go_simp; try with_reducible rfl)
      try simp only [Act.put, List.setIfInBounds_toArray, List.set_cons_zero, List.set_cons_succ]
      refine wpAnyH_ready (rs := [7]) (by kernel_rfl) (by simp) (AllReadyH.cons rfl (fun K hK => ?_) AllReadyH.nil)
      try simp only [List.getElem_toArray, List.getElem_cons_zero, List.getElem_cons_succ]
      go_simp
      refine HRo.out.mono ?_
      rintro e w2 ⟨x, v, rfl, hri, hx, hb2⟩
      obtain ⟨a1', n1', c1', a2', n2', c2', rfl⟩ := hri.shape
      have hL2 := HL.out.past (belowj_drew hb2)
      obtain ⟨⟨u0, hu0⟩, hf0⟩ := hL2.fol.cell (k * 2) (by omega)
      obtain ⟨⟨u1, hu1⟩, hf1⟩ := hL2.fol.cell (k * 2 + 1) (by omega)
      have HX : Hid (∀ b, x = some b → b < w2.heap.size ∧ Othj gF mp ga gn B b) := hid0 (HXx.out x w2 hx hb2)
      have HL3 := hid0 (hL2.put HAp.out (by omega) hlt x _ _ hri HX.out)
      have HS2 := hid0 hL2.cells.1
      clear hri hx hb2 hL2
      go_wp2_with fail
      refine hK.out _ _ ?_ (fun hHeld7 => ?_)
      · exact HS2.out
      clear hK K
      (try simp only [Act.put]); (try simp only [List.setIfInBounds_toArray]); (try simp only [List.set_cons_succ]); (try simp only [List.set_cons_zero])
      refine tkV (i := 8) (d := some 43) (v := ?_) rfl (by kernel_rfl) (by kernel_rfl) (by kernel_rfl) rfl (fun _ _ _ h => h) (by rfl) ?_ (by assumption) ?_
      rotate_left
      · (intro w hSw; (try dsimp only at hSw); (try simp only [List.getElem_toArray, List.getElem_cons_zero, List.getElem_cons_succ]); go_simp; try with_reducible rfl)
      try simp only [Act.put, List.setIfInBounds_toArray, List.set_cons_zero, List.set_cons_succ]
      refine wpAnyH_ready (rs := [9]) (by kernel_rfl) (by simp) (AllReadyH.cons rfl (fun K hK => ?_) AllReadyH.nil)
      try simp only [List.getElem_toArray, List.getElem_cons_zero, List.getElem_cons_succ]
      go_simp
      refine hK.out _ _ ?_ (fun hHeld9 => ?_)
      · exact HL3.out.cells.1
      clear hK K
      (try simp only [Act.put]); (try simp only [List.setIfInBounds_toArray]); (try simp only [List.set_cons_succ]); (try simp only [List.set_cons_zero])
      refine wpAnyH_done (by kernel_rfl) ?_ _
      refine NoPanic.normal ?_
      go_wp2
      go_roundw
      case rel => exact ⟨k + 1, by omega, by go_num, HL3⟩
      case measure => simp [intOf]; omega
    · have hke : k = Fo.length := by omega
      subst hke
      have HL1 := HL
      clear HL
      go_wp2
      go_loopw [47] (fun i wr => ∃ (k : Nat) (ks : List Int), k ≤ Wd.length ∧ i = .int .i64 (k : Int) ∧ Hid (NwLj w0 wr Le.length ((Le.length + 511) / 512) gF mp ga gn B Fo.length ks Fo (.slice none 0 0)) ∧ Hid (ks.Nodup ∧ ks.length ≤ k ∧ (∀ c, c ∈ ks ↔ c ∈ Wd.take k))) (fun i _ => Wd.length - (intOf i).toNat)
      case atStart => exact ⟨0, [], Nat.zero_le _, rfl, HL1, hid0 ⟨List.nodup_nil, Nat.le_refl _, fun c => by simp⟩⟩
      case round =>
        clear HL1
        obtain ⟨k, ks, hk, rfl, HL, HKs⟩ := hrel
        by_cases hlt : k < Wd.length
        · have hBw := HBW.out wr HL.out.bel
          obtain ⟨b, off, rfl, _, d1⟩ := (HWd.out.past hBw).at' k hlt
          have hkI : (k : Int) < (Wd.length : Int) := by omega
          have hkI0 : (0 : Int) ≤ (k : Int) := by omega
          have hin := HWi.out _ (List.getElem_mem hlt)
          have HTk : Hid (Wd.take (k + 1) = Wd.take k ++ [Wd[k]]) := hid0 (List.take_succ_eq_append_getElem hlt)
          obtain ⟨q0, q1, q2, q3⟩ := HL.out.cells
          generalize Wd[k] = c at *
          clear hBw
          by_cases hc : c ∈ ks
          · obtain ⟨i, hi, rfl⟩ := List.mem_iff_getElem.1 hc
            have hlk := HL.out.nu.look hi hin
            have HKs2 : Hid (ks.Nodup ∧ ks.length ≤ k + 1 ∧ (∀ c, c ∈ ks ↔ c ∈ Wd.take (k + 1))) := hid0 ⟨HKs.out.1, by have := HKs.out.2.1; omega, fun d => by
              rw [HTk.out, List.mem_append, ← HKs.out.2.2 d, List.mem_singleton]
              exact ⟨fun h => .inl h, fun h => h.elim id (fun e => by rw [e]; exact hc)⟩⟩
            clear hc hin HTk HKs
            generalize ks[i] = c at *
            go_wp2
            go_roundw
            case rel => exact ⟨k + 1, ks, by omega, by go_num, HL, HKs2⟩
            case measure => simp [intOf]; omega
          · have hlk := HL.out.nu.lookNot hc hin
            have hkl : ks.length ≤ 1000000000000 := by have := HKs.out.2.1; omega
            obtain ⟨w2, hrun, hmn, hgr⟩ := (HL.out.nu.below (drewj_below wr)).put hc hin hkl
            have hlen : ∀ ty, (Builtin.len_ #[116] ty #[.map (some mp)]).run Tryd.prog wr.drew = .ok (.int .i64 (ks.length : Int)) wr.drew := fun ty => (HL.out.nu.below (drewj_below wr)).len ty
            have HL2 := hid0 ((HL.out.past (drewj_below wr)).map HAp.out hgr hmn)
            have HKs2 : Hid ((ks ++ [c]).Nodup ∧ (ks ++ [c]).length ≤ k + 1 ∧ (∀ d, d ∈ ks ++ [c] ↔ d ∈ Wd.take (k + 1))) := hid0 ⟨by
              rw [List.nodup_append]
              exact ⟨HKs.out.1, by simp, fun a ha b hb e => hc (by rw [List.mem_singleton.1 hb] at e; exact e ▸ ha)⟩, by have := HKs.out.2.1; simp; omega, fun d => by
              rw [HTk.out, List.mem_append, List.mem_append, HKs.out.2.2 d]⟩
            clear hc hin HTk HKs hmn hgr
            go_upto_region 13 with fail
            go_region
            all_goals
              go_wp2
              go_roundw
              case rel => exact ⟨k + 1, ks ++ [c], by omega, by go_num, HL2, HKs2⟩
              case measure => simp [intOf]; omega
        · have hke : k = Wd.length := by omega
          subst hke
          have HKin : Hid (∀ c ∈ ks, inI c) := hid0 (fun c hc => HWi.out c (by have := (HKs.out.2.2 c).1 hc; rwa [List.take_length] at this))
          have HKall : Hid (∀ c ∈ Wd, c ∈ ks) := hid0 (fun c hc => (HKs.out.2.2 c).2 (by rw [List.take_length]; exact hc))
          have hkl : ks.length ≤ 4000000 := by have := HKs.out.2.1; omega
          have hkp : 0 < ks.length := by
            have h1 := HKall.out _ (List.getElem_mem hw1)
            exact List.length_pos_of_mem h1
          have hBw := HBW.out wr HL.out.bel
          obtain ⟨q0, q1, q2, q3⟩ := HL.out.cells
          obtain ⟨y0, y1, y3⟩ := HC5.out wr HL.out.bel
          have HHd := hid0 (holdersOf_any B mp ks Le aL cL wr hl1 HP.out.r1 HLi.out hkl HKs.out.1 (HP.out.le.past hBw) (Array.getElem?_eq_some_iff.1 HL.out.row).1 q1 HL.out.nu)
          clear HKs hBw
          go_wp2_with (go_at_call 79; go_loud ((
            refine HHd.out.mono ?_
            rintro e Wb ⟨v, rfl, ps, hbag, hhold, hle, hbb⟩
            obtain ⟨H, hH⟩ : ∃ H, ps.map (fun x : Value × List Int => x.2) = H := ⟨_, rfl⟩
            have hhold' : HoldI ks Le Le.length 0 H := by { rw [← hH]; exact hhold }
            obtain ⟨aH, cH, rfl, hrw⟩ := hbag.rwbj hH
            have HHl : Hid (∀ r ∈ H, r.length ≤ 100000000000000) := hid0 (fun r hr => by { rw [← hH] at hr; obtain ⟨x, hx, rfl⟩ := List.mem_map.1 hr; exact hle x hx })
            have hHk : H.length = ks.length := hhold'.len
            have HLb := hid0 (HL.out.past hbb)
            have HRw := hid0 hrw
            have HBb := hid0 hbb
            have HHo := hid0 hhold'
            clear hbag hhold hle hbb hhold' hrw hH)))
          have hbsz := HBb.out.size
          have HBlt := hid0 (Array.getElem?_eq_some_iff.1 HL.out.row).1
          have HOn : Hid (∀ b, wr.heap.size ≤ b → Othj gF mp ga gn B b) := hid0 (fun b hb => othj_new HL.out hb)
          have HW0 := hid0 HL.out.bel.size
          clear HHd q0 q1 q2 q3 y0 y1 y3 HL
          go_loopw [78] (fun i W => ∃ (k : Nat) (vH : Value), k ≤ H.length ∧ i = .int .i64 (k : Int) ∧ Hid (HolJ W Wb ((Le.length + 511) / 512) k H (Othj gF mp ga gn B) vH ∧ Only Wb W (fun b => b = B) ∧ W.heap[B]? = some (.cells #[.slice (some ⟨gF, 0, none⟩) Le.length Le.length, .map (some mp), vH, .slice (some ⟨ga, 0, none⟩) ((Le.length + 511) / 512) ((Le.length + 511) / 512), .slice (some ⟨gn, 0, none⟩) ((Le.length + 511) / 512) ((Le.length + 511) / 512)] 121 (0, 0)))) (fun i _ => H.length - (intOf i).toNat)
          case atStart => exact ⟨0, _, Nat.zero_le _, rfl, hid0 ⟨HolJ.begin _ _ _ _ _, Only.refl _ _, HLb.out.row⟩⟩
          case round =>
            obtain ⟨k, vH, hk, rfl, HI⟩ := hrel
            by_cases hlt : k < H.length
            · obtain ⟨hHo, hOn, hRB⟩ := HI.out
              obtain ⟨b, rfl, hbase, hbl, a1, c1, d1, i1, hbk⟩ := HRw.out k hlt
              have hBl := HBlt.out
              have d1' := (hOn.cell (p := ⟨b, k, none⟩) hbl (by show ¬ b = B; omega)).trans d1
              have i1' := i1.only hOn (fun p hp => by have := (hbk p hp).1; show ¬ p.block = B; omega)
              have hkI : (k : Int) < (H.length : Int) := by omega
              have hkI0 : (0 : Int) ≤ (k : Int) := by omega
              have hrl := HHl.out _ (List.getElem_mem hlt)
              have hall : (H[k]).all (oneOf Le.length) = true := by
                have := HHo.out.inn k
                rwa [List.getD_eq_getElem?_getD, List.getElem?_eq_getElem hlt] at this
              have HRo := hid0 (rowOfj_any Le.length H[k] a1 c1 wr.drew hl8 hrl hall (i1'.past (drewj_below wr)))
              have hs0 : wr.cell? ⟨B, 2, none⟩ = some vH := by rw [cell_of_row _ _ _ _ _ _ hRB]; rfl
              have hBw : B < wr.heap.size := (Array.getElem?_eq_some_iff.1 hRB).1
              have HPut : Hid (∀ (x : Option Nat) (w2 w3 : World) a1' n1' c1' a2' n2' c2', RowJs w2 ((Le.length + 511) / 512) H[k] x (.agg #[.slice a1' n1' c1', .slice a2' n2' c2']) → (x = blkL a1 H[k] ∨ ∃ b, x = some b ∧ wr.drew.heap.size ≤ b ∧ b < w2.heap.size) → Below wr.drew.heap.size wr.drew w2 → w3 = w2.alloc (.cells #[.slice a1' n1' c1', .slice a2' n2' c2'] 142) → ∃ g4 c4 w4, (Builtin.append_ #[115, 115] 115 #[vH, .slice (some ⟨w2.heap.size, 0, none⟩) 1 1]).run Tryd.prog w3 = .ok (.slice (some ⟨g4, 0, none⟩) (k + 1) c4) w4 ∧ w4.cell? ⟨B, 2, none⟩ = some vH ∧ w4.frozen? ⟨B, 2, none⟩ = false ∧ w2.cell? ⟨B, 2, none⟩ = some vH ∧ w3.cell? ⟨B, 2, none⟩ = some vH ∧
                  Hid (HolJ (w4.setCell ⟨B, 2, none⟩ (.slice (some ⟨g4, 0, none⟩) (k + 1) c4)) Wb ((Le.length + 511) / 512) (k + 1) H (Othj gF mp ga gn B) (.slice (some ⟨g4, 0, none⟩) (k + 1) c4) ∧ Only Wb (w4.setCell ⟨B, 2, none⟩ (.slice (some ⟨g4, 0, none⟩) (k + 1) c4)) (fun b => b = B) ∧ (w4.setCell ⟨B, 2, none⟩ (.slice (some ⟨g4, 0, none⟩) (k + 1) c4)).heap[B]? = some (.cells #[.slice (some ⟨gF, 0, none⟩) Le.length Le.length, .map (some mp), .slice (some ⟨g4, 0, none⟩) (k + 1) c4, .slice (some ⟨ga, 0, none⟩) ((Le.length + 511) / 512) ((Le.length + 511) / 512), .slice (some ⟨gn, 0, none⟩) ((Le.length + 511) / 512) ((Le.length + 511) / 512)] 121 (0, 0)))) := hid0 (fun x w2 w3 a1' n1' c1' a2' n2' c2' hri hx hb2 hw3 => by
                have hb2' := belowj_drew hb2
                have hb3 : Below w2.heap.size w2 w3 := by rw [hw3]; exact (Below.refl _ _).alloc (Nat.le_refl _) _
                have hb23 := Below.later hb2' hb3
                have hz3 : w3.heap.size = w2.heap.size + 1 := by rw [hw3]; simp
                have hz2 := hb2'.size
                have hoz := hOn.size
                obtain ⟨xs, hox, hrx⟩ := (hHo.only (Only.ofNew hb23 (fun _ => False)) (fun _ e => e.elim) (fun _ _ e => e))
                have hcl3 : ∀ j u, [Value.slice a1' n1' c1', .slice a2' n2' c2'][j]? = some u → w3.cell? ((⟨w2.heap.size, 0, none⟩ : Addr).add j) = some u := by rw [hw3]; exact cellj_pair_new _ _ _ _
                obtain ⟨v4, w4, hrun4, hown4, hgrow4, _, hat4⟩ := run_append_own_at (P := Tryd.prog) w3 Wb.heap.size 115 115 142 j0 (.agg #[.slice none 0 0, .slice none 0 0]) 2 48 Tryd.underlying115 hj hy0 hy1 hy2 rfl (by decide) vH k xs hox ⟨w2.heap.size, 0, none⟩ 1 1 [.slice a1' n1' c1', .slice a2' n2' c2'] rfl hcl3 (by simp [Value.oneCell']) (by unfold maxLen; omega) (by omega) (by omega)
                have hvb : ∀ g, vH.ownBlock = some g → Wb.heap.size ≤ g ∧ g < wr.heap.size := fun g hg => by
                  obtain ⟨ys, hoy, _⟩ := hHo
                  exact World.ownsRow.lt hoy g hg
                have hXx : ∀ b, x = some b → (b < w3.heap.size ∧ Othj gF mp ga gn B b) ∧ vH.ownBlock ≠ some b := fun b' e => by
                  rcases hx with rfl | ⟨b2, rfl, g1, g2⟩
                  · obtain ⟨_, p, hpa, hpb⟩ := blkL_none e
                    subst hpb
                    have g3 : _ ≤ p.block ∧ p.block < _ := hbk p hpa
                    exact ⟨⟨by show p.block < _; omega, HOn.out _ g3.1⟩, fun e2 => by have g4 : Wb.heap.size ≤ p.block ∧ _ := hvb _ e2; omega⟩
                  · have e3 : b2 = b' := Option.some.inj e
                    have g1' : wr.heap.size ≤ b2 := g1
                    exact ⟨⟨by omega, HOn.out b' (by omega)⟩, fun e2 => by have := hvb b' e2; omega⟩
                obtain ⟨g4, c4, rfl, _⟩ := own_form hown4 (by omega)
                have hHo4 := HolJ.put hox hrx hlt x _ _ (hri.only (Only.ofNew hb3 (fun _ => False)) (fun _ _ e => e)) hXx hown4 hgrow4 hat4
                have hB4 : w4.heap[B]? = _ := (hgrow4.block B (by omega) (fun e => by have := hvb B e.symm; omega)).trans ((hb23.block B hBw).trans hRB)
                have hO4 : Only Wb w4 (fun b => b = B) := (hOn.trans (Only.ofNew hb23 (fun _ => False)) (fun i e => e.elim)).trans (⟨hgrow4.os, hgrow4.tape, hgrow4.output, hgrow4.size, fun i hi hs => hgrow4.block i hi (fun e => hs e.symm)⟩ : Only w3 w4 (fun b => vH.ownBlock = some b)) (fun i hi => .inr (hvb i hi).1)
                have hsB := Only.setCell w4 B 2 (.slice (some ⟨g4, 0, none⟩) (k + 1) c4)
                refine ⟨g4, c4, w4, hrun4, by rw [cell_of_row _ _ _ _ _ _ hB4]; rfl, by simp [World.frozen?, hB4], (hb2'.cell (p := ⟨B, 2, none⟩) hBw).trans hs0, (hb23.cell (p := ⟨B, 2, none⟩) hBw).trans hs0, hid0 ⟨hHo4.only hsB (fun b e => by subst e; omega) (fun b hb => hb.2.2.2.2), hO4.trans hsB (fun i hi => .inl hi), heap_setCell_same _ _ 2 _ _ _ hB4⟩⟩)
              generalize H[k] = Hk at *
              clear HI hHo hOn hRB d1 i1 i1' hbk hall
              go_upto_region 18 with fail
              refine wp_region_noPanic ?_
              refine wp_region_held_drew (S := fun _ => True) (by kernel_rfl) trivial (fun hHeld => ?_)
              refine tkV (i := 0) (d := some 82) (v := ?_) rfl (by kernel_rfl) (by kernel_rfl) (by kernel_rfl) rfl (fun _ _ _ h => h) (by rfl) ?_ (by assumption) ?_
              rotate_left
              · (intro w hSw; (try dsimp only at hSw); (try simp only [List.getElem_toArray, List.getElem_cons_zero]); go_simp; try with_reducible rfl)
              try simp only [Act.put, List.setIfInBounds_toArray, List.set_cons_zero, List.set_cons_succ]
              refine tkV (i := 1) (d := some 83) (v := ?_) rfl (by kernel_rfl) (by kernel_rfl) (by kernel_rfl) rfl (fun _ _ _ h => h) (by rfl) ?_ (by assumption) ?_
              rotate_left
              · (intro w hSw; (try dsimp only at hSw); (try simp only [List.getElem_toArray, List.getElem_cons_zero, List.getElem_cons_succ]); go_simp; try with_reducible rfl)
              try simp only [Act.put, List.setIfInBounds_toArray, List.set_cons_zero, List.set_cons_succ]
              refine tkV (i := 2) (d := some 84) (v := ?_) rfl (by kernel_rfl) (by kernel_rfl) (by kernel_rfl) rfl (fun _ _ _ h => h) (by rfl) ?_ (by assumption) ?_
              rotate_left
              · (intro w hSw; (try dsimp only at hSw); (try simp only [List.getElem_toArray, List.getElem_cons_zero, List.getElem_cons_succ]); go_simp; try with_reducible rfl)
              try simp only [Act.put, List.setIfInBounds_toArray, List.set_cons_zero, List.set_cons_succ]
              refine tkV (i := 3) (d := some 85) (v := ?_) rfl (by kernel_rfl) (by kernel_rfl) (by kernel_rfl) rfl (fun _ _ _ h => h) (by rfl) ?_ (by assumption) ?_
              rotate_left
              · (intro w hSw; (try dsimp only at hSw); (try simp only [List.getElem_toArray, List.getElem_cons_zero, List.getElem_cons_succ]); go_simp; try with_reducible rfl)
              try simp only [Act.put, List.setIfInBounds_toArray, List.set_cons_zero, List.set_cons_succ]
              refine tkV (i := 5) (d := some 87) (v := ?_) rfl (by kernel_rfl) (by kernel_rfl) (by kernel_rfl) rfl (fun _ _ _ h => h) (by rfl) ?_ (by assumption) ?_
              rotate_left
              · (intro w hSw; (try dsimp only at hSw); (try simp only [List.getElem_toArray, List.getElem_cons_zero, List.getElem_cons_succ]); go_simp; try with_reducible rfl)
              try simp only [Act.put, List.setIfInBounds_toArray, List.set_cons_zero, List.set_cons_succ]
              refine tkV (i := 6) (d := some 88) (v := ?_) rfl (by kernel_rfl) (by kernel_rfl) (by kernel_rfl) rfl (fun _ _ _ h => h) (by rfl) ?_ (by assumption) ?_
              rotate_left
              · (intro w hSw; (try dsimp only at hSw); (try simp only [List.getElem_toArray, List.getElem_cons_zero, List.getElem_cons_succ]); go_simp; try with_reducible rfl)
              try simp only [Act.put, List.setIfInBounds_toArray, List.set_cons_zero, List.set_cons_succ]
              refine wpAnyH_ready (rs := [4, 7]) (by kernel_rfl) (by simp) (AllReadyH.cons rfl (fun K hK => ?_) (AllReadyH.cons rfl (fun K hK => ?_) AllReadyH.nil))
              · try simp only [List.getElem_toArray, List.getElem_cons_zero, List.getElem_cons_succ]
                go_simp
                refine hK.out _ _ trivial (fun hHeld4 => ?_)
                clear hK K
                (try simp only [Act.put]); (try simp only [List.setIfInBounds_toArray]); (try simp only [List.set_cons_succ]); (try simp only [List.set_cons_zero])
                refine wpAnyH_ready (rs := [7]) (by kernel_rfl) (by simp) (AllReadyH.cons rfl (fun K hK => ?_) AllReadyH.nil)
                try simp only [List.getElem_toArray, List.getElem_cons_zero, List.getElem_cons_succ]
                go_simp
                refine HRo.out.mono ?_
                rintro e w2 ⟨x, v, rfl, hri, hx, hb2⟩
                obtain ⟨a1', n1', c1', a2', n2', c2', rfl⟩ := hri.shape
                obtain ⟨w3, hw3⟩ : ∃ w3, w3 = w2.alloc (.cells #[.slice a1' n1' c1', .slice a2' n2' c2'] 142) := ⟨_, rfl⟩
                obtain ⟨g4, c4, w4, hrun4, hc4, hf4, hs2, hs3, HH4⟩ := HPut.out x w2 w3 a1' n1' c1' a2' n2' c2' hri hx hb2 hw3
                have HRun := hid0 hrun4
                have hfold3 := hw3.symm
                clear hri hx hb2 hrun4 hw3
                go_wp2_with fail
                refine hK.out _ _ trivial (fun hHeld7 => ?_)
                clear hK K
                (try simp only [Act.put]); (try simp only [List.setIfInBounds_toArray]); (try simp only [List.set_cons_succ]); (try simp only [List.set_cons_zero])
                refine wpAnyH_ready (rs := [8]) (by kernel_rfl) (by simp) (AllReadyH.cons rfl (fun K hK => ?_) AllReadyH.nil)
                try simp only [List.getElem_toArray, List.getElem_cons_zero, List.getElem_cons_succ]
                go_simp
                refine hK.out _ _ trivial (fun hHeld8 => ?_)
                clear hK K
                (try simp only [Act.put]); (try simp only [List.setIfInBounds_toArray]); (try simp only [List.set_cons_succ]); (try simp only [List.set_cons_zero])
                refine wpAnyH_ready (rs := [9]) (by kernel_rfl) (by simp) (AllReadyH.cons rfl (fun K hK => ?_) AllReadyH.nil)
                refine step_append_run rfl (.tmp 86) (.tmp 90) 115 rfl _ _ _ _ HRun.out (by simp [Act.eval]) (by simp [Act.eval]) ?_
                refine hK.out _ _ trivial (fun hHeld9 => ?_)
                clear hK K
                (try simp only [Act.put]); (try simp only [List.setIfInBounds_toArray]); (try simp only [List.set_cons_succ]); (try simp only [List.set_cons_zero])
                refine tkV (i := 10) (d := some 92) (v := ?_) rfl (by kernel_rfl) (by kernel_rfl) (by kernel_rfl) rfl (fun _ _ _ h => h) (by rfl) ?_ (by assumption) ?_
                rotate_left
                · (intro w hSw; (try dsimp only at hSw); (try simp only [List.getElem_toArray, List.getElem_cons_zero, List.getElem_cons_succ]); go_simp; try with_reducible rfl)
                try simp only [Act.put]
                refine tkV (i := 11) (d := some 93) (v := ?_) rfl (by kernel_rfl) (by kernel_rfl) (by kernel_rfl) rfl (fun _ _ _ h => h) (by rfl) ?_ (by assumption) ?_
                rotate_left
                · (intro w hSw; (try dsimp only at hSw); (try simp only [List.getElem_toArray, List.getElem_cons_zero, List.getElem_cons_succ]); go_simp; try with_reducible rfl)
                try simp only [Act.put]
                refine wpAnyH_ready (rs := [12]) (by kernel_rfl) (by simp) (AllReadyH.cons rfl (fun K hK => ?_) AllReadyH.nil)
                try simp only [List.getElem_toArray, List.getElem_cons_zero, List.getElem_cons_succ]
                go_simp
                refine hK.out _ _ trivial (fun hHeld12 => ?_)
                clear hK K
                (try simp only [Act.put]); (try simp only [List.setIfInBounds_toArray]); (try simp only [List.set_cons_succ]); (try simp only [List.set_cons_zero])
                refine wpAnyH_done (by kernel_rfl) ?_ _
                refine NoPanic.normal ?_
                go_wp2
                go_roundw
                case rel => exact ⟨k + 1, _, by omega, by go_num, HH4⟩
                case measure => simp [intOf]; omega
              · try simp only [List.getElem_toArray, List.getElem_cons_zero, List.getElem_cons_succ]
                go_simp
                refine HRo.out.mono ?_
                rintro e w2 ⟨x, v, rfl, hri, hx, hb2⟩
                obtain ⟨a1', n1', c1', a2', n2', c2', rfl⟩ := hri.shape
                obtain ⟨w3, hw3⟩ : ∃ w3, w3 = w2.alloc (.cells #[.slice a1' n1' c1', .slice a2' n2' c2'] 142) := ⟨_, rfl⟩
                obtain ⟨g4, c4, w4, hrun4, hc4, hf4, hs2, hs3, HH4⟩ := HPut.out x w2 w3 a1' n1' c1' a2' n2' c2' hri hx hb2 hw3
                have HRun := hid0 hrun4
                have hfold3 := hw3.symm
                clear hri hx hb2 hrun4 hw3
                go_wp2_with fail
                refine hK.out _ _ trivial (fun hHeld7 => ?_)
                clear hK K
                (try simp only [Act.put]); (try simp only [List.setIfInBounds_toArray]); (try simp only [List.set_cons_succ]); (try simp only [List.set_cons_zero])
                refine wpAnyH_ready (rs := [4, 8]) (by kernel_rfl) (by simp) (AllReadyH.cons rfl (fun K hK => ?_) (AllReadyH.cons rfl (fun K hK => ?_) AllReadyH.nil))
                · try simp only [List.getElem_toArray, List.getElem_cons_zero, List.getElem_cons_succ]
                  go_simp
                  refine hK.out _ _ trivial (fun hHeld4 => ?_)
                  clear hK K
                  (try simp only [Act.put]); (try simp only [List.setIfInBounds_toArray]); (try simp only [List.set_cons_succ]); (try simp only [List.set_cons_zero])
                  refine wpAnyH_ready (rs := [8]) (by kernel_rfl) (by simp) (AllReadyH.cons rfl (fun K hK => ?_) AllReadyH.nil)
                  try simp only [List.getElem_toArray, List.getElem_cons_zero, List.getElem_cons_succ]
                  go_simp
                  refine hK.out _ _ trivial (fun hHeld8 => ?_)
                  clear hK K
                  (try simp only [Act.put]); (try simp only [List.setIfInBounds_toArray]); (try simp only [List.set_cons_succ]); (try simp only [List.set_cons_zero])
                  refine wpAnyH_ready (rs := [9]) (by kernel_rfl) (by simp) (AllReadyH.cons rfl (fun K hK => ?_) AllReadyH.nil)
                  refine step_append_run rfl (.tmp 86) (.tmp 90) 115 rfl _ _ _ _ HRun.out (by simp [Act.eval]) (by simp [Act.eval]) ?_
                  refine hK.out _ _ trivial (fun hHeld9 => ?_)
                  clear hK K
                  (try simp only [Act.put]); (try simp only [List.setIfInBounds_toArray]); (try simp only [List.set_cons_succ]); (try simp only [List.set_cons_zero])
                  refine tkV (i := 10) (d := some 92) (v := ?_) rfl (by kernel_rfl) (by kernel_rfl) (by kernel_rfl) rfl (fun _ _ _ h => h) (by rfl) ?_ (by assumption) ?_
                  rotate_left
                  · (intro w hSw; (try dsimp only at hSw); (try simp only [List.getElem_toArray, List.getElem_cons_zero, List.getElem_cons_succ]); go_simp; try with_reducible rfl)
                  try simp only [Act.put]
                  refine tkV (i := 11) (d := some 93) (v := ?_) rfl (by kernel_rfl) (by kernel_rfl) (by kernel_rfl) rfl (fun _ _ _ h => h) (by rfl) ?_ (by assumption) ?_
                  rotate_left
                  · (intro w hSw; (try dsimp only at hSw); (try simp only [List.getElem_toArray, List.getElem_cons_zero, List.getElem_cons_succ]); go_simp; try with_reducible rfl)
                  try simp only [Act.put]
                  refine wpAnyH_ready (rs := [12]) (by kernel_rfl) (by simp) (AllReadyH.cons rfl (fun K hK => ?_) AllReadyH.nil)
                  try simp only [List.getElem_toArray, List.getElem_cons_zero, List.getElem_cons_succ]
                  go_simp
                  refine hK.out _ _ trivial (fun hHeld12 => ?_)
                  clear hK K
                  (try simp only [Act.put]); (try simp only [List.setIfInBounds_toArray]); (try simp only [List.set_cons_succ]); (try simp only [List.set_cons_zero])
                  refine wpAnyH_done (by kernel_rfl) ?_ _
                  refine NoPanic.normal ?_
                  go_wp2
                  go_roundw
                  case rel => exact ⟨k + 1, _, by omega, by go_num, HH4⟩
                  case measure => simp [intOf]; omega
                · try simp only [List.getElem_toArray, List.getElem_cons_zero, List.getElem_cons_succ]
                  go_simp
                  refine hK.out _ _ trivial (fun hHeld8 => ?_)
                  clear hK K
                  (try simp only [Act.put]); (try simp only [List.setIfInBounds_toArray]); (try simp only [List.set_cons_succ]); (try simp only [List.set_cons_zero])
                  refine wpAnyH_ready (rs := [4]) (by kernel_rfl) (by simp) (AllReadyH.cons rfl (fun K hK => ?_) AllReadyH.nil)
                  try simp only [List.getElem_toArray, List.getElem_cons_zero, List.getElem_cons_succ]
                  go_simp
                  refine hK.out _ _ trivial (fun hHeld4 => ?_)
                  clear hK K
                  (try simp only [Act.put]); (try simp only [List.setIfInBounds_toArray]); (try simp only [List.set_cons_succ]); (try simp only [List.set_cons_zero])
                  refine wpAnyH_ready (rs := [9]) (by kernel_rfl) (by simp) (AllReadyH.cons rfl (fun K hK => ?_) AllReadyH.nil)
                  refine step_append_run rfl (.tmp 86) (.tmp 90) 115 rfl _ _ _ _ HRun.out (by simp [Act.eval]) (by simp [Act.eval]) ?_
                  refine hK.out _ _ trivial (fun hHeld9 => ?_)
                  clear hK K
                  (try simp only [Act.put]); (try simp only [List.setIfInBounds_toArray]); (try simp only [List.set_cons_succ]); (try simp only [List.set_cons_zero])
                  refine tkV (i := 10) (d := some 92) (v := ?_) rfl (by kernel_rfl) (by kernel_rfl) (by kernel_rfl) rfl (fun _ _ _ h => h) (by rfl) ?_ (by assumption) ?_
                  rotate_left
                  · (intro w hSw; (try dsimp only at hSw); (try simp only [List.getElem_toArray, List.getElem_cons_zero, List.getElem_cons_succ]); go_simp; try with_reducible rfl)
                  try simp only [Act.put]
                  refine tkV (i := 11) (d := some 93) (v := ?_) rfl (by kernel_rfl) (by kernel_rfl) (by kernel_rfl) rfl (fun _ _ _ h => h) (by rfl) ?_ (by assumption) ?_
                  rotate_left
                  · (intro w hSw; (try dsimp only at hSw); (try simp only [List.getElem_toArray, List.getElem_cons_zero, List.getElem_cons_succ]); go_simp; try with_reducible rfl)
                  try simp only [Act.put]
                  refine wpAnyH_ready (rs := [12]) (by kernel_rfl) (by simp) (AllReadyH.cons rfl (fun K hK => ?_) AllReadyH.nil)
                  try simp only [List.getElem_toArray, List.getElem_cons_zero, List.getElem_cons_succ]
                  go_simp
                  refine hK.out _ _ trivial (fun hHeld12 => ?_)
                  clear hK K
                  (try simp only [Act.put]); (try simp only [List.setIfInBounds_toArray]); (try simp only [List.set_cons_succ]); (try simp only [List.set_cons_zero])
                  refine wpAnyH_done (by kernel_rfl) ?_ _
                  refine NoPanic.normal ?_
                  go_wp2
                  go_roundw
                  case rel => exact ⟨k + 1, _, by omega, by go_num, HH4⟩
                  case measure => simp [intOf]; omega
            · have hke : k = H.length := by omega
              subst hke
              obtain ⟨hHo, hOn, hRB⟩ := HI.out
              have hL := HLb.out.onlyB HAp.out hOn hRB
              have hAp := HAp.out
              obtain ⟨y0, y1, y3⟩ := HC5.out wr hL.bel
              have HF0 := hid0 y1
              have hBl := (Array.getElem?_eq_some_iff.1 hRB).1
              have HF1 : Hid (∀ w2, Only wr.drew w2 (fun k => k = gn) → w2.cell? ⟨w.heap.size, 1, none⟩ = some (.slice aF Fi.length cF)) := hid0 (fun w2 h2 => (h2.cell (p := ⟨w.heap.size, 1, none⟩) (World.block_lt_of_cell? wr _ y1) (by have := hAp.1.2.2.2.1; show ¬ w.heap.size = gn; omega)).trans y1)
              have HAd := hid0 (addAllE_any B 4 gn ((Le.length + 511) / 512) Le.length (fun _ => false) Fi aF cF wr.drew (by omega) (by omega) (by omega) HSd.out.2.1 hBl (fun e => hAp.2.2.2.2.2.2.2.2.2.2 e.symm) (by show wr.cell? _ = _; rw [cell_of_row _ _ _ _ _ _ hRB]; rfl) ((HP.out.fi.past (HBW.out wr hL.bel)).past (drewj_below wr)) (fun hl p hp => by have h1 := HFi.out hl p hp; have h2 := hAp.1.2.2.2.1; show ¬ p.block = gn; omega) (hL.nx.below (drewj_below wr)))
              have HEnd : Hid (∀ w2, BS w2 gn ((Le.length + 511) / 512) (addF Fi (fun _ => false)) → Only wr.drew w2 (fun k => k = gn) → NwRj w Le Fo Fi Wd (.returned (.pointer (some ⟨B, 0, none⟩))) w2) := hid0 (fun w2 g1 g2 => nwj_end rfl hb0 HLb.out hL hAp hHo (by omega) hFl g1 ((Only.drewN wr 1 (fun k => k = gn)).trans g2 (fun i hi => .inl hi)) HTb.out hT11 HKall.out HKin.out hkl HHo.out HHl.out)
              clear hHo hOn hRB hL hAp HI y0 y1 y3
              go_upto_region 20 with fail
              refine wp_region_noPanic ?_
              refine wp_region_held_drew (S := (fun V => V.cell? ⟨w.heap.size, 1, none⟩ = some (.slice aF Fi.length cF))) (by kernel_rfl) ?_ (fun hHeld => ?_)
              · exact HF0.out
              refine tkV (i := 0) (d := some 95) (v := ?_) rfl (by kernel_rfl) (by kernel_rfl) (by kernel_rfl) rfl (fun _ _ _ h => h) (by rfl) ?_ (by assumption) ?_
              rotate_left
              · (intro w hSw; (try dsimp only at hSw); (try simp only [List.getElem_toArray, List.getElem_cons_zero]); go_simp; try with_reducible rfl)
              try simp only [Act.put, List.setIfInBounds_toArray, List.set_cons_zero, List.set_cons_succ]
              refine tkV (i := 1) (d := some 96) (v := ?_) rfl (by kernel_rfl) (by kernel_rfl) (by kernel_rfl) rfl (fun _ _ _ h => h) (by rfl) ?_ (by assumption) ?_
              rotate_left
              · (intro w hSw; (try dsimp only at hSw); (try simp only [List.getElem_toArray, List.getElem_cons_zero, List.getElem_cons_succ]); go_simp; try with_reducible rfl)
              try simp only [Act.put, List.setIfInBounds_toArray, List.set_cons_zero, List.set_cons_succ]
              refine tkV (i := 2) (d := some 97) (v := ?_) rfl (by kernel_rfl) (by kernel_rfl) (by kernel_rfl) rfl (fun _ _ _ h => h) (by rfl) ?_ (by assumption) ?_
              rotate_left
              · (intro w hSw; (try dsimp only at hSw); (try simp only [List.getElem_toArray, List.getElem_cons_zero, List.getElem_cons_succ]); go_simp; try with_reducible rfl)
              try simp only [Act.put, List.setIfInBounds_toArray, List.set_cons_zero, List.set_cons_succ]
              refine tkV (i := 3) (d := some 98) (v := ?_) rfl (by kernel_rfl) (by kernel_rfl) (by kernel_rfl) rfl (fun _ _ _ h => h) (by rfl) ?_ (by assumption) ?_
              rotate_left
              · (intro w hSw; (try dsimp only at hSw); (try simp only [List.getElem_toArray, List.getElem_cons_zero, List.getElem_cons_succ]); go_simp; try with_reducible rfl)
              try simp only [Act.put, List.setIfInBounds_toArray, List.set_cons_zero, List.set_cons_succ]
              refine tkV (i := 4) (d := some 99) (v := ?_) rfl (by kernel_rfl) (by kernel_rfl) (by kernel_rfl) rfl (fun _ _ _ h => h) (by rfl) ?_ (by assumption) ?_
              rotate_left
              · (intro w hSw; (try dsimp only at hSw); (try simp only [List.getElem_toArray, List.getElem_cons_zero, List.getElem_cons_succ]); go_simp; try with_reducible rfl)
              try simp only [Act.put, List.setIfInBounds_toArray, List.set_cons_zero, List.set_cons_succ]
              refine wpAnyH_ready (rs := [5]) (by kernel_rfl) (by simp) (AllReadyH.cons rfl (fun K hK => ?_) AllReadyH.nil)
              try simp only [List.getElem_toArray, List.getElem_cons_zero, List.getElem_cons_succ]
              go_simp
              refine HAd.out.mono ?_
              rintro e w2 ⟨rfl, hb2, ho2⟩
              have HB2 := hid0 hb2
              have HO2 := hid0 ho2
              have HS2 := hid0 (HF1.out w2 ho2)
              clear hb2 ho2
              go_wp2_with fail
              refine hK.out _ _ ?_ (fun hHeld5 => ?_)
              · exact HS2.out
              clear hK K
              (try simp only [Act.put]); (try simp only [List.setIfInBounds_toArray]); (try simp only [List.set_cons_succ]); (try simp only [List.set_cons_zero])
              refine wpAnyH_done (by kernel_rfl) ?_ _
              refine NoPanic.normal ?_
              go_wp2
              go_ret
              exact HEnd.out w2 HB2.out HO2.out
end Go.Proofs.YtleeedjpccooaaaDoor
namespace Go.Proofs.YtleeedjpccooaaaDoor
open Go.RowKit Go.Shelf
attribute [local go_sem] Oper.semAt_some
set_option maxRecDepth 100000 in
set_option maxHeartbeats 1000000 in
theorem stepj_any (B gf gh ga gn mp m cF cH n i : Nat) (ks : List Int) (Fo H : List (List Int)) (fa fx : Nat → Bool) (R : Nat → Prop) (w : World) (hm : m ≤ 1000000) (hn : n ≤ 512 * m) (hFl : Fo.length = n) (hHl : H.length = ks.length) (hi : i < ks.length) (hin : inI ks[i])
    (_hHn : H.length ≤ 1000000000000) (hFa : ∀ r ∈ Fo, r.length ≤ 100000000000000 ∧ r.all (oneOf n) = true) (hHa : ∀ r ∈ H, r.length ≤ 100000000000000 ∧ r.all (oneOf n) = true) (h : Wkj w B gf gh ga gn mp m cF cH ks Fo H fa fx R) :
    Calls Tryd.prog 59 #[.pointer (some ⟨B, 0, none⟩), .int .i64 ks[i]] w fun e w' => e = .returned (.bool (!emF (stepAt (H[i]'(hHl ▸ hi)) fx m) m)) ∧ Wkj w' B gf gh ga gn mp m cF cH ks Fo H (stepAt (H[i]'(hHl ▸ hi)) fx m) (nxF Fo (plB (stepAt (H[i]'(hHl ▸ hi)) fx m) (512 * m))) R ∧ Only w w' (fun k => k = ga ∨ k = gn) := by
  have hiH : i < H.length := hHl ▸ hi
  obtain ⟨w0, hw0⟩ : ∃ w0, w0 = w.alloc (.cells #[.pointer (some ⟨B, 0, none⟩)] 112) := ⟨_, rfl⟩
  have hb0 : Below w.heap.size w w0 := by rw [hw0]; exact (Below.refl _ _).alloc (Nat.le_refl _) _
  have hs0 : w0.heap.size = w.heap.size + 1 := by rw [hw0]; simp
  have hx0 : w0.heap[w.heap.size]? = some (.cells #[.pointer (some ⟨B, 0, none⟩)] 112 (0, 0)) := by rw [hw0]; exact heap_alloc_new w _
  have hBl : B < w.heap.size := (Array.getElem?_eq_some_iff.1 h.row).1
  have hga := h.at'.lt
  have hgn := h.nx.lt
  have hBa := h.ra B h.rB
  -- what stands while the two sets are written
  have HC : Hid (∀ W, Only w0 W (fun k => k = ga ∨ k = gn) → W.cell? ⟨w.heap.size, 0, none⟩ = some (.pointer (some ⟨B, 0, none⟩)) ∧ W.cell? ⟨B, 0, none⟩ = some (.slice (some ⟨gf, 0, none⟩) Fo.length cF) ∧ W.cell? ⟨B, 1, none⟩ = some (.map (some mp)) ∧ W.cell? ⟨B, 2, none⟩ = some (.slice (some ⟨gh, 0, none⟩) H.length cH) ∧ W.cell? ⟨B, 3, none⟩ = some (.slice (some ⟨ga, 0, none⟩) m m) ∧ W.cell? ⟨B, 4, none⟩ = some (.slice (some ⟨gn, 0, none⟩) m m)) := hid0 (fun W ho => by
    have hr := (ho.block B (by omega) (by omega)).trans ((hb0.block B hBl).trans h.row)
    have hr2 := (ho.block w.heap.size (by omega) (by omega)).trans hx0
    refine ⟨by rw [cell_of_row _ _ _ _ _ _ hr2]; rfl, by rw [cell_of_row _ _ _ _ _ _ hr]; rfl, by rw [cell_of_row _ _ _ _ _ _ hr]; rfl, by rw [cell_of_row _ _ _ _ _ _ hr]; rfl, by rw [cell_of_row _ _ _ _ _ _ hr]; rfl, by rw [cell_of_row _ _ _ _ _ _ hr]; rfl⟩)
  have hR : ∀ k, R k → ¬ (k = ga ∨ k = gn) := fun k hk => by have := h.ra k hk; omega
  have HW : Hid (∀ W fa' fx', Only w0 W (fun k => k = ga ∨ k = gn) → BS W ga m fa' → BS W gn m fx' → Wkj W B gf gh ga gn mp m cF cH ks Fo H fa' fx' R) := hid0 (fun W fa' fx' ho h1 h2 => by
    have ho' : Only w W (fun k => k = ga ∨ k = gn) := (Only.ofNew hb0 (fun k => k = ga ∨ k = gn)).trans ho (fun i hi => .inl hi)
    exact ⟨(ho'.block B hBl (hR B h.rB)).trans h.row, h.fo.only ho' hR, h.ho.only ho' hR, h.nu.keep (ho'.block mp h.nu.lt (hR mp h.rm)), h1, h2, tab_only h.tab h.tabl ho' (hR 11 h.rt), Nat.lt_of_lt_of_le h.tabl ho'.size, h.rB, h.rm, h.rt, h.ra, h.ne⟩)
  have HBe := hid0 hb0
  obtain ⟨w1, hcl1, hat1, ho1⟩ := clear_blk ga m fa w0 (h.at'.kept (hb0.block ga hga))
  have ho1' : Only w0 w1 (fun k => k = ga ∨ k = gn) := ho1.mono (fun k hk => .inl hk)
  have hk1 := HW.out w1 _ _ ho1' hat1 ((h.nx.kept (hb0.block gn hgn)).only ho1 (fun e => h.ne e.symm))
  obtain ⟨x, u, v, hu, hv, hrw, hxr⟩ := hk1.ho.at' i hiH
  have hget := (hk1.nu.keep (w' := w1.drew) rfl).get hi hin
  obtain ⟨d0, d1, d2, d3, d4, d5⟩ := HC.out w1 ho1'
  obtain ⟨p0, p1, p2, p3, p4, p5⟩ := HC.out w0 (Only.refl _ _)
  have hHi := hHa _ (List.getElem_mem hiH)
  have hxg : ¬ x = some ga := fun e => (h.ra ga (hxr ga e)).1 rfl
  have HJ := hid0 (joinToj_any B 3 ga m n (fun _ => false) H[i] x (.agg #[u, v]) w1.drew hHi.1 hm hn hHi.2 (by show B < w1.heap.size; have := ho1.size; omega) hBa.1 d4 (hat1.kept (w' := w1.drew) rfl) (hrw.only (w' := w1.drew) (S := fun _ => False) (Only.drewN w1 1 _) (fun _ _ h => h)) hxg)
  have HSv : Hid (∀ W, Only w0 W (fun k => k = ga ∨ k = gn) → Only w1 W (fun k => k = ga ∨ k = gn) → (fun V => V.cell? ⟨w.heap.size, 0, none⟩ = some (.pointer (some ⟨B, 0, none⟩)) ∧ V.cell? ⟨B, 0, none⟩ = some (.slice (some ⟨gf, 0, none⟩) Fo.length cF) ∧ V.cell? ⟨B, 1, none⟩ = some (.map (some mp)) ∧ V.cell? ⟨B, 2, none⟩ = some (.slice (some ⟨gh, 0, none⟩) H.length cH) ∧ V.cell? ⟨B, 3, none⟩ = some (.slice (some ⟨ga, 0, none⟩) m m) ∧ V.cell? ⟨B, 4, none⟩ = some (.slice (some ⟨gn, 0, none⟩) m m) ∧ V.cell? ⟨gh, i * 2, none⟩ = some u ∧ V.cell? ⟨gh, i * 2 + 1, none⟩ = some v ∧ (Instr.lookup 116 (.map (some mp)) (.int .i64 ks[i]) false).run Tryd.prog V = .ok (.int .i64 (i : Int)) V) W) := hid0 (fun W h1 h2 => by
    obtain ⟨q0, q1, q2, q3, q4, q5⟩ := HC.out W h1
    exact ⟨q0, q1, q2, q3, q4, q5, (h2.cell (p := ⟨gh, i * 2, none⟩) hk1.ho.lt (hR gh hk1.ho.in')).trans hu, (h2.cell (p := ⟨gh, i * 2 + 1, none⟩) hk1.ho.lt (hR gh hk1.ho.in')).trans hv, ((hk1.nu.keep (h2.block mp hk1.nu.lt (hR mp h.rm))).get hi hin)⟩)
  have HXn : Hid (∀ x, stepAt H[i] fx m x = true → x < Fo.length) := hid0 (fun x hx => by
    unfold stepAt andTo addF at hx
    rw [Bool.and_eq_true, Bool.or_false, List.any_eq_true] at hx
    obtain ⟨⟨z, hz, hzx⟩, _⟩ := hx
    have h1 := (oneOf_iff n z).1 (List.all_eq_true.1 (hHa _ (List.getElem_mem hiH)).2 z hz)
    have h2 := of_decide_eq_true hzx
    omega)
  have HK1 := hid0 hk1
  have HNx := hid0 h.ne
  have HHr := hid0 hx0
  have HO1 := hid0 ho1'
  have HO11 : Hid (Only w1 w1 (fun k => k = ga ∨ k = gn)) := hid0 (Only.refl _ _)
  have HNx0 := hid0 ((h.nx.kept (hb0.block gn hgn)))
  have HTr : Hid (∀ W W' g, (g = ga ∨ g = gn) → Only w0 W (fun k => k = ga ∨ k = gn) → Only W.drew W' (fun k => k = g) → Only w0 W' (fun k => k = ga ∨ k = gn)) := hid0 (fun W W' g hg h1 h2 => (h1.trans (Only.drewN W 1 (fun k => k = ga ∨ k = gn)) (fun i hi => .inl hi)).trans h2 (fun i hi => .inl (hi ▸ hg)))
  have HMt : Hid (∀ W f', Only w0 W (fun k => k = ga ∨ k = gn) → BS W ga m f' → BS W gn m fx → Calls Tryd.prog 82 #[.pointer (some ⟨B, 3, none⟩), .agg #[.slice (some ⟨gn, 0, none⟩) m m]] W.drew fun e w' => e = .returned (.tuple #[]) ∧ BS w' ga m (andTo f' fx (64 * (m * 8))) ∧ Only W.drew w' (fun k => k = ga)) := hid0 (fun W f' h1 h2 h3 =>
    meet_any B 3 ga gn m f' fx W.drew hm (by show B < W.heap.size; have := h1.size; omega) hBa.1 (fun e => h.ne e.symm) (HC.out W h1).2.2.2.2.1 (h2.kept (w' := W.drew) rfl) (h3.kept (w' := W.drew) rfl))
  have HNe := hid0 h.ne
  have HFa := hid0 hFa
  have hmx : Tryd.prog.follows .mixedOrders = true := by kernel_rfl
  have hf1 : Fence.wide.fn 81 := trivial
  have hf2 : Fence.wide.fn 82 := trivial
  have hiI : (i : Int) < (H.length : Int) := by omega
  have hiI0 : (0 : Int) ≤ (i : Int) := by omega
  generalize hLi : H[i] = L at *
  generalize hci : ks[i] = c at *
  have hfold := hw0.symm
  clear hw0 hb0 hrw hxr hat1 ho1 hk1 hHi hFa hHa h hx0 hR hBa hxg ho1' hLi hci hin
  refine (callsIn_wide (n := 8)).1 ?_
  refine callsIn_of_wp_marks Tryd.func59 rfl trivial ?_ rfl
  simp only [Tryd.ntmps59, List.size_toArray, List.length_cons, List.length_nil, Nat.reduceAdd, Nat.reduceSub, Array.replicate_succ, Array.replicate_zero, List.push_toArray, List.append_toArray, List.nil_append, List.cons_append]
  gi_wp2
  refine wpIn_wide.2 ?_
  refine wp_region_noPanic ?_
  refine wp_region_held_drew (S := (fun V => V.cell? ⟨w.heap.size, 0, none⟩ = some (.pointer (some ⟨B, 0, none⟩)) ∧ V.cell? ⟨B, 0, none⟩ = some (.slice (some ⟨gf, 0, none⟩) Fo.length cF) ∧ V.cell? ⟨B, 1, none⟩ = some (.map (some mp)) ∧ V.cell? ⟨B, 2, none⟩ = some (.slice (some ⟨gh, 0, none⟩) H.length cH) ∧ V.cell? ⟨B, 3, none⟩ = some (.slice (some ⟨ga, 0, none⟩) m m) ∧ V.cell? ⟨B, 4, none⟩ = some (.slice (some ⟨gn, 0, none⟩) m m) ∧ V.cell? ⟨gh, i * 2, none⟩ = some u ∧ V.cell? ⟨gh, i * 2 + 1, none⟩ = some v ∧ (Instr.lookup 116 (.map (some mp)) (.int .i64 c) false).run Tryd.prog V = .ok (.int .i64 (i : Int)) V)) (by kernel_rfl) ?_ (fun hHeld => ?_)
  · exact HSv.out w1.drew (HO1.out.trans (Only.drewN w1 1 (fun k => k = ga ∨ k = gn)) (fun i hi => .inl hi)) (Only.drewN w1 1 _)
  refine tkV (i := 0) (d := some 11) (v := ?_) rfl (by kernel_rfl) (by kernel_rfl) (by kernel_rfl) rfl (fun _ _ _ h => h) (by rfl) ?_ (by assumption) ?_
  rotate_left
  · (intro w hSw; (try dsimp only at hSw); (try simp only [List.getElem_toArray, List.getElem_cons_zero]); go_simp; try with_reducible rfl)
  try simp only [Act.put, List.setIfInBounds_toArray, List.set_cons_zero, List.set_cons_succ]
  refine tkV (i := 1) (d := some 12) (v := ?_) rfl (by kernel_rfl) (by kernel_rfl) (by kernel_rfl) rfl (fun _ _ _ h => h) (by rfl) ?_ (by assumption) ?_
  rotate_left
  · (intro w hSw; (try dsimp only at hSw); (try simp only [List.getElem_toArray, List.getElem_cons_zero, List.getElem_cons_succ]); go_simp; try with_reducible rfl)
  try simp only [Act.put, List.setIfInBounds_toArray, List.set_cons_zero, List.set_cons_succ]
  refine tkV (i := 2) (d := some 13) (v := ?_) rfl (by kernel_rfl) (by kernel_rfl) (by kernel_rfl) rfl (fun _ _ _ h => h) (by rfl) ?_ (by assumption) ?_
  rotate_left
  · (intro w hSw; (try dsimp only at hSw); (try simp only [List.getElem_toArray, List.getElem_cons_zero, List.getElem_cons_succ]); go_simp; try with_reducible rfl)
  try simp only [Act.put, List.setIfInBounds_toArray, List.set_cons_zero, List.set_cons_succ]
  refine tkV (i := 3) (d := some 14) (v := ?_) rfl (by kernel_rfl) (by kernel_rfl) (by kernel_rfl) rfl (fun _ _ _ h => h) (by rfl) ?_ (by assumption) ?_
  rotate_left
  · (intro w hSw; (try dsimp only at hSw); (try simp only [List.getElem_toArray, List.getElem_cons_zero, List.getElem_cons_succ]); go_simp; try with_reducible rfl)
  try simp only [Act.put, List.setIfInBounds_toArray, List.set_cons_zero, List.set_cons_succ]
  refine tkV (i := 4) (d := some 15) (v := ?_) rfl (by kernel_rfl) (by kernel_rfl) (by kernel_rfl) rfl (fun _ _ _ h => h) (by rfl) ?_ (by assumption) ?_
  rotate_left
  · (intro w hSw; (try dsimp only at hSw); (try simp only [List.getElem_toArray, List.getElem_cons_zero, List.getElem_cons_succ]); go_simp; try with_reducible rfl)
  try simp only [Act.put, List.setIfInBounds_toArray, List.set_cons_zero, List.set_cons_succ]
  refine tkV (i := 5) (d := some 16) (v := ?_) rfl (by kernel_rfl) (by kernel_rfl) (by kernel_rfl) rfl (fun _ _ _ h => h) (by rfl) ?_ (by assumption) ?_
  rotate_left
  · (intro w hSw; (try dsimp only at hSw); (try simp only [List.getElem_toArray, List.getElem_cons_zero, List.getElem_cons_succ]); go_simp; try with_reducible rfl)
  try simp only [Act.put, List.setIfInBounds_toArray, List.set_cons_zero, List.set_cons_succ]
  refine tkV (i := 6) (d := some 17) (v := ?_) rfl (by kernel_rfl) (by kernel_rfl) (by kernel_rfl) rfl (fun _ _ _ h => h) (by rfl) ?_ (by assumption) ?_
  rotate_left
  · (intro w hSw; (try dsimp only at hSw); (try simp only [List.getElem_toArray, List.getElem_cons_zero, List.getElem_cons_succ]); go_simp; try with_reducible rfl)
  try simp only [Act.put, List.setIfInBounds_toArray, List.set_cons_zero, List.set_cons_succ]
  refine tkV (i := 7) (d := some 18) (v := ?_) rfl (by kernel_rfl) (by kernel_rfl) (by kernel_rfl) rfl (fun _ _ _ h => h) (by rfl) ?_ (by assumption) ?_
  rotate_left
  · (intro w hSw; (try dsimp only at hSw); (try simp only [List.getElem_toArray, List.getElem_cons_zero, List.getElem_cons_succ]); go_simp; try with_reducible rfl)
  try simp only [Act.put, List.setIfInBounds_toArray, List.set_cons_zero, List.set_cons_succ]
  refine tkV (i := 8) (d := some 19) (v := ?_) rfl (by kernel_rfl) (by kernel_rfl) (by kernel_rfl) rfl (fun _ _ _ h => h) (by rfl) ?_ (by assumption) ?_
  rotate_left
  · (intro w hSw; (try dsimp only at hSw); (try simp only [List.getElem_toArray, List.getElem_cons_zero, List.getElem_cons_succ]); go_simp; try with_reducible rfl)
  try simp only [Act.put, List.setIfInBounds_toArray, List.set_cons_zero, List.set_cons_succ]
  refine tkV (i := 9) (d := some 20) (v := ?_) rfl (by kernel_rfl) (by kernel_rfl) (by kernel_rfl) rfl (fun _ _ _ h => h) (by rfl) ?_ (by assumption) ?_
  rotate_left
  · (intro w hSw; (try dsimp only at hSw); (try simp only [List.getElem_toArray, List.getElem_cons_zero, List.getElem_cons_succ]); go_simp; try with_reducible rfl)
  try simp only [Act.put, List.setIfInBounds_toArray, List.set_cons_zero, List.set_cons_succ]
  refine tkV (i := 10) (d := some 21) (v := ?_) rfl (by kernel_rfl) (by kernel_rfl) (by kernel_rfl) rfl (fun _ _ _ h => h) (by rfl) ?_ (by assumption) ?_
  rotate_left
  · (intro w hSw; (try dsimp only at hSw); (try simp only [List.getElem_toArray, List.getElem_cons_zero, List.getElem_cons_succ]); go_simp; try with_reducible rfl)
  try simp only [Act.put, List.setIfInBounds_toArray, List.set_cons_zero, List.set_cons_succ]
  refine tkV (i := 11) (d := some 22) (v := ?_) rfl (by kernel_rfl) (by kernel_rfl) (by kernel_rfl) rfl (fun _ _ _ h => h) (by rfl) ?_ (by assumption) ?_
  rotate_left
  · (intro w hSw; (try dsimp only at hSw); (try simp only [List.getElem_toArray, List.getElem_cons_zero, List.getElem_cons_succ]); go_simp; try with_reducible rfl)
  try simp only [Act.put, List.setIfInBounds_toArray, List.set_cons_zero, List.set_cons_succ]
  refine tkV (i := 12) (d := some 23) (v := ?_) rfl (by kernel_rfl) (by kernel_rfl) (by kernel_rfl) rfl (fun _ _ _ h => h) (by rfl) ?_ (by assumption) ?_
  rotate_left
  · (intro w hSw; (try dsimp only at hSw); (try simp only [List.getElem_toArray, List.getElem_cons_zero, List.getElem_cons_succ]); go_simp; try with_reducible rfl)
  try simp only [Act.put, List.setIfInBounds_toArray, List.set_cons_zero, List.set_cons_succ]
  refine tkV (i := 13) (d := some 24) (v := ?_) rfl (by kernel_rfl) (by kernel_rfl) (by kernel_rfl) rfl (fun _ _ _ h => h) (by rfl) ?_ (by assumption) ?_
  rotate_left
  · (intro w hSw; (try dsimp only at hSw); (try simp only [List.getElem_toArray, List.getElem_cons_zero, List.getElem_cons_succ]); go_simp; try with_reducible rfl)
  try simp only [Act.put, List.setIfInBounds_toArray, List.set_cons_zero, List.set_cons_succ]
  refine tkV (i := 14) (d := some 25) (v := ?_) rfl (by kernel_rfl) (by kernel_rfl) (by kernel_rfl) rfl (fun _ _ _ h => h) (by rfl) ?_ (by assumption) ?_
  rotate_left
  · (intro w hSw; (try dsimp only at hSw); (try simp only [List.getElem_toArray, List.getElem_cons_zero, List.getElem_cons_succ]); go_simp; try with_reducible rfl)
  try simp only [Act.put, List.setIfInBounds_toArray, List.set_cons_zero, List.set_cons_succ]
  refine wpAnyH_ready (rs := [15]) (by kernel_rfl) (by simp) (AllReadyH.cons rfl (fun K hK => ?_) AllReadyH.nil)
  try simp only [List.getElem_toArray, List.getElem_cons_zero, List.getElem_cons_succ]
  go_simp
  refine HJ.out.mono ?_
  rintro e w2 ⟨rfl, hb2, ho2⟩
  have HO2 := hid0 (HTr.out w1 w2 ga (.inl rfl) HO1.out ho2)
  have HO12 : Hid (Only w1 w2 (fun k => k = ga ∨ k = gn)) := hid0 ((Only.drewN w1 1 (fun k => k = ga ∨ k = gn)).trans ho2 (fun i hi => .inl (.inl hi)))
  have HB2 := hid0 hb2
  have HN2 := hid0 ((HK1.out.nx.kept (w' := w1.drew) rfl).only ho2 (fun e => HNe.out e.symm))
  clear hb2 ho2
  go_wp2_with fail
  refine hK.out _ _ ?_ (fun hHeld15 => ?_)
  · exact HSv.out w2 HO2.out HO12.out
  clear hK K
  (try simp only [Act.put]); (try simp only [List.setIfInBounds_toArray]); (try simp only [List.set_cons_succ]); (try simp only [List.set_cons_zero])
  refine wpAnyH_done (by kernel_rfl) ?_ _
  refine NoPanic.normal ?_
  have HM2 := hid0 (HMt.out w2 _ HO2.out HB2.out HN2.out)
  clear hget hcl1 d0 d1 d2 d3 d4 d5 p0 p1 p2 p3 p4 p5 hu hv
  gi_wp2
  refine wpIn_wide.2 ?_
  refine wp_region_noPanic ?_
  refine wp_region_held_drew (S := (fun V => V.cell? ⟨w.heap.size, 0, none⟩ = some (.pointer (some ⟨B, 0, none⟩)) ∧ V.cell? ⟨B, 0, none⟩ = some (.slice (some ⟨gf, 0, none⟩) Fo.length cF) ∧ V.cell? ⟨B, 1, none⟩ = some (.map (some mp)) ∧ V.cell? ⟨B, 2, none⟩ = some (.slice (some ⟨gh, 0, none⟩) H.length cH) ∧ V.cell? ⟨B, 3, none⟩ = some (.slice (some ⟨ga, 0, none⟩) m m) ∧ V.cell? ⟨B, 4, none⟩ = some (.slice (some ⟨gn, 0, none⟩) m m) ∧ V.cell? ⟨gh, i * 2, none⟩ = some u ∧ V.cell? ⟨gh, i * 2 + 1, none⟩ = some v ∧ (Instr.lookup 116 (.map (some mp)) (.int .i64 c) false).run Tryd.prog V = .ok (.int .i64 (i : Int)) V)) (by kernel_rfl) ?_ (fun hHeld => ?_)
  · exact HSv.out w2.drew (HO2.out.trans (Only.drewN w2 1 (fun k => k = ga ∨ k = gn)) (fun i hi => .inl hi)) (HO12.out.trans (Only.drewN w2 1 (fun k => k = ga ∨ k = gn)) (fun i hi => .inl hi))
  refine tkV (i := 0) (d := some 27) (v := ?_) rfl (by kernel_rfl) (by kernel_rfl) (by kernel_rfl) rfl (fun _ _ _ h => h) (by rfl) ?_ (by assumption) ?_
  rotate_left
  · (intro w hSw; (try dsimp only at hSw); (try simp only [List.getElem_toArray, List.getElem_cons_zero]); go_simp; try with_reducible rfl)
  try simp only [Act.put, List.setIfInBounds_toArray, List.set_cons_zero, List.set_cons_succ]
  refine tkV (i := 1) (d := some 28) (v := ?_) rfl (by kernel_rfl) (by kernel_rfl) (by kernel_rfl) rfl (fun _ _ _ h => h) (by rfl) ?_ (by assumption) ?_
  rotate_left
  · (intro w hSw; (try dsimp only at hSw); (try simp only [List.getElem_toArray, List.getElem_cons_zero, List.getElem_cons_succ]); go_simp; try with_reducible rfl)
  try simp only [Act.put, List.setIfInBounds_toArray, List.set_cons_zero, List.set_cons_succ]
  refine tkV (i := 2) (d := some 29) (v := ?_) rfl (by kernel_rfl) (by kernel_rfl) (by kernel_rfl) rfl (fun _ _ _ h => h) (by rfl) ?_ (by assumption) ?_
  rotate_left
  · (intro w hSw; (try dsimp only at hSw); (try simp only [List.getElem_toArray, List.getElem_cons_zero, List.getElem_cons_succ]); go_simp; try with_reducible rfl)
  try simp only [Act.put, List.setIfInBounds_toArray, List.set_cons_zero, List.set_cons_succ]
  refine tkV (i := 3) (d := some 30) (v := ?_) rfl (by kernel_rfl) (by kernel_rfl) (by kernel_rfl) rfl (fun _ _ _ h => h) (by rfl) ?_ (by assumption) ?_
  rotate_left
  · (intro w hSw; (try dsimp only at hSw); (try simp only [List.getElem_toArray, List.getElem_cons_zero, List.getElem_cons_succ]); go_simp; try with_reducible rfl)
  try simp only [Act.put, List.setIfInBounds_toArray, List.set_cons_zero, List.set_cons_succ]
  refine tkV (i := 4) (d := some 31) (v := ?_) rfl (by kernel_rfl) (by kernel_rfl) (by kernel_rfl) rfl (fun _ _ _ h => h) (by rfl) ?_ (by assumption) ?_
  rotate_left
  · (intro w hSw; (try dsimp only at hSw); (try simp only [List.getElem_toArray, List.getElem_cons_zero, List.getElem_cons_succ]); go_simp; try with_reducible rfl)
  try simp only [Act.put, List.setIfInBounds_toArray, List.set_cons_zero, List.set_cons_succ]
  refine tkV (i := 5) (d := some 32) (v := ?_) rfl (by kernel_rfl) (by kernel_rfl) (by kernel_rfl) rfl (fun _ _ _ h => h) (by rfl) ?_ (by assumption) ?_
  rotate_left
  · (intro w hSw; (try dsimp only at hSw); (try simp only [List.getElem_toArray, List.getElem_cons_zero, List.getElem_cons_succ]); go_simp; try with_reducible rfl)
  try simp only [Act.put, List.setIfInBounds_toArray, List.set_cons_zero, List.set_cons_succ]
  refine tkV (i := 6) (d := some 33) (v := ?_) rfl (by kernel_rfl) (by kernel_rfl) (by kernel_rfl) rfl (fun _ _ _ h => h) (by rfl) ?_ (by assumption) ?_
  rotate_left
  · (intro w hSw; (try dsimp only at hSw); (try simp only [List.getElem_toArray, List.getElem_cons_zero, List.getElem_cons_succ]); go_simp; try with_reducible rfl)
  try simp only [Act.put, List.setIfInBounds_toArray, List.set_cons_zero, List.set_cons_succ]
  refine wpAnyH_ready (rs := [7]) (by kernel_rfl) (by simp) (AllReadyH.cons rfl (fun K hK => ?_) AllReadyH.nil)
  try simp only [List.getElem_toArray, List.getElem_cons_zero, List.getElem_cons_succ]
  go_simp
  refine HM2.out.mono ?_
  rintro e w3 ⟨rfl, hb3, ho3⟩
  have HO3 := hid0 (HTr.out w2 w3 ga (.inl rfl) HO2.out ho3)
  have HO13 : Hid (Only w1 w3 (fun k => k = ga ∨ k = gn)) := hid0 ((HO12.out.trans (Only.drewN w2 1 (fun k => k = ga ∨ k = gn)) (fun i hi => .inl hi)).trans ho3 (fun i hi => .inl (.inl hi)))
  have HB3 := hid0 hb3
  have HN3 := hid0 ((HN2.out.kept (w' := w2.drew) rfl).only ho3 (fun e => HNe.out e.symm))
  clear hb3 ho3
  go_wp2_with fail
  refine hK.out _ _ ?_ (fun hHeld7 => ?_)
  · exact HSv.out w3 HO3.out HO13.out
  clear hK K
  (try simp only [Act.put]); (try simp only [List.setIfInBounds_toArray]); (try simp only [List.set_cons_succ]); (try simp only [List.set_cons_zero])
  refine wpAnyH_done (by kernel_rfl) ?_ _
  refine NoPanic.normal ?_
  obtain ⟨f0, f1, f2, f3, f4, f5⟩ := HC.out w3 HO3.out
  obtain ⟨w4, hcl4, hn4, ho4⟩ := clear_blk gn m fx w3 HN3.out
  have HO4 : Hid (Only w0 w4 (fun k => k = ga ∨ k = gn)) := hid0 (HO3.out.trans ho4 (fun i hi => .inl (.inr hi)))
  obtain ⟨g0, g1, g2, g3, g4, g5⟩ := HC.out w4 HO4.out
  have HN4 := hid0 hn4
  have HB4 : Hid (BS w4 ga m (stepAt L fx m)) := hid0 (HB3.out.only ho4 HNe.out)
  clear hn4 ho4
  gi_wp2
  clear HJ HM2 HN2 HN3 HB2 HB3 HO11 HO12 HO13 HO1 HO2 HO3 HMt HTr HSv HK1 hcl4 f0 f1 f2 f3 f4 f5 g0 g1 g2 g3 g4 g5
  have hs4 := HO4.out.size
  have HA : Hid (∀ W, Only w4 W (fun k => k = gn) → Only w0 W (fun k => k = ga ∨ k = gn)) := hid0 (fun W h => HO4.out.trans h (fun i hi => .inl (.inr hi)))
  have HJd : Hid (∀ pre W, BS W gn m (nxF Fo pre) ∧ Only w4 W (fun k => k = gn) → Wkj W B gf gh ga gn mp m cF cH ks Fo H (stepAt L fx m) (nxF Fo pre) R) := hid0 (fun pre W h => HW.out W _ _ (HA.out W h.2) (HB4.out.only h.2 HNe.out) h.1)
  refine wpIn_rangeEach' 5 8 (by omega) ga m gn (stepAt L fx m) hm rfl (by omega) (fun pre W => BS W gn m (nxF Fo pre) ∧ Only w4 W (fun k => k = gn)) ?keep (fun pre A h => ⟨(HJd.out pre A h).at', (HJd.out pre A h).tab⟩) ⟨HN4.out, Only.refl _ _⟩ ?assign ?body ?done
  case keep =>
    rintro pre A W ⟨h1, h2⟩ h3
    exact ⟨h1.only h3 (by omega), h2.trans h3 (fun i hi => .inr hi)⟩
  case assign =>
    intro l x W K hK
    simp only [actE, List.setIfInBounds_toArray, List.set_cons_succ, List.set_cons_zero] at hK ⊢
    gi_wp2
    exact hK
  case body =>
    intro l pre x W hJ hx hfx
    simp only [actE, List.setIfInBounds_toArray, List.set_cons_succ, List.set_cons_zero]
    have hk := HJd.out pre W hJ
    obtain ⟨y0, y1, y2, y3, y4, y5⟩ := HC.out W (HA.out W hJ.2)
    have hxn : x < Fo.length := HXn.out x hfx
    obtain ⟨xx, uu, vv, hu, hv, hrw, hxr⟩ := hk.fo.at' x hxn
    have hra := hk.ra
    have hFx := HFa.out _ (List.getElem_mem hxn)
    have HC2 := hid0 (joinToj_any B 4 gn m n (nxF Fo pre) Fo[x] xx (.agg #[uu, vv]) W.drew hFx.1 hm hn hFx.2 (by show B < W.heap.size; have := hJ.2.size; omega) (hra B hk.rB).2 y5 (hJ.1.kept (w' := W.drew) rfl) (hrw.only (w' := W.drew) (S := fun _ => False) (Only.drewN W 1 _) (fun _ _ h => h)) (fun e => (hra gn (hxr gn e)).2 rfl))
    have HS := hid0 (nxF_snoc Fo pre x hxn)
    have HJp := hid0 hJ.2
    have hxI : (x : Int) < (Fo.length : Int) := by omega
    have hxI0 : (0 : Int) ≤ (x : Int) := by omega
    have hxn2 : x < n := by omega
    generalize Fo[x] = Lx at *
    have HS7 : Hid (∀ V, Only W V (fun k => k = gn) → V.cell? ⟨w.heap.size, 0, none⟩ = some (.pointer (some ⟨B, 0, none⟩)) ∧ V.cell? ⟨B, 0, none⟩ = some (.slice (some ⟨gf, 0, none⟩) Fo.length cF) ∧ V.cell? ⟨gf, x * 2, none⟩ = some uu ∧ V.cell? ⟨gf, x * 2 + 1, none⟩ = some vv) := hid0 (fun V hV => by
      obtain ⟨q0, q1, _⟩ := HC.out V ((HA.out W hJ.2).trans hV (fun i hi => .inl (.inr hi)))
      exact ⟨q0, q1, (hV.cell (p := ⟨gf, x * 2, none⟩) hk.fo.lt (hra gf hk.fo.in').2).trans hu, (hV.cell (p := ⟨gf, x * 2 + 1, none⟩) hk.fo.lt (hra gf hk.fo.in').2).trans hv⟩)
    clear hrw hxr hk hra hFx hJ
    have hfj : Fence.wide.fn 81 := trivial
    gi_wp2
    refine wpIn_region_round (S := (fun V => V.cell? ⟨w.heap.size, 0, none⟩ = some (.pointer (some ⟨B, 0, none⟩)) ∧ V.cell? ⟨B, 0, none⟩ = some (.slice (some ⟨gf, 0, none⟩) Fo.length cF) ∧ V.cell? ⟨gf, x * 2, none⟩ = some uu ∧ V.cell? ⟨gf, x * 2 + 1, none⟩ = some vv)) (by kernel_rfl) (by kernel_rfl) ?_ (fun hHeld => ?_)
    · exact HS7.out W.drew (Only.drewN W 1 _)
    refine tkV (i := 0) (d := some 46) (v := ?_) rfl (by kernel_rfl) (by kernel_rfl) (by kernel_rfl) rfl (fun _ _ _ h => h) (by rfl) ?_ (by assumption) ?_
    rotate_left
    · (intro w hSw; (try dsimp only at hSw); (try simp only [List.getElem_toArray, List.getElem_cons_zero]); go_simp; try with_reducible rfl)
    try simp only [Act.put, List.setIfInBounds_toArray, List.set_cons_zero, List.set_cons_succ]
    refine tkV (i := 1) (d := some 47) (v := ?_) rfl (by kernel_rfl) (by kernel_rfl) (by kernel_rfl) rfl (fun _ _ _ h => h) (by rfl) ?_ (by assumption) ?_
    rotate_left
    · (intro w hSw; (try dsimp only at hSw); (try simp only [List.getElem_toArray, List.getElem_cons_zero, List.getElem_cons_succ]); go_simp; try with_reducible rfl)
    try simp only [Act.put, List.setIfInBounds_toArray, List.set_cons_zero, List.set_cons_succ]
    refine tkV (i := 2) (d := some 48) (v := ?_) rfl (by kernel_rfl) (by kernel_rfl) (by kernel_rfl) rfl (fun _ _ _ h => h) (by rfl) ?_ (by assumption) ?_
    rotate_left
    · (intro w hSw; (try dsimp only at hSw); (try simp only [List.getElem_toArray, List.getElem_cons_zero, List.getElem_cons_succ]); go_simp; try with_reducible rfl)
    try simp only [Act.put, List.setIfInBounds_toArray, List.set_cons_zero, List.set_cons_succ]
    refine tkV (i := 3) (d := some 49) (v := ?_) rfl (by kernel_rfl) (by kernel_rfl) (by kernel_rfl) rfl (fun _ _ _ h => h) (by rfl) ?_ (by assumption) ?_
    rotate_left
    · (intro w hSw; (try dsimp only at hSw); (try simp only [List.getElem_toArray, List.getElem_cons_zero, List.getElem_cons_succ]); go_simp; try with_reducible rfl)
    try simp only [Act.put, List.setIfInBounds_toArray, List.set_cons_zero, List.set_cons_succ]
    refine tkV (i := 4) (d := some 50) (v := ?_) rfl (by kernel_rfl) (by kernel_rfl) (by kernel_rfl) rfl (fun _ _ _ h => h) (by rfl) ?_ (by assumption) ?_
    rotate_left
    · (intro w hSw; (try dsimp only at hSw); (try simp only [List.getElem_toArray, List.getElem_cons_zero, List.getElem_cons_succ]); go_simp; try with_reducible rfl)
    try simp only [Act.put, List.setIfInBounds_toArray, List.set_cons_zero, List.set_cons_succ]
    refine tkV (i := 5) (d := some 51) (v := ?_) rfl (by kernel_rfl) (by kernel_rfl) (by kernel_rfl) rfl (fun _ _ _ h => h) (by rfl) ?_ (by assumption) ?_
    rotate_left
    · (intro w hSw; (try dsimp only at hSw); (try simp only [List.getElem_toArray, List.getElem_cons_zero, List.getElem_cons_succ]); go_simp; try with_reducible rfl)
    try simp only [Act.put, List.setIfInBounds_toArray, List.set_cons_zero, List.set_cons_succ]
    refine tkV (i := 6) (d := some 52) (v := ?_) rfl (by kernel_rfl) (by kernel_rfl) (by kernel_rfl) rfl (fun _ _ _ h => h) (by rfl) ?_ (by assumption) ?_
    rotate_left
    · (intro w hSw; (try dsimp only at hSw); (try simp only [List.getElem_toArray, List.getElem_cons_zero, List.getElem_cons_succ]); go_simp; try with_reducible rfl)
    try simp only [Act.put, List.setIfInBounds_toArray, List.set_cons_zero, List.set_cons_succ]
    refine tkV (i := 7) (d := some 53) (v := ?_) rfl (by kernel_rfl) (by kernel_rfl) (by kernel_rfl) rfl (fun _ _ _ h => h) (by rfl) ?_ (by assumption) ?_
    rotate_left
    · (intro w hSw; (try dsimp only at hSw); (try simp only [List.getElem_toArray, List.getElem_cons_zero, List.getElem_cons_succ]); go_simp; try with_reducible rfl)
    try simp only [Act.put, List.setIfInBounds_toArray, List.set_cons_zero, List.set_cons_succ]
    refine tkV (i := 8) (d := some 54) (v := ?_) rfl (by kernel_rfl) (by kernel_rfl) (by kernel_rfl) rfl (fun _ _ _ h => h) (by rfl) ?_ (by assumption) ?_
    rotate_left
    · (intro w hSw; (try dsimp only at hSw); (try simp only [List.getElem_toArray, List.getElem_cons_zero, List.getElem_cons_succ]); go_simp; try with_reducible rfl)
    try simp only [Act.put, List.setIfInBounds_toArray, List.set_cons_zero, List.set_cons_succ]
    refine tkV (i := 9) (d := some 55) (v := ?_) rfl (by kernel_rfl) (by kernel_rfl) (by kernel_rfl) rfl (fun _ _ _ h => h) (by rfl) ?_ (by assumption) ?_
    rotate_left
    · (intro w hSw; (try dsimp only at hSw); (try simp only [List.getElem_toArray, List.getElem_cons_zero, List.getElem_cons_succ]); go_simp; try with_reducible rfl)
    try simp only [Act.put, List.setIfInBounds_toArray, List.set_cons_zero, List.set_cons_succ]
    refine wpAnyH_ready (rs := [10]) (by kernel_rfl) (by simp) (AllReadyH.cons rfl (fun K hK => ?_) AllReadyH.nil)
    try simp only [List.getElem_toArray, List.getElem_cons_zero, List.getElem_cons_succ]
    go_simp
    refine HC2.out.mono ?_
    rintro e w5 ⟨rfl, hb5, ho5⟩
    have HB5 := hid0 hb5
    have HO5 : Hid (Only W w5 (fun k => k = gn)) := hid0 ((Only.drewN W 1 (fun k => k = gn)).trans ho5 (fun i hi => .inl hi))
    clear hb5 ho5
    go_wp2_with fail
    refine hK.out _ _ ?_ (fun hHeld10 => ?_)
    · exact HS7.out w5 HO5.out
    clear hK K
    (try simp only [Act.put]); (try simp only [List.setIfInBounds_toArray]); (try simp only [List.set_cons_succ]); (try simp only [List.set_cons_zero])
    refine wpAnyH_done (by kernel_rfl) ?_ _
    refine NormO.normal ?_
    gi_wp2
    exact ⟨⟨by rw [HS.out]; exact HB5.out, HJp.out.trans HO5.out (fun i hi => .inl hi)⟩, HO5.out⟩
  case done =>
    intro W hJ hK
    have hk := HJd.out _ W hJ
    obtain ⟨y0, y1, y2, y3, y4, y5⟩ := HC.out W (HA.out W hJ.2)
    have HE := hid0 (isEmpty_any ga m (stepAt L fx m) W hm hk.at')
    have HK := hid0 hK
    have HWk := hid0 hk
    have HOW := hid0 (HA.out W hJ.2)
    clear hk hJ hK
    gi_wp2_with (refine ⟨trivial, ?_⟩; gi_at_call 84; refine (callsIn_wide.2 HE.out).mono ?_; rintro e w6 ⟨rfl, hb6⟩; have HB6 := hid0 hb6; clear hb6)
    have hk6 : w6.heap[w4.heap.size]? = some (.deferred (some [])) := (HB6.out.block _ (Array.getElem?_eq_some_iff.1 HK.out).1).trans HK.out
    have ho6 : Only w0 (w6.putObj w4.heap.size (.deferred none)) (fun k => k = ga ∨ k = gn) := (HOW.out.trans (Only.ofNew HB6.out (fun k => k = ga ∨ k = gn)) (fun i hi => .inl hi)).trans (Only.putObj w6 w4.heap.size _ (fun k => w4.heap.size ≤ k) (Nat.le_refl _)) (fun i hi => .inr (by omega))
    have hbs := fun g' (hg' : g' < w.heap.size) => (World.putObj_heap_other (w := w6) (o := .deferred none) (show g' ≠ w4.heap.size by omega)).trans (HB6.out.block g' (by have := HOW.out.size; omega))
    refine ⟨by simp, .inl ⟨_, _, rfl, run_takeDeferred hk6, ?_⟩⟩
    exact ⟨_, results_tmp rfl _ _ _, rfl, HW.out _ _ _ ho6 (HWk.out.at'.kept (hbs ga hga)) (HWk.out.nx.kept (hbs gn hgn)), (Only.ofNew HBe.out (fun k => k = ga ∨ k = gn)).trans ho6 (fun i hi => .inl hi)⟩
end Go.Proofs.YtleeedjpccooaaaDoor
