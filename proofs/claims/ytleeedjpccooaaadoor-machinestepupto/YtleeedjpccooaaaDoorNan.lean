/-
  McTW, McUW, McVM, McVW.
-/
import Derived.Test.YtleeedjpccooaaaDoorNam
namespace Go.Proofs.YtleeedjpccooaaaDoor
open Go.RowKit Go.Shelf
set_option maxRecDepth 10000 in
set_option maxHeartbeats 800000 in
theorem begun_any (A : Nat → Addr) (w : World) (he : EnvM w A) : Calls Tryd.prog 8 #[] w fun e w' => e = .returned (.bool true) ∧ Hid (Below w.heap.size w w') := by
  obtain ⟨w1, w2, w3, w4, w5, w6, w7, h1, h2, h3, h4, h5, h6, h7, hb7, hbox, hpa⟩ := begun_laid w
  obtain ⟨b, hb, hnx, hou, hl1, hl2⟩ := begun_b
  have HE7 : Hid (∀ V, Below w7.heap.size w7 V → EnvM V A) := hid0 (fun V hV => he.past (Below.later hb7 hV))
  have HBu : Hid (Calls Tryd.prog 9 #[.slice (some ⟨w6.heap.size, 0, none⟩) 2 2, .int .i64 2, .int .i64 9] w7 fun e w' => ∃ aN G o a1 a2 a3 cN cO c1 c2 c3, e = .returned (.tuple #[.agg #[.int .i64 0, .slice aN 4 cN, .slice (some ⟨G, o, none⟩) 4 cO], .nilIface]) ∧ Hid (BgM w' aN G o a1 a2 a3 c1 c2 c3 ∧ Below w7.heap.size w7 w')) := hid0 ((build_ok (a := some ⟨w6.heap.size, 0, none⟩) (c := 2) hb hpa (HE7.out w7 (Below.refl _ _)) (by decide) (by decide) (by decide) (by decide) begun_bnd).mono (fun e w' h => by
    obtain ⟨aN, aO, cN, cO, q1, q2⟩ := h
    obtain ⟨r1, r2, r3⟩ := q2.out
    rw [hnx] at r1
    rw [hou] at r2
    rw [hl1, hl2] at q1
    obtain ⟨G, o, a1, a2, a3, c1, c2, c3, rfl, hg⟩ := BgM.of r1 r2
    exact ⟨aN, G, o, a1, a2, a3, cN, cO, c1, c2, c3, q1, hid0 ⟨hg, r3⟩⟩))
  obtain ⟨x0, x1, x2, x3, x4⟩ := row5 hbox
  have hself : w6.setCell ⟨w5.heap.size, 4, none⟩ (.bool false) = w6 := setCell_self hbox rfl
  have hfro : w6.frozen? ⟨w5.heap.size, 4, none⟩ = false := by simp [World.frozen?, hbox]
  have HB7 := hid0 hb7
  have heq := fun V => eq_same V (A 0)
  clear hbox hpa he hb hnx hou hl1 hl2 hb7
  go_enter Tryd.func8, Tryd.ntmps8
  go_upto_region 3 with (go_at_call 9; go_loud ((refine HBu.out.mono ?_; rintro e w8 ⟨aN, G, o, a1, a2, a3, cN, cO, c1, c2, c3, rfl, H8⟩)))
  clear HBu x0 x1 x2 x3 x4 hself hfro
  obtain ⟨w9, h9⟩ : ∃ w9, w9 = w8.alloc (.cells #[.int .i64 0, .slice aN 4 cN, .slice (some ⟨G, o, none⟩) 4 cO] 28) := ⟨_, rfl⟩
  rw [← h9]
  obtain ⟨M, hM⟩ : ∃ M, M = w8.heap.size := ⟨_, rfl⟩
  rw [← hM]
  have hr9 : w9.heap[M]? = some (.cells #[.int .i64 0, .slice aN 4 cN, .slice (some ⟨G, o, none⟩) 4 cO] 28 (0, 0)) := by rw [h9, hM]; exact heap_alloc_new w8 _
  have hb9 : Below w7.heap.size w7 w9 := by rw [h9]; exact Below.later H8.out.2 (below_alloc1 _ _)
  have HBg : Hid (∀ V, Below w9.heap.size w9 V → BgM V aN G o a1 a2 a3 c1 c2 c3 ∧ EnvM V A ∧ V.cell? ⟨M, 0, none⟩ = some (.int .i64 0) ∧ V.cell? ⟨M, 1, none⟩ = some (.slice aN 4 cN) ∧ V.cell? ⟨M, 2, none⟩ = some (.slice (some ⟨G, o, none⟩) 4 cO)) := hid0 (fun V hV => ⟨(H8.out.1.past (by rw [h9]; exact below_alloc1 _ _)).past hV, HE7.out V (Below.later hb9 hV), row3c ((hV.block _ (Array.getElem?_eq_some_iff.1 hr9).1).trans hr9)⟩)
  have HB9 : Hid (Below w.heap.size w w9) := hid0 (Below.later HB7.out hb9)
  have HRu : Hid (Calls Tryd.prog 13 #[.agg #[.int .i64 0, .slice aN 4 cN, .slice (some ⟨G, o, none⟩) 4 cO], .slice (some ⟨w9.heap.size, 0, none⟩) 3 3] (w9.alloc (.cells #[.int .i64 0, .int .i64 1, .int .i64 0] 3)) fun e w' => ∃ R cR, e = .returned (.tuple #[.slice (some ⟨R, 0, none⟩) 4 cR, .nilIface]) ∧ Hid ((∀ k, k < 4 → w'.cell? ⟨R, k, none⟩ = some (.int .i64 (k : Int))) ∧ Below w9.heap.size w9 w')) := hid0 (by
    have hA := below_alloc1 w9 (.cells #[.int .i64 0, .int .i64 1, .int .i64 0] 3)
    obtain ⟨g1, g2, _⟩ := HBg.out _ hA
    have h := mrun_two A 0 gN [0, 1, 0] aN (some ⟨G, o, none⟩) (some ⟨w9.heap.size, 0, none⟩) cN 4 cO 3 (w9.alloc (.cells #[.int .i64 0, .int .i64 1, .int .i64 0] 3)) (by decide) (by decide) g1.rn (ia_blk (L := [0, 1, 0]) (heap_alloc_new w9 _)) g2.t.sen
    rw [gN_run] at h
    refine h.mono (fun e w' h => ?_)
    obtain ⟨v, q1, q2, q3⟩ := h
    obtain ⟨R, cR, rfl, _, _, _⟩ := own_form q2 (by decide)
    refine ⟨R, cR, q1, hid0 ⟨fun k hk => ?_, Below.later hA q3⟩⟩
    have q := World.ownsRow.cellAt q2 k (by simpa using hk)
    rw [q]
    match k, hk with
    | 0, _ => rfl
    | 1, _ => rfl
    | 2, _ => rfl
    | 3, _ => rfl)
  obtain ⟨_, _, m0, m1, m2⟩ := HBg.out w9 (Below.refl _ _)
  clear h1 h2 h3 h4 h5 h6 h7 h9 hM hr9 hb9 H8 HE7
  go_upto_region 6 with (go_at_call 13; go_loud ((refine HRu.out.mono ?_; rintro e w10 ⟨R, cR, rfl, H10⟩)))
  clear HRu m0 m1 m2
  have HXX : Hid (∀ V, Below w10.heap.size w10 V → V.cell? ⟨M, 0, none⟩ = some (.int .i64 0) ∧ V.cell? ⟨M, 1, none⟩ = some (.slice aN 4 cN) ∧ V.cell? ⟨M, 2, none⟩ = some (.slice (some ⟨G, o, none⟩) 4 cO) ∧ V.cell? ⟨0, 0, none⟩ = some (.iface 157 (.pointer (some (A 0)))) ∧ V.cell? ⟨R, 1, none⟩ = some (.int .i64 1) ∧ V.cell? ⟨R, 2, none⟩ = some (.int .i64 2) ∧ V.cell? ⟨R, 3, none⟩ = some (.int .i64 3) ∧ V.cell? ⟨G, o + 1, none⟩ = some (.slice a1 2 c1) ∧ V.cell? ⟨G, o + 2, none⟩ = some (.slice a2 0 c2) ∧ V.cell? ⟨G, o + 3, none⟩ = some (.slice a3 1 c3)) := hid0 (fun V hV => by
    obtain ⟨g1, g2, g3, g4, g5⟩ := HBg.out V (Below.later H10.out.2 hV)
    have tr : ∀ k, k < 4 → V.cell? ⟨R, k, none⟩ = some (.int .i64 (k : Int)) := fun k hk => (hV.cell (p := ⟨R, k, none⟩) (World.block_lt_of_cell? w10 _ (H10.out.1 k hk))).trans (H10.out.1 k hk)
    exact ⟨g3, g4, g5, g2.t.sen.c0, tr 1 (by decide), tr 2 (by decide), tr 3 (by decide), g1.o1, g1.o2, g1.o3⟩)
  have HC2 : Hid (∀ V, Below w10.heap.size w10 V → Calls Tryd.prog 10 #[.agg #[.int .i64 0, .slice aN 4 cN, .slice (some ⟨G, o, none⟩) 4 cO], .int .i64 2, .int .i64 2] V fun e w' => e = .returned .nilIface ∧ Hid (Below w10.heap.size w10 w')) := hid0 (fun V hV => by
    obtain ⟨g1, g2, _⟩ := HBg.out V (Below.later H10.out.2 hV)
    have h := mcheck_two A 0 2 2 gN gO aN (some ⟨G, o, none⟩) cN cO V (by decide) (by decide) (by decide) (by decide) g1.rn g1.ro g2.t.sen
    rw [g_chk2] at h
    exact h.mono (fun e w' q => ⟨q.1, hid0 (Below.later hV q.2)⟩))
  have HC1 : Hid (∀ V, Below w10.heap.size w10 V → Calls Tryd.prog 10 #[.agg #[.int .i64 0, .slice aN 4 cN, .slice (some ⟨G, o, none⟩) 4 cO], .int .i64 2, .int .i64 1] V fun e w' => e = .returned (.iface 157 (.pointer (some (A 0)))) ∧ Hid (Below w10.heap.size w10 w')) := hid0 (fun V hV => by
    obtain ⟨g1, g2, _⟩ := HBg.out V (Below.later H10.out.2 hV)
    have h := mcheck_two A 0 2 1 gN gO aN (some ⟨G, o, none⟩) cN cO V (by decide) (by decide) (by decide) (by decide) g1.rn g1.ro g2.t.sen
    rw [g_chk1] at h
    exact h.mono (fun e w' q => ⟨q.1, hid0 (Below.later hV q.2)⟩))
  have HS2 : Hid (∀ V, Below w10.heap.size w10 V → Calls Tryd.prog 14 #[.slice a1 2 c1, .slice (some ⟨V.heap.size, 0, none⟩) 2 2] (V.alloc (.cells #[.int .i64 0, .int .i64 1] 3)) fun e w' => e = .returned (.bool true) ∧ Hid (Below w10.heap.size w10 w')) := hid0 (fun V hV => by
    have hA := below_alloc1 V (.cells #[.int .i64 0, .int .i64 1] 3)
    obtain ⟨g1, _⟩ := HBg.out _ (Below.later H10.out.2 (Below.later hV hA))
    have h := sameI [0, 1] a1 (some ⟨V.heap.size, 0, none⟩) c1 2 (V.alloc (.cells #[.int .i64 0, .int .i64 1] 3)) (by decide) g1.i1 (ia_blk (L := [0, 1]) (heap_alloc_new V _))
    refine h.mono (fun e w' q => ⟨q.1, hid0 ?_⟩)
    obtain ⟨n, hn⟩ := q.2
    rw [hn]
    exact below_drew' (Below.later hV hA) _)
  have HS1 : Hid (∀ V, Below w10.heap.size w10 V → Calls Tryd.prog 14 #[.slice a3 1 c3, .slice (some ⟨V.heap.size, 0, none⟩) 1 1] (V.alloc (.cells #[.int .i64 0] 3)) fun e w' => e = .returned (.bool true) ∧ Hid (Below w10.heap.size w10 w')) := hid0 (fun V hV => by
    have hA := below_alloc1 V (.cells #[.int .i64 0] 3)
    obtain ⟨g1, _⟩ := HBg.out _ (Below.later H10.out.2 (Below.later hV hA))
    have h := sameI [0] a3 (some ⟨V.heap.size, 0, none⟩) c3 1 (V.alloc (.cells #[.int .i64 0] 3)) (by decide) g1.i3 (ia_blk (L := [0]) (heap_alloc_new V _))
    refine h.mono (fun e w' q => ⟨q.1, hid0 ?_⟩)
    obtain ⟨n, hn⟩ := q.2
    rw [hn]
    exact below_drew' (Below.later hV hA) _)
  have HL := hid0 H10.out.1
  have HB10 : Hid (Below w.heap.size w w10) := hid0 (Below.later HB9.out H10.out.2)
  have HD0 : Hid (Below w10.heap.size w10 w10.drew) := hid0 ⟨rfl, rfl, rfl, Nat.le_refl _, fun _ _ => rfl⟩
  clear HBg H10 HB9 HB7
  go_wp2
  go_loopw [6] (fun q wr => ∃ k : Nat, k ≤ 4 ∧ q = .int .i64 (k : Int) ∧ wr = w10) (fun q _ => 4 - (intOf q).toNat)
  case atStart => exact ⟨0, by decide, rfl, rfl⟩
  case round =>
    obtain ⟨k, hk, rfl, hw⟩ := hrel
    subst hw
    by_cases hlt : k < 4
    · have d := HL.out k hlt
      have hkI : (k : Int) < 4 := by omega
      have hkI0 : ¬ (k : Int) < 0 := by omega
      have hkI1 : (0 : Int) ≤ (k : Int) := by omega
      have hkI2 : ¬ (k : Int) > 3 := by omega
      go_wp2
      go_roundw
      case rel => exact ⟨k + 1, by omega, by go_num, trivial⟩
      case measure => simp [intOf]; omega
    · have hkI : ¬ (k : Int) < 4 := by omega
      go_wp2
      refine wp_region_noPanic ?_
      refine wp_region_held_drew (S := (fun V => V.cell? ⟨M, 0, none⟩ = some (.int .i64 0) ∧ V.cell? ⟨M, 1, none⟩ = some (.slice aN 4 cN) ∧ V.cell? ⟨M, 2, none⟩ = some (.slice (some ⟨G, o, none⟩) 4 cO) ∧ V.cell? ⟨0, 0, none⟩ = some (.iface 157 (.pointer (some (A 0)))) ∧ V.cell? ⟨R, 1, none⟩ = some (.int .i64 1) ∧ V.cell? ⟨R, 2, none⟩ = some (.int .i64 2) ∧ V.cell? ⟨R, 3, none⟩ = some (.int .i64 3) ∧ V.cell? ⟨G, o + 1, none⟩ = some (.slice a1 2 c1) ∧ V.cell? ⟨G, o + 2, none⟩ = some (.slice a2 0 c2) ∧ V.cell? ⟨G, o + 3, none⟩ = some (.slice a3 1 c3))) (by kernel_rfl) ?_ (fun hHeld => ?_)
      · exact HXX.out _ HD0.out
      refine tkV (i := 0) (d := some 65) (v := ?_) rfl (by kernel_rfl) (by kernel_rfl) (by kernel_rfl) rfl (fun _ _ _ h => h) (by rfl) ?_ (by assumption) ?_
      rotate_left
      · (intro w hSw; (try dsimp only at hSw); (try simp only [List.getElem_toArray, List.getElem_cons_zero]); go_simp; try with_reducible rfl)
      try simp only [Act.put, List.setIfInBounds_toArray, List.set_cons_zero, List.set_cons_succ]
      refine wpAnyH_ready (rs := [1]) (by kernel_rfl) (by simp) (AllReadyH.cons rfl (fun K hK => ?_) AllReadyH.nil)
      try simp only [List.getElem_toArray, List.getElem_cons_zero, List.getElem_cons_succ]
      go_simp
      refine (HC2.out wr.drew HD0.out).mono ?_
      rintro e w11 ⟨rfl, H11⟩
      have hs11 := HXX.out w11 H11.out
      go_wp2_with fail
      refine hK.out _ _ ?_ (fun hHeld1 => ?_)
      · exact hs11
      clear hK K
      (try simp only [Act.put]); (try simp only [List.setIfInBounds_toArray]); (try simp only [List.set_cons_succ]); (try simp only [List.set_cons_zero])
      refine tkV (i := 2) (d := some 67) (v := ?_) rfl (by kernel_rfl) (by kernel_rfl) (by kernel_rfl) rfl (fun _ _ _ h => h) (by rfl) ?_ (by assumption) ?_
      rotate_left
      · (intro w hSw; (try dsimp only at hSw); (try simp only [List.getElem_toArray, List.getElem_cons_zero, List.getElem_cons_succ]); go_simp; try with_reducible rfl)
      try simp only [Act.put, List.setIfInBounds_toArray, List.set_cons_zero, List.set_cons_succ]
      refine tkV (i := 3) (d := some 68) (v := ?_) rfl (by kernel_rfl) (by kernel_rfl) (by kernel_rfl) rfl (fun _ _ _ h => h) (by rfl) ?_ (by assumption) ?_
      rotate_left
      · (intro w hSw; (try dsimp only at hSw); (try simp only [List.getElem_toArray, List.getElem_cons_zero, List.getElem_cons_succ]); go_simp; try with_reducible rfl)
      try simp only [Act.put, List.setIfInBounds_toArray, List.set_cons_zero, List.set_cons_succ]
      refine tkV (i := 4) (d := some 69) (v := ?_) rfl (by kernel_rfl) (by kernel_rfl) (by kernel_rfl) rfl (fun _ _ _ h => h) (by rfl) ?_ (by assumption) ?_
      rotate_left
      · (intro w hSw; (try dsimp only at hSw); (try simp only [List.getElem_toArray, List.getElem_cons_zero, List.getElem_cons_succ]); go_simp; try with_reducible rfl)
      try simp only [Act.put, List.setIfInBounds_toArray, List.set_cons_zero, List.set_cons_succ]
      refine tkV (i := 6) (d := some 71) (v := ?_) rfl (by kernel_rfl) (by kernel_rfl) (by kernel_rfl) rfl (fun _ _ _ h => h) (by rfl) ?_ (by assumption) ?_
      rotate_left
      · (intro w hSw; (try dsimp only at hSw); (try simp only [List.getElem_toArray, List.getElem_cons_zero, List.getElem_cons_succ]); go_simp; try with_reducible rfl)
      try simp only [Act.put, List.setIfInBounds_toArray, List.set_cons_zero, List.set_cons_succ]
      refine wpAnyH_ready (rs := [5]) (by kernel_rfl) (by simp) (AllReadyH.cons rfl (fun K hK => ?_) AllReadyH.nil)
      try simp only [List.getElem_toArray, List.getElem_cons_zero, List.getElem_cons_succ]
      go_simp
      refine (HC1.out w11 H11.out).mono ?_
      rintro e w12 ⟨rfl, H12⟩
      have hs12 := HXX.out w12 H12.out
      go_wp2_with fail
      refine hK.out _ _ ?_ (fun hHeld5 => ?_)
      · exact hs12
      clear hK K
      (try simp only [Act.put]); (try simp only [List.setIfInBounds_toArray]); (try simp only [List.set_cons_succ]); (try simp only [List.set_cons_zero])
      refine tkV (i := 7) (d := some 72) (v := ?_) rfl (by kernel_rfl) (by kernel_rfl) (by kernel_rfl) rfl (fun _ _ _ h => h) (by rfl) ?_ (by assumption) ?_
      rotate_left
      · (intro w hSw; (try dsimp only at hSw); (try simp only [List.getElem_toArray, List.getElem_cons_zero, List.getElem_cons_succ]); go_simp; try with_reducible rfl)
      try simp only [Act.put, List.setIfInBounds_toArray, List.set_cons_zero, List.set_cons_succ]
      refine tkV (i := 8) (d := some 73) (v := ?_) rfl (by kernel_rfl) (by kernel_rfl) (by kernel_rfl) rfl (fun _ _ _ h => h) (by rfl) ?_ (by assumption) ?_
      rotate_left
      · (intro w hSw; (try dsimp only at hSw); (try simp only [List.getElem_toArray, List.getElem_cons_zero, List.getElem_cons_succ]); go_simp; try with_reducible rfl)
      try simp only [Act.put, List.setIfInBounds_toArray, List.set_cons_zero, List.set_cons_succ]
      refine tkV (i := 9) (d := some 74) (v := ?_) rfl (by kernel_rfl) (by kernel_rfl) (by kernel_rfl) rfl (fun _ _ _ h => h) (by rfl) ?_ (by assumption) ?_
      rotate_left
      · (intro w hSw; (try dsimp only at hSw); (try simp only [List.getElem_toArray, List.getElem_cons_zero, List.getElem_cons_succ]); go_simp; try with_reducible rfl)
      try simp only [Act.put, List.setIfInBounds_toArray, List.set_cons_zero, List.set_cons_succ]
      refine tkV (i := 10) (d := some 75) (v := ?_) rfl (by kernel_rfl) (by kernel_rfl) (by kernel_rfl) rfl (fun _ _ _ h => h) (by rfl) ?_ (by assumption) ?_
      rotate_left
      · (intro w hSw; (try dsimp only at hSw); (try simp only [List.getElem_toArray, List.getElem_cons_zero, List.getElem_cons_succ]); go_simp; try with_reducible rfl)
      try simp only [Act.put, List.setIfInBounds_toArray, List.set_cons_zero, List.set_cons_succ]
      refine tkV (i := 11) (d := some 76) (v := ?_) rfl (by kernel_rfl) (by kernel_rfl) (by kernel_rfl) rfl (fun _ _ _ h => h) (by rfl) ?_ (by assumption) ?_
      rotate_left
      · (intro w hSw; (try dsimp only at hSw); (try simp only [List.getElem_toArray, List.getElem_cons_zero, List.getElem_cons_succ]); go_simp; try with_reducible rfl)
      try simp only [Act.put, List.setIfInBounds_toArray, List.set_cons_zero, List.set_cons_succ]
      refine tkV (i := 12) (d := some 77) (v := ?_) rfl (by kernel_rfl) (by kernel_rfl) (by kernel_rfl) rfl (fun _ _ _ h => h) (by rfl) ?_ (by assumption) ?_
      rotate_left
      · (intro w hSw; (try dsimp only at hSw); (try simp only [List.getElem_toArray, List.getElem_cons_zero, List.getElem_cons_succ]); go_simp; try with_reducible rfl)
      try simp only [Act.put, List.setIfInBounds_toArray, List.set_cons_zero, List.set_cons_succ]
      refine tkV (i := 13) (d := some 78) (v := ?_) rfl (by kernel_rfl) (by kernel_rfl) (by kernel_rfl) rfl (fun _ _ _ h => h) (by rfl) ?_ (by assumption) ?_
      rotate_left
      · (intro w hSw; (try dsimp only at hSw); (try simp only [List.getElem_toArray, List.getElem_cons_zero, List.getElem_cons_succ]); go_simp; try with_reducible rfl)
      try simp only [Act.put, List.setIfInBounds_toArray, List.set_cons_zero, List.set_cons_succ]
      refine tkV (i := 14) (d := some 79) (v := ?_) rfl (by kernel_rfl) (by kernel_rfl) (by kernel_rfl) rfl (fun _ _ _ h => h) (by rfl) ?_ (by assumption) ?_
      rotate_left
      · (intro w hSw; (try dsimp only at hSw); (try simp only [List.getElem_toArray, List.getElem_cons_zero, List.getElem_cons_succ]); go_simp; try with_reducible rfl)
      try simp only [Act.put, List.setIfInBounds_toArray, List.set_cons_zero, List.set_cons_succ]
      refine tkV (i := 15) (d := some 80) (v := ?_) rfl (by kernel_rfl) (by kernel_rfl) (by kernel_rfl) rfl (fun _ _ _ h => h) (by rfl) ?_ (by assumption) ?_
      rotate_left
      · (intro w hSw; (try dsimp only at hSw); (try simp only [List.getElem_toArray, List.getElem_cons_zero, List.getElem_cons_succ]); go_simp; try with_reducible rfl)
      try simp only [Act.put, List.setIfInBounds_toArray, List.set_cons_zero, List.set_cons_succ]
      refine tkV (i := 16) (d := some 81) (v := ?_) rfl (by kernel_rfl) (by kernel_rfl) (by kernel_rfl) rfl (fun _ _ _ h => h) (by rfl) ?_ (by assumption) ?_
      rotate_left
      · (intro w hSw; (try dsimp only at hSw); (try simp only [List.getElem_toArray, List.getElem_cons_zero, List.getElem_cons_succ]); go_simp; try with_reducible rfl)
      try simp only [Act.put, List.setIfInBounds_toArray, List.set_cons_zero, List.set_cons_succ]
      refine wpAnyH_ready (rs := [17]) (by kernel_rfl) (by simp) (AllReadyH.cons rfl (fun K hK => ?_) AllReadyH.nil)
      try simp only [List.getElem_toArray, List.getElem_cons_zero, List.getElem_cons_succ]
      go_simp
      refine hK.out _ _ ?_ (fun hHeld17 => ?_)
      · exact HXX.out _ (H12.out.alloc H12.out.size _)
      clear hK K
      (try simp only [Act.put]); (try simp only [List.setIfInBounds_toArray]); (try simp only [List.set_cons_succ]); (try simp only [List.set_cons_zero])
      refine wpAnyH_ready (rs := [18]) (by kernel_rfl) (by simp) (AllReadyH.cons rfl (fun K hK => ?_) AllReadyH.nil)
      try simp only [List.getElem_toArray, List.getElem_cons_zero, List.getElem_cons_succ]
      go_simp
      refine (HS2.out w12 H12.out).mono ?_
      rintro e w13 ⟨rfl, H13⟩
      have hs13 := HXX.out w13 H13.out
      go_wp2_with fail
      refine hK.out _ _ ?_ (fun hHeld18 => ?_)
      · exact hs13
      clear hK K
      (try simp only [Act.put]); (try simp only [List.setIfInBounds_toArray]); (try simp only [List.set_cons_succ]); (try simp only [List.set_cons_zero])
      refine tkV (i := 19) (d := some 84) (v := ?_) rfl (by kernel_rfl) (by kernel_rfl) (by kernel_rfl) rfl (fun _ _ _ h => h) (by rfl) ?_ (by assumption) ?_
      rotate_left
      · (intro w hSw; (try dsimp only at hSw); (try simp only [List.getElem_toArray, List.getElem_cons_zero, List.getElem_cons_succ]); go_simp; try with_reducible rfl)
      try simp only [Act.put, List.setIfInBounds_toArray, List.set_cons_zero, List.set_cons_succ]
      refine tkV (i := 20) (d := some 85) (v := ?_) rfl (by kernel_rfl) (by kernel_rfl) (by kernel_rfl) rfl (fun _ _ _ h => h) (by rfl) ?_ (by assumption) ?_
      rotate_left
      · (intro w hSw; (try dsimp only at hSw); (try simp only [List.getElem_toArray, List.getElem_cons_zero, List.getElem_cons_succ]); go_simp; try with_reducible rfl)
      try simp only [Act.put, List.setIfInBounds_toArray, List.set_cons_zero, List.set_cons_succ]
      refine tkV (i := 21) (d := some 86) (v := ?_) rfl (by kernel_rfl) (by kernel_rfl) (by kernel_rfl) rfl (fun _ _ _ h => h) (by rfl) ?_ (by assumption) ?_
      rotate_left
      · (intro w hSw; (try dsimp only at hSw); (try simp only [List.getElem_toArray, List.getElem_cons_zero, List.getElem_cons_succ]); go_simp; try with_reducible rfl)
      try simp only [Act.put, List.setIfInBounds_toArray, List.set_cons_zero, List.set_cons_succ]
      refine tkV (i := 22) (d := some 87) (v := ?_) rfl (by kernel_rfl) (by kernel_rfl) (by kernel_rfl) rfl (fun _ _ _ h => h) (by rfl) ?_ (by assumption) ?_
      rotate_left
      · (intro w hSw; (try dsimp only at hSw); (try simp only [List.getElem_toArray, List.getElem_cons_zero, List.getElem_cons_succ]); go_simp; try with_reducible rfl)
      try simp only [Act.put, List.setIfInBounds_toArray, List.set_cons_zero, List.set_cons_succ]
      refine tkV (i := 23) (d := some 88) (v := ?_) rfl (by kernel_rfl) (by kernel_rfl) (by kernel_rfl) rfl (fun _ _ _ h => h) (by rfl) ?_ (by assumption) ?_
      rotate_left
      · (intro w hSw; (try dsimp only at hSw); (try simp only [List.getElem_toArray, List.getElem_cons_zero, List.getElem_cons_succ]); go_simp; try with_reducible rfl)
      try simp only [Act.put, List.setIfInBounds_toArray, List.set_cons_zero, List.set_cons_succ]
      refine tkV (i := 24) (d := some 89) (v := ?_) rfl (by kernel_rfl) (by kernel_rfl) (by kernel_rfl) rfl (fun _ _ _ h => h) (by rfl) ?_ (by assumption) ?_
      rotate_left
      · (intro w hSw; (try dsimp only at hSw); (try simp only [List.getElem_toArray, List.getElem_cons_zero, List.getElem_cons_succ]); go_simp; try with_reducible rfl)
      try simp only [Act.put, List.setIfInBounds_toArray, List.set_cons_zero, List.set_cons_succ]
      refine tkV (i := 25) (d := some 90) (v := ?_) rfl (by kernel_rfl) (by kernel_rfl) (by kernel_rfl) rfl (fun _ _ _ h => h) (by rfl) ?_ (by assumption) ?_
      rotate_left
      · (intro w hSw; (try dsimp only at hSw); (try simp only [List.getElem_toArray, List.getElem_cons_zero, List.getElem_cons_succ]); go_simp; try with_reducible rfl)
      try simp only [Act.put, List.setIfInBounds_toArray, List.set_cons_zero, List.set_cons_succ]
      refine tkV (i := 26) (d := some 91) (v := ?_) rfl (by kernel_rfl) (by kernel_rfl) (by kernel_rfl) rfl (fun _ _ _ h => h) (by rfl) ?_ (by assumption) ?_
      rotate_left
      · (intro w hSw; (try dsimp only at hSw); (try simp only [List.getElem_toArray, List.getElem_cons_zero, List.getElem_cons_succ]); go_simp; try with_reducible rfl)
      try simp only [Act.put, List.setIfInBounds_toArray, List.set_cons_zero, List.set_cons_succ]
      refine tkV (i := 27) (d := some 92) (v := ?_) rfl (by kernel_rfl) (by kernel_rfl) (by kernel_rfl) rfl (fun _ _ _ h => h) (by rfl) ?_ (by assumption) ?_
      rotate_left
      · (intro w hSw; (try dsimp only at hSw); (try simp only [List.getElem_toArray, List.getElem_cons_zero, List.getElem_cons_succ]); go_simp; try with_reducible rfl)
      try simp only [Act.put, List.setIfInBounds_toArray, List.set_cons_zero, List.set_cons_succ]
      refine tkV (i := 28) (d := some 93) (v := ?_) rfl (by kernel_rfl) (by kernel_rfl) (by kernel_rfl) rfl (fun _ _ _ h => h) (by rfl) ?_ (by assumption) ?_
      rotate_left
      · (intro w hSw; (try dsimp only at hSw); (try simp only [List.getElem_toArray, List.getElem_cons_zero, List.getElem_cons_succ]); go_simp; try with_reducible rfl)
      try simp only [Act.put, List.setIfInBounds_toArray, List.set_cons_zero, List.set_cons_succ]
      refine tkV (i := 29) (d := some 94) (v := ?_) rfl (by kernel_rfl) (by kernel_rfl) (by kernel_rfl) rfl (fun _ _ _ h => h) (by rfl) ?_ (by assumption) ?_
      rotate_left
      · (intro w hSw; (try dsimp only at hSw); (try simp only [List.getElem_toArray, List.getElem_cons_zero, List.getElem_cons_succ]); go_simp; try with_reducible rfl)
      try simp only [Act.put, List.setIfInBounds_toArray, List.set_cons_zero, List.set_cons_succ]
      refine tkV (i := 30) (d := some 95) (v := ?_) rfl (by kernel_rfl) (by kernel_rfl) (by kernel_rfl) rfl (fun _ _ _ h => h) (by rfl) ?_ (by assumption) ?_
      rotate_left
      · (intro w hSw; (try dsimp only at hSw); (try simp only [List.getElem_toArray, List.getElem_cons_zero, List.getElem_cons_succ]); go_simp; try with_reducible rfl)
      try simp only [Act.put, List.setIfInBounds_toArray, List.set_cons_zero, List.set_cons_succ]
      refine tkV (i := 31) (d := some 96) (v := ?_) rfl (by kernel_rfl) (by kernel_rfl) (by kernel_rfl) rfl (fun _ _ _ h => h) (by rfl) ?_ (by assumption) ?_
      rotate_left
      · (intro w hSw; (try dsimp only at hSw); (try simp only [List.getElem_toArray, List.getElem_cons_zero, List.getElem_cons_succ]); go_simp; try with_reducible rfl)
      try simp only [Act.put, List.setIfInBounds_toArray, List.set_cons_zero, List.set_cons_succ]
      refine tkV (i := 32) (d := some 97) (v := ?_) rfl (by kernel_rfl) (by kernel_rfl) (by kernel_rfl) rfl (fun _ _ _ h => h) (by rfl) ?_ (by assumption) ?_
      rotate_left
      · (intro w hSw; (try dsimp only at hSw); (try simp only [List.getElem_toArray, List.getElem_cons_zero, List.getElem_cons_succ]); go_simp; try with_reducible rfl)
      try simp only [Act.put, List.setIfInBounds_toArray, List.set_cons_zero, List.set_cons_succ]
      refine tkV (i := 33) (d := some 98) (v := ?_) rfl (by kernel_rfl) (by kernel_rfl) (by kernel_rfl) rfl (fun _ _ _ h => h) (by rfl) ?_ (by assumption) ?_
      rotate_left
      · (intro w hSw; (try dsimp only at hSw); (try simp only [List.getElem_toArray, List.getElem_cons_zero, List.getElem_cons_succ]); go_simp; try with_reducible rfl)
      try simp only [Act.put, List.setIfInBounds_toArray, List.set_cons_zero, List.set_cons_succ]
      refine tkV (i := 34) (d := some 99) (v := ?_) rfl (by kernel_rfl) (by kernel_rfl) (by kernel_rfl) rfl (fun _ _ _ h => h) (by rfl) ?_ (by assumption) ?_
      rotate_left
      · (intro w hSw; (try dsimp only at hSw); (try simp only [List.getElem_toArray, List.getElem_cons_zero, List.getElem_cons_succ]); go_simp; try with_reducible rfl)
      try simp only [Act.put, List.setIfInBounds_toArray, List.set_cons_zero, List.set_cons_succ]
      refine tkV (i := 35) (d := some 100) (v := ?_) rfl (by kernel_rfl) (by kernel_rfl) (by kernel_rfl) rfl (fun _ _ _ h => h) (by rfl) ?_ (by assumption) ?_
      rotate_left
      · (intro w hSw; (try dsimp only at hSw); (try simp only [List.getElem_toArray, List.getElem_cons_zero, List.getElem_cons_succ]); go_simp; try with_reducible rfl)
      try simp only [Act.put, List.setIfInBounds_toArray, List.set_cons_zero, List.set_cons_succ]
      refine tkV (i := 36) (d := some 101) (v := ?_) rfl (by kernel_rfl) (by kernel_rfl) (by kernel_rfl) rfl (fun _ _ _ h => h) (by rfl) ?_ (by assumption) ?_
      rotate_left
      · (intro w hSw; (try dsimp only at hSw); (try simp only [List.getElem_toArray, List.getElem_cons_zero, List.getElem_cons_succ]); go_simp; try with_reducible rfl)
      try simp only [Act.put, List.setIfInBounds_toArray, List.set_cons_zero, List.set_cons_succ]
      refine tkV (i := 37) (d := some 102) (v := ?_) rfl (by kernel_rfl) (by kernel_rfl) (by kernel_rfl) rfl (fun _ _ _ h => h) (by rfl) ?_ (by assumption) ?_
      rotate_left
      · (intro w hSw; (try dsimp only at hSw); (try simp only [List.getElem_toArray, List.getElem_cons_zero, List.getElem_cons_succ]); go_simp; try with_reducible rfl)
      try simp only [Act.put, List.setIfInBounds_toArray, List.set_cons_zero, List.set_cons_succ]
      refine tkV (i := 38) (d := some 103) (v := ?_) rfl (by kernel_rfl) (by kernel_rfl) (by kernel_rfl) rfl (fun _ _ _ h => h) (by rfl) ?_ (by assumption) ?_
      rotate_left
      · (intro w hSw; (try dsimp only at hSw); (try simp only [List.getElem_toArray, List.getElem_cons_zero, List.getElem_cons_succ]); go_simp; try with_reducible rfl)
      try simp only [Act.put, List.setIfInBounds_toArray, List.set_cons_zero, List.set_cons_succ]
      refine wpAnyH_ready (rs := [39]) (by kernel_rfl) (by simp) (AllReadyH.cons rfl (fun K hK => ?_) AllReadyH.nil)
      try simp only [List.getElem_toArray, List.getElem_cons_zero, List.getElem_cons_succ]
      go_simp
      refine hK.out _ _ ?_ (fun hHeld39 => ?_)
      · exact HXX.out _ (H13.out.alloc H13.out.size _)
      clear hK K
      (try simp only [Act.put]); (try simp only [List.setIfInBounds_toArray]); (try simp only [List.set_cons_succ]); (try simp only [List.set_cons_zero])
      refine wpAnyH_ready (rs := [40]) (by kernel_rfl) (by simp) (AllReadyH.cons rfl (fun K hK => ?_) AllReadyH.nil)
      try simp only [List.getElem_toArray, List.getElem_cons_zero, List.getElem_cons_succ]
      go_simp
      refine (HS1.out w13 H13.out).mono ?_
      rintro e w14 ⟨rfl, H14⟩
      have hs14 := HXX.out w14 H14.out
      go_wp2_with fail
      refine hK.out _ _ ?_ (fun hHeld40 => ?_)
      · exact hs14
      clear hK K
      (try simp only [Act.put]); (try simp only [List.setIfInBounds_toArray]); (try simp only [List.set_cons_succ]); (try simp only [List.set_cons_zero])
      refine tkV (i := 41) (d := some 106) (v := ?_) rfl (by kernel_rfl) (by kernel_rfl) (by kernel_rfl) rfl (fun _ _ _ h => h) (by rfl) ?_ (by assumption) ?_
      rotate_left
      · (intro w hSw; (try dsimp only at hSw); (try simp only [List.getElem_toArray, List.getElem_cons_zero, List.getElem_cons_succ]); go_simp; try with_reducible rfl)
      try simp only [Act.put, List.setIfInBounds_toArray, List.set_cons_zero, List.set_cons_succ]
      refine tkV (i := 42) (d := some 0) (v := ?_) rfl (by kernel_rfl) (by kernel_rfl) (by kernel_rfl) rfl (fun _ _ _ h => h) (by rfl) ?_ (by assumption) ?_
      rotate_left
      · (intro w hSw; (try dsimp only at hSw); (try simp only [List.getElem_toArray, List.getElem_cons_zero, List.getElem_cons_succ]); go_simp; try with_reducible rfl)
      try simp only [Act.put, List.setIfInBounds_toArray, List.set_cons_zero]
      refine wpAnyH_done (by kernel_rfl) ?_ _
      refine NoPanic.normal ?_
      go_wp2_with fail
      go_ret
      exact ⟨rfl, hid0 (Below.later HB10.out H14.out)⟩
end Go.Proofs.YtleeedjpccooaaaDoor
namespace Go.Proofs.YtleeedjpccooaaaDoor
open Go.RowKit Go.Shelf
/-- What a law of Job, or of Read, asks of its input. -/
structure JobI (w : World) (A : Nat → Addr) (aP : Option Addr) (rs : List Pr) (sy most : Int) : Prop where
  pa : PaI w aP rs
  env : EnvM w A
  bnd : PrB rs
  s63 : sy ≤ 9223372036854775807
  s64 : -9223372036854775808 ≤ sy
  m63 : most ≤ 9223372036854775807
  m64 : -9223372036854775808 ≤ most
set_option maxRecDepth 10000 in
set_option maxHeartbeats 800000 in
theorem machineMost_any (A : Nat → Addr) (rs : List Pr) (sy most : Int) (aP : Option Addr) (cP : Nat) (w : World) (hj : JobI w A aP rs sy most) :
    Calls Tryd.prog 4 #[.agg #[.slice aP rs.length cP, .int .i64 sy, .int .i64 most]] w fun e w' => e = .returned (.bool true) ∧ Below w.heap.size w w' := by
  obtain ⟨hp, he, hB, hs63, hs64, hm63, hm64⟩ := hj
  obtain ⟨rn, hrn⟩ : ∃ rn, rn = rs.length := ⟨_, rfl⟩
  obtain ⟨w0, hw0⟩ : ∃ w0, w0 = w.alloc (.cells #[.slice aP rs.length cP, .int .i64 sy, .int .i64 most] 24) := ⟨_, rfl⟩
  have hb0 : Below w.heap.size w w0 := by rw [hw0]; exact below_alloc1 _ _
  have hr0 : w0.heap[w.heap.size]? = some (.cells #[.slice aP rs.length cP, .int .i64 sy, .int .i64 most] 24 (0, 0)) := by rw [hw0]; exact heap_alloc_new w _
  have HX : Hid (∀ V, Below w0.heap.size w0 V → (V.cell? ⟨w.heap.size, 0, none⟩ = some (.slice aP rn cP) ∧ V.cell? ⟨w.heap.size, 1, none⟩ = some (.int .i64 sy) ∧ V.cell? ⟨w.heap.size, 2, none⟩ = some (.int .i64 most)) ∧ PaI V aP rs ∧ EnvM V A) := hid0 (fun V hV => by
    have hc := row3c ((hV.block _ (Array.getElem?_eq_some_iff.1 hr0).1).trans hr0)
    rw [← hrn] at hc
    exact ⟨hc, hp.past (Below.later hb0 hV), he.past (Below.later hb0 hV)⟩)
  have HBe : Hid (Calls Tryd.prog 8 #[] w0 fun e w' => e = .returned (.bool true) ∧ Hid (Below w0.heap.size w0 w')) := hid0 (begun_any A w0 (he.past hb0))
  have HB0 := hid0 hb0
  have hfold := hw0.symm
  rw [← hrn] at hfold ⊢
  clear hp he hb0 hr0 hw0
  cases hq : bldF rs sy most with
  | error i =>
    have HBu : Hid (∀ V, Below w0.heap.size w0 V → Calls Tryd.prog 9 #[.slice aP rn cP, .int .i64 sy, .int .i64 most] V fun e w' => e = .returned (.tuple #[.agg #[.int .i64 0, .slice none 0 0, .slice none 0 0], .iface 157 (.pointer (some (A i)))]) ∧ Hid (Below V.heap.size V w')) := hid0 (fun V hV => by
      have h := build_err (c := cP) hq (HX.out V hV).2.1 (HX.out V hV).2.2 hs63 hs64 hm63 hm64 hB
      rw [← hrn] at h
      exact h)
    have HR := hid0 hrn
    clear hq hrn hB
    go_enter Tryd.func4, Tryd.ntmps4
    go_upto_region 4 with (first
      | (go_at_call 8; go_loud ((refine HBe.out.mono ?_; rintro e w1 ⟨rfl, H1⟩; obtain ⟨⟨x0, x1, x2⟩, _⟩ := HX.out w1 H1.out)))
      | (go_at_call 9; go_loud ((refine (HBu.out w1 H1.out).mono ?_; rintro e w2 ⟨rfl, H2⟩))))
    obtain ⟨w3, h3⟩ : ∃ w3, w3 = w2.alloc (.cells #[.int .i64 0, .slice none 0 0, .slice none 0 0] 28) := ⟨_, rfl⟩
    rw [← h3]
    have hr3 : w3.heap[w2.heap.size]? = some (.cells #[.int .i64 0, .slice none 0 0, .slice none 0 0] 28 (0, 0)) := by rw [h3]; exact heap_alloc_new w2 _
    obtain ⟨m0, m1, m2⟩ := row3c hr3
    have HF : Hid (Below w.heap.size w w3) := hid0 (by rw [h3]; exact Below.later HB0.out (Below.later H1.out (Below.later H2.out (below_alloc1 _ _))))
    clear h3 hr3 x0 x1 x2
    go_wp2
    go_ret
    exact ⟨rfl, HF.out⟩
  | ok b =>
    have hv := bldF_ok hq
    obtain ⟨v1, v2, v3, v4, v5, v6⟩ := hv.val
    have hs1 := hv.s1
    have hs2 := hv.s2
    have hm2 := hv.m2
    obtain ⟨NN, hNN⟩ : ∃ NN, NN = b.nx.length := ⟨_, rfl⟩
    obtain ⟨N, hN⟩ : ∃ N, N = b.nx.map nI := ⟨_, rfl⟩
    obtain ⟨O, hO⟩ : ∃ O, O = b.ou.map nI := ⟨_, rfl⟩
    have HNo : Hid (b.nx.map nI = N ∧ b.ou.map nI = O ∧ b.nx.length = NN ∧ b.ou.length = NN) := hid0 ⟨hN.symm, hO.symm, hNN.symm, v2.trans hNN.symm⟩
    have hNN1 : 1 ≤ NN := by omega
    have hNN2 : NN ≤ 16384 := by omega
    have HLs : Hid (N.length = NN ∧ O.length = NN ∧ (∀ r ∈ N, r.length ≤ 1000000000) ∧ (∀ r ∈ O, r.length ≤ 1000000000)) := hid0 ⟨by rw [hN, List.length_map, hNN], by rw [hO, List.length_map, v2, hNN], fun r hr => by
        rw [hN] at hr
        obtain ⟨l, hl, rfl⟩ := List.mem_map.1 hr
        have := (v1 l hl).1
        rw [nI_len]
        omega, fun r hr => by
        rw [hO] at hr
        obtain ⟨l, hl, rfl⟩ := List.mem_map.1 hr
        have := (v6 l hl).len
        have := hB.len
        rw [nI_len]
        omega⟩
    have hq2 : bldF rs sy (NN : Int) = .ok b := by
      rw [bldF_of hv (by omega) (by omega), mAll_most hv.all (by omega)]
    have hq3 : bldF rs sy 16384 = .ok b := by
      rw [bldF_of hv (by omega) (by omega), mAll_most hv.all (by omega)]
    have hq4 : (NN = 1 → bldF rs sy ((NN : Int) - 1) = .error 0) ∧ (NN ≠ 1 → bldF rs sy ((NN : Int) - 1) = .error 2) := by
      refine ⟨fun e => ?_, fun e => ?_⟩
      · unfold bldF
        rw [if_pos (by omega)]
      · rw [bldF_of hv (by omega) (by omega), mAll_less hv.all (by omega)]
    have HB1 : Hid (∀ V, Below w0.heap.size w0 V → Calls Tryd.prog 9 #[.slice aP rn cP, .int .i64 sy, .int .i64 most] V fun e w' => ∃ aN aO cN cO, e = .returned (.tuple #[.agg #[.int .i64 0, .slice aN NN cN, .slice aO NN cO], .nilIface]) ∧ Hid (RwA w' aN N ∧ RwA w' aO O ∧ Below V.heap.size V w')) := hid0 (fun V hV => by
      have h := build_ok (c := cP) hq (HX.out V hV).2.1 (HX.out V hV).2.2 hs63 hs64 hm63 hm64 hB
      rw [HNo.out.1, HNo.out.2.1, HNo.out.2.2.1, HNo.out.2.2.2, ← hrn] at h
      exact h)
    have HB2 : Hid (∀ V, Below w0.heap.size w0 V → Calls Tryd.prog 9 #[.slice aP rn cP, .int .i64 sy, .int .i64 (NN : Int)] V fun e w' => ∃ aN aO cN cO, e = .returned (.tuple #[.agg #[.int .i64 0, .slice aN NN cN, .slice aO NN cO], .nilIface]) ∧ Hid (RwA w' aN N ∧ RwA w' aO O ∧ Below V.heap.size V w')) := hid0 (fun V hV => by
      have h := build_ok (c := cP) hq2 (HX.out V hV).2.1 (HX.out V hV).2.2 hs63 hs64 (by omega) (by omega) hB
      rw [HNo.out.1, HNo.out.2.1, HNo.out.2.2.1, HNo.out.2.2.2, ← hrn] at h
      exact h)
    have HB3 : Hid (∀ V, Below w0.heap.size w0 V → Calls Tryd.prog 9 #[.slice aP rn cP, .int .i64 sy, .int .i64 16384] V fun e w' => ∃ aN aO cN cO, e = .returned (.tuple #[.agg #[.int .i64 0, .slice aN NN cN, .slice aO NN cO], .nilIface]) ∧ Hid (RwA w' aN N ∧ RwA w' aO O ∧ Below V.heap.size V w')) := hid0 (fun V hV => by
      have h := build_ok (c := cP) hq3 (HX.out V hV).2.1 (HX.out V hV).2.2 hs63 hs64 (by decide) (by decide) hB
      rw [HNo.out.1, HNo.out.2.1, HNo.out.2.2.1, HNo.out.2.2.2, ← hrn] at h
      exact h)
    obtain ⟨i, hi⟩ : ∃ i, bldF rs sy ((NN : Int) - 1) = .error i ∧ ((NN = 1 ∧ i = 0) ∨ (NN ≠ 1 ∧ i = 2)) := by
      by_cases e : NN = 1
      · exact ⟨0, hq4.1 e, .inl ⟨e, rfl⟩⟩
      · exact ⟨2, hq4.2 e, .inr ⟨e, rfl⟩⟩
    have HB4 : Hid (∀ V, Below w0.heap.size w0 V → Calls Tryd.prog 9 #[.slice aP rn cP, .int .i64 sy, .int .i64 ((NN : Int) - 1)] V fun e w' => e = .returned (.tuple #[.agg #[.int .i64 0, .slice none 0 0, .slice none 0 0], .iface 157 (.pointer (some (A i)))]) ∧ Hid (Below V.heap.size V w')) := hid0 (fun V hV => by
      have h := build_err (c := cP) hi.1 (HX.out V hV).2.1 (HX.out V hV).2.2 hs63 hs64 (by omega) (by omega) hB
      rw [← hrn] at h
      exact h)
    have HI := hid0 hi.2
    have HR := hid0 hrn
    clear hq hq2 hq3 hq4 hi hv v1 v2 v3 v4 v5 v6 hNN hN hO hrn hB HNo
    have hwr : IntKind.i64.wrap ((NN : Int) - 1) = (NN : Int) - 1 := by simp [IntKind.wrap, IntKind.bits, IntKind.signed]; omega
    go_enter Tryd.func4, Tryd.ntmps4
    go_upto_region 4 with (first
      | (go_at_call 8; go_loud ((refine HBe.out.mono ?_; rintro e w1 ⟨rfl, H1⟩; obtain ⟨⟨x0, x1, x2⟩, _⟩ := HX.out w1 H1.out)))
      | (go_at_call 9; go_loud ((refine (HB1.out w1 H1.out).mono ?_; rintro e w2 ⟨aN1, aO1, cN1, cO1, rfl, H2⟩))))
    obtain ⟨w3, hw3⟩ : ∃ w3, w3 = w2.alloc (.cells #[.int .i64 0, .slice aN1 NN cN1, .slice aO1 NN cO1] 28) := ⟨_, rfl⟩
    rw [← hw3]
    obtain ⟨M1, hM1⟩ : ∃ M1, M1 = w2.heap.size := ⟨_, rfl⟩
    rw [← hM1]
    have hrw3 : w3.heap[M1]? = some (.cells #[.int .i64 0, .slice aN1 NN cN1, .slice aO1 NN cO1] 28 (0, 0)) := by rw [hw3, hM1]; exact heap_alloc_new w2 _
    have hbw3 : Below w2.heap.size w2 w3 := by rw [hw3]; exact below_alloc1 _ _
    have HR1 : Hid (∀ V, Below w3.heap.size w3 V → V.heap[M1]? = some (.cells #[.int .i64 0, .slice aN1 NN cN1, .slice aO1 NN cO1] 28 (0, 0))) := hid0 (fun V hV => (hV.block _ (Array.getElem?_eq_some_iff.1 hrw3).1).trans hrw3)
    have HA1 : Hid (∀ V, Below w3.heap.size w3 V → RwA V aN1 N ∧ RwA V aO1 O ∧ Below w0.heap.size w0 V) := hid0 (fun V hV => ⟨(H2.out.1.past hbw3).past hV, (H2.out.2.1.past hbw3).past hV, Below.later H1.out (Below.later H2.out.2.2 (Below.later hbw3 hV))⟩)
    obtain ⟨m0, m1, m2⟩ := row3c hrw3
    obtain ⟨⟨y0, y1, y2⟩, _⟩ := HX.out w3 (HA1.out w3 (Below.refl _ _)).2.2
    clear hw3 hM1 hrw3 hbw3 x0 x1 x2 H1 H2 HB1 HBe
    go_upto_region 8 with (go_at_call 9; go_loud ((refine (HB2.out w3 (HA1.out w3 (Below.refl _ _)).2.2).mono ?_; rintro e w4 ⟨aN2, aO2, cN2, cO2, rfl, H4⟩)))
    clear m0 m1 m2 y0 y1 y2
    obtain ⟨w5, hw5⟩ : ∃ w5, w5 = w4.alloc (.cells #[.int .i64 0, .slice aN2 NN cN2, .slice aO2 NN cO2] 28) := ⟨_, rfl⟩
    rw [← hw5]
    obtain ⟨M2, hM2⟩ : ∃ M2, M2 = w4.heap.size := ⟨_, rfl⟩
    rw [← hM2]
    have hrw5 : w5.heap[M2]? = some (.cells #[.int .i64 0, .slice aN2 NN cN2, .slice aO2 NN cO2] 28 (0, 0)) := by rw [hw5, hM2]; exact heap_alloc_new w4 _
    have hbw5 : Below w4.heap.size w4 w5 := by rw [hw5]; exact below_alloc1 _ _
    have HR2 : Hid (∀ V, Below w5.heap.size w5 V → V.heap[M2]? = some (.cells #[.int .i64 0, .slice aN2 NN cN2, .slice aO2 NN cO2] 28 (0, 0))) := hid0 (fun V hV => (hV.block _ (Array.getElem?_eq_some_iff.1 hrw5).1).trans hrw5)
    have HA2 : Hid (∀ V, Below w5.heap.size w5 V → RwA V aN2 N ∧ RwA V aO2 O ∧ Below w3.heap.size w3 V) := hid0 (fun V hV => ⟨(H4.out.1.past hbw5).past hV, (H4.out.2.1.past hbw5).past hV, Below.later H4.out.2.2 (Below.later hbw5 hV)⟩)
    obtain ⟨⟨y0, y1, y2⟩, _⟩ := HX.out w5 (HA1.out w5 (HA2.out w5 (Below.refl _ _)).2.2).2.2
    clear hw5 hM2 hrw5 hbw5 H4 HB2
    go_upto_region 9 with (go_at_call 9; go_loud ((refine (HB3.out w5 (HA1.out w5 (HA2.out w5 (Below.refl _ _)).2.2).2.2).mono ?_; rintro e w6 ⟨aN3, aO3, cN3, cO3, rfl, H6⟩)))
    clear y0 y1 y2
    obtain ⟨w7, hw7⟩ : ∃ w7, w7 = w6.alloc (.cells #[.int .i64 0, .slice aN3 NN cN3, .slice aO3 NN cO3] 28) := ⟨_, rfl⟩
    rw [← hw7]
    obtain ⟨M3, hM3⟩ : ∃ M3, M3 = w6.heap.size := ⟨_, rfl⟩
    rw [← hM3]
    have hrw7 : w7.heap[M3]? = some (.cells #[.int .i64 0, .slice aN3 NN cN3, .slice aO3 NN cO3] 28 (0, 0)) := by rw [hw7, hM3]; exact heap_alloc_new w6 _
    have hbw7 : Below w6.heap.size w6 w7 := by rw [hw7]; exact below_alloc1 _ _
    have HR3 : Hid (∀ V, Below w7.heap.size w7 V → V.heap[M3]? = some (.cells #[.int .i64 0, .slice aN3 NN cN3, .slice aO3 NN cO3] 28 (0, 0))) := hid0 (fun V hV => (hV.block _ (Array.getElem?_eq_some_iff.1 hrw7).1).trans hrw7)
    have HA3 : Hid (∀ V, Below w7.heap.size w7 V → RwA V aN3 N ∧ RwA V aO3 O ∧ Below w5.heap.size w5 V) := hid0 (fun V hV => ⟨(H6.out.1.past hbw7).past hV, (H6.out.2.1.past hbw7).past hV, Below.later H6.out.2.2 (Below.later hbw7 hV)⟩)
    have HW7 := HA1.out w7 (HA2.out w7 (HA3.out w7 (Below.refl _ _)).2.2).2.2
    obtain ⟨⟨y0, y1, y2⟩, _⟩ := HX.out w7 HW7.2.2
    have HV7 := hid0 HW7.2.2
    clear hw7 hM3 hrw7 hbw7 H6 HB3 HW7
    go_upto_region 10 with (go_at_call 9; go_loud ((refine (HB4.out w7 HV7.out).mono ?_; rintro e w8 ⟨rfl, H8⟩)))
    clear y0 y1 y2
    obtain ⟨w9, hw9⟩ : ∃ w9, w9 = w8.alloc (.cells #[.int .i64 0, .slice none 0 0, .slice none 0 0] 28) := ⟨_, rfl⟩
    rw [← hw9]
    obtain ⟨M4, hM4⟩ : ∃ M4, M4 = w8.heap.size := ⟨_, rfl⟩
    rw [← hM4]
    have hrw9 : w9.heap[M4]? = some (.cells #[.int .i64 0, .slice none 0 0, .slice none 0 0] 28 (0, 0)) := by rw [hw9, hM4]; exact heap_alloc_new w8 _
    have hbw9 : Below w8.heap.size w8 w9 := by rw [hw9]; exact below_alloc1 _ _
    have HR4 : Hid (∀ V, Below w9.heap.size w9 V → V.heap[M4]? = some (.cells #[.int .i64 0, .slice none 0 0, .slice none 0 0] 28 (0, 0))) := hid0 (fun V hV => (hV.block _ (Array.getElem?_eq_some_iff.1 hrw9).1).trans hrw9)
    have HAll : Hid (∀ V, Below w9.heap.size w9 V → (RwA V aN1 N ∧ RwA V aO1 O) ∧ (RwA V aN2 N ∧ RwA V aO2 O) ∧ (RwA V aN3 N ∧ RwA V aO3 O) ∧ Below w0.heap.size w0 V ∧ V.heap[M1]? = some (.cells #[.int .i64 0, .slice aN1 NN cN1, .slice aO1 NN cO1] 28 (0, 0)) ∧ V.heap[M2]? = some (.cells #[.int .i64 0, .slice aN2 NN cN2, .slice aO2 NN cO2] 28 (0, 0)) ∧ V.heap[M3]? = some (.cells #[.int .i64 0, .slice aN3 NN cN3, .slice aO3 NN cO3] 28 (0, 0)) ∧ V.heap[M4]? = some (.cells #[.int .i64 0, .slice none 0 0, .slice none 0 0] 28 (0, 0))) := hid0 (fun V hV => by
      have k7 : Below w7.heap.size w7 V := Below.later H8.out (Below.later hbw9 hV)
      have k3 := HA3.out V k7
      have k2 := HA2.out V k3.2.2
      have k1 := HA1.out V k2.2.2
      exact ⟨⟨k1.1, k1.2.1⟩, ⟨k2.1, k2.2.1⟩, ⟨k3.1, k3.2.1⟩, k1.2.2, HR1.out V k2.2.2, HR2.out V k3.2.2, HR3.out V k7, HR4.out V hV⟩)
    have HSm : Hid (∀ (V : World) (a b a' b' : Option Addr) (c d c' d' : Nat), RwA V a N → RwA V b O → RwA V a' N → RwA V b' O → Calls Tryd.prog 11 #[.agg #[.int .i64 0, .slice a NN c, .slice b NN d], .agg #[.int .i64 0, .slice a' NN c', .slice b' NN d']] V fun e w' => e = .returned (.bool true) ∧ Below V.heap.size V w') := hid0 (fun V a b a' b' c d c' d' h1 h2 h3 h4 => by
      have h := sameMachine 0 N O a b a' b' c d c' d' V (by rw [HLs.out.1]; omega) HLs.out.2.2.1 (by rw [HLs.out.2.1]; omega) HLs.out.2.2.2 h1 h2 h3 h4
      rw [HLs.out.1, HLs.out.2.1] at h
      exact h)
    obtain ⟨_, _, _, _, b1, b2, b3, b4⟩ := HAll.out w9 (Below.refl _ _)
    obtain ⟨p0, p1, p2⟩ := row3c b1
    obtain ⟨q0, q1, q2⟩ := row3c b2
    obtain ⟨s0, s1, s2⟩ := row3c b4
    have E9 := (HX.out w9 (HAll.out w9 (Below.refl _ _)).2.2.2.1).2.2
    have e0 := E9.t.sen.c0
    have e2 := E9.t.sen.c2
    have HS1 : Hid (Calls Tryd.prog 11 #[.agg #[.int .i64 0, .slice aN2 NN cN2, .slice aO2 NN cO2], .agg #[.int .i64 0, .slice aN1 NN cN1, .slice aO1 NN cO1]] w9 fun e w' => e = .returned (.bool true) ∧ Hid (Below w9.heap.size w9 w')) := hid0 (by
      have k := HAll.out w9 (Below.refl _ _)
      exact (HSm.out w9 aN2 aO2 aN1 aO1 cN2 cO2 cN1 cO1 k.2.1.1 k.2.1.2 k.1.1 k.1.2).mono (fun e w' q => ⟨q.1, hid0 q.2⟩))
    have HS2 : Hid (∀ V, Below w9.heap.size w9 V → Calls Tryd.prog 11 #[.agg #[.int .i64 0, .slice aN3 NN cN3, .slice aO3 NN cO3], .agg #[.int .i64 0, .slice aN1 NN cN1, .slice aO1 NN cO1]] V fun e w' => e = .returned (.bool true) ∧ Hid (Below w9.heap.size w9 w')) := hid0 (fun V hV => by
      have k := HAll.out V hV
      exact (HSm.out V aN3 aO3 aN1 aO1 cN3 cO3 cN1 cO1 k.2.2.1.1 k.2.2.1.2 k.1.1 k.1.2).mono (fun e w' q => ⟨q.1, hid0 (Below.later hV q.2)⟩))
    have heq := eq_same w9
    have heq02 := E9.eq02
    clear hw9 hM4 hrw9 hbw9 H8 HB4 b1 b2 b3 b4 E9 HR1 HR2 HR3 HR4 HSm HA1 HA2 HA3 HV7
    rcases HI.out with ⟨hn, rfl⟩ | ⟨hn, rfl⟩
    · have hn1 : ((NN : Int) == 1) = true := by simp; omega
      have hn2 : (NN : Int) = 1 := by omega
      have HN := hid0 hn
      clear hn
      go_wp2_with (first
        | (go_at_call 11; have hq := HQ.out; go_loud ((refine (HS2.out w10 H10.out).mono ?_; rintro e w11 ⟨rfl, H11⟩; clear hq HQ)))
        | (go_at_call 11; go_loud ((refine HS1.out.mono ?_; rintro e w10 ⟨rfl, H10⟩; have HQ : Hid True := hid0 trivial; clear HS1; clear p0 p1 p2 q0 q1 q2 s0 s1 s2; obtain ⟨_, _, _, _, b1, b2, b3, b4⟩ := HAll.out w10 H10.out; obtain ⟨p0, p1, p2⟩ := row3c b1; obtain ⟨q0, q1, q2⟩ := row3c b3; clear b1 b2 b3 b4)))
        | fail)
      go_ret
      exact ⟨rfl, Below.later HB0.out (HAll.out w11 H11.out).2.2.2.1⟩
    · clear heq02 hn
      go_wp2_with (first
        | (go_at_call 11; have hq := HQ.out; go_loud ((refine (HS2.out w10 H10.out).mono ?_; rintro e w11 ⟨rfl, H11⟩; clear hq HQ)))
        | (go_at_call 11; go_loud ((refine HS1.out.mono ?_; rintro e w10 ⟨rfl, H10⟩; have HQ : Hid True := hid0 trivial; clear HS1; clear p0 p1 p2 q0 q1 q2 s0 s1 s2; obtain ⟨_, _, _, _, b1, b2, b3, b4⟩ := HAll.out w10 H10.out; obtain ⟨p0, p1, p2⟩ := row3c b1; obtain ⟨q0, q1, q2⟩ := row3c b3; clear b1 b2 b3 b4)))
        | fail)
      go_ret
      exact ⟨rfl, Below.later HB0.out (HAll.out w11 H11.out).2.2.2.1⟩
end Go.Proofs.YtleeedjpccooaaaDoor
namespace Go.Proofs.YtleeedjpccooaaaDoor
open Go.RowKit Go.Shelf
theorem metR_pre : ∀ (r l : List Nat) (t x : Nat), metR t (l ++ r) = some x → ∃ T, metR t l = some T ∧ T ≤ x
  | [], l, t, x, h => by rw [List.append_nil] at h; exact ⟨x, h, Nat.le_refl _⟩
  | y :: r, l, t, x, h => by
    have e : l ++ y :: r = (l ++ [y]) ++ r := by simp
    rw [e] at h
    obtain ⟨T, h1, h2⟩ := metR_pre r (l ++ [y]) t x h
    rw [metR_snoc] at h1
    cases hq : metR t l with
    | none => rw [hq] at h1; cases h1
    | some T0 =>
      rw [hq, Option.bind_some] at h1
      split at h1
      · cases h1
      · injection h1 with h1
        exact ⟨T0, rfl, by omega⟩
theorem metR_at {t x : Nat} {l : List Nat} (h : metR t l = some x) {c : Nat} (hc : c < l.length) {T : Nat} (hT : metR t (l.take c) = some T) : ¬ T + 1 < l[c] ∧ metR t (l.take (c + 1)) = some (max T l[c]) ∧ max T l[c] ≤ x := by
  have e : l.take (c + 1) = l.take c ++ [l[c]] := (List.take_append_getElem hc).symm
  have h' : metR t (l.take (c + 1) ++ l.drop (c + 1)) = some x := by rw [List.take_append_drop]; exact h
  obtain ⟨T', h1, h2⟩ := metR_pre _ _ _ _ h'
  rw [e, metR_snoc, hT, Option.bind_some] at h1
  split at h1
  · cases h1
  · rename_i hn
    injection h1 with h1
    refine ⟨hn, ?_, by omega⟩
    rw [e, metR_snoc, hT, Option.bind_some, if_neg hn]
theorem metA_pre : ∀ (r l : List (List Nat)) (x : Nat), metA (l ++ r) = some x → ∃ T, metA l = some T ∧ T ≤ x
  | [], l, x, h => by rw [List.append_nil] at h; exact ⟨x, h, Nat.le_refl _⟩
  | y :: r, l, x, h => by
    have e : l ++ y :: r = (l ++ [y]) ++ r := by simp
    rw [e] at h
    obtain ⟨T, h1, h2⟩ := metA_pre r (l ++ [y]) x h
    rw [metA_snoc] at h1
    cases hq : metA l with
    | none => rw [hq] at h1; cases h1
    | some T0 =>
      rw [hq, Option.bind_some] at h1
      split at h1
      · cases h1
      · obtain ⟨T1, k1, k2⟩ := metR_pre y [] T0 T (by simpa using h1)
        have : T1 = T0 := by simpa [metR] using k1.symm
        exact ⟨T0, rfl, by omega⟩
theorem metA_at {x : Nat} {l : List (List Nat)} (h : metA l = some x) {k : Nat} (hk : k < l.length) {T : Nat} (hT : metA (l.take k) = some T) : ¬ T < k ∧ ∃ T', metR T l[k] = some T' ∧ metA (l.take (k + 1)) = some T' ∧ T' ≤ x := by
  have e : l.take (k + 1) = l.take k ++ [l[k]] := (List.take_append_getElem hk).symm
  have h' : metA (l.take (k + 1) ++ l.drop (k + 1)) = some x := by rw [List.take_append_drop]; exact h
  obtain ⟨T', h1, h2⟩ := metA_pre _ _ _ h'
  have h3 := h1
  have hl : (l.take k).length = k := by rw [List.length_take]; omega
  rw [e, metA_snoc, hT, Option.bind_some, hl] at h1
  split at h1
  · cases h1
  · rename_i hn
    exact ⟨hn, T', h1, h3, h2⟩
theorem nI_at {l : List Nat} {c : Nat} (hc : c < l.length) : (nI l)[c]'(by rw [nI_len]; exact hc) = ((l[c] : Nat) : Int) := by
  unfold nI
  rw [List.getElem_map]
/-- Check takes what Build has made. -/
theorem BldV.chkF {rs : List Pr} {sy most : Int} {b : Bs} (h : BldV rs sy most b) : chkF 0 (b.nx.map nI) (b.ou.map nI) sy (rs.length : Int) = true := by
  obtain ⟨v1, v2, v3, v4, v5, v6⟩ := h.val
  have h1 := h.s1
  have h2 := h.s2
  have h3 := h.m2
  unfold Go.Proofs.YtleeedjpccooaaaDoor.chkF
  rw [List.length_map, List.length_map, Bool.and_eq_true, Bool.and_eq_true]
  refine ⟨⟨?_, ?_⟩, ?_⟩
  · rw [decide_eq_true_eq]
    exact ⟨h1, h2, by omega, v3, by omega, v2, v5⟩
  · rw [oneOf_iff]; omega
  · rw [List.all_eq_true]
    intro j hj
    have hj' := List.mem_range.1 hj
    have hj2 : j < b.ou.length := by rw [v2]; exact hj'
    have e1 : (b.nx.map nI).getD j [] = nI b.nx[j] := by rw [List.getD_eq_getElem?_getD, List.getElem?_map, List.getElem?_eq_getElem hj']; rfl
    have e2 : (b.ou.map nI).getD j [] = nI b.ou[j] := by rw [List.getD_eq_getElem?_getD, List.getElem?_map, List.getElem?_eq_getElem hj2]; rfl
    rw [e1, e2]
    obtain ⟨q1, q2⟩ := v1 _ (List.getElem_mem hj')
    unfold rowF
    rw [Bool.and_eq_true, Bool.and_eq_true]
    refine ⟨⟨?_, ?_⟩, (v6 _ (List.getElem_mem hj2)).rise⟩
    · rw [decide_eq_true_eq, nI_len]; exact q1
    · rw [List.all_eq_true]
      intro z hz
      unfold nI at hz
      obtain ⟨x, hx, rfl⟩ := List.mem_map.1 hz
      rw [oneOf_iff]
      have := q2 x hx
      omega
end Go.Proofs.YtleeedjpccooaaaDoor
namespace Go.Proofs.YtleeedjpccooaaaDoor
open Go.RowKit Go.Shelf
set_option maxRecDepth 10000 in
set_option maxHeartbeats 800000 in
theorem machineMeets_any (A : Nat → Addr) (rs : List Pr) (sy most : Int) (aP : Option Addr) (cP : Nat) (w : World) (hj : JobI w A aP rs sy most) :
    Calls Tryd.prog 3 #[.agg #[.slice aP rs.length cP, .int .i64 sy, .int .i64 most]] w fun e w' => e = .returned (.bool true) ∧ Below w.heap.size w w' := by
  obtain ⟨hp, he, hB, hs63, hs64, hm63, hm64⟩ := hj
  obtain ⟨rn, hrn⟩ : ∃ rn, rn = rs.length := ⟨_, rfl⟩
  obtain ⟨w0, hw0⟩ : ∃ w0, w0 = w.alloc (.cells #[.slice aP rs.length cP, .int .i64 sy, .int .i64 most] 24) := ⟨_, rfl⟩
  have hb0 : Below w.heap.size w w0 := by rw [hw0]; exact below_alloc1 _ _
  have hr0 : w0.heap[w.heap.size]? = some (.cells #[.slice aP rs.length cP, .int .i64 sy, .int .i64 most] 24 (0, 0)) := by rw [hw0]; exact heap_alloc_new w _
  have HX : Hid (∀ V, Below w0.heap.size w0 V → (V.cell? ⟨w.heap.size, 0, none⟩ = some (.slice aP rn cP) ∧ V.cell? ⟨w.heap.size, 1, none⟩ = some (.int .i64 sy) ∧ V.cell? ⟨w.heap.size, 2, none⟩ = some (.int .i64 most)) ∧ PaI V aP rs ∧ EnvM V A) := hid0 (fun V hV => by
    have hc := row3c ((hV.block _ (Array.getElem?_eq_some_iff.1 hr0).1).trans hr0)
    rw [← hrn] at hc
    exact ⟨hc, hp.past (Below.later hb0 hV), he.past (Below.later hb0 hV)⟩)
  have HBe : Hid (Calls Tryd.prog 8 #[] w0 fun e w' => e = .returned (.bool true) ∧ Hid (Below w0.heap.size w0 w')) := hid0 (begun_any A w0 (he.past hb0))
  have HB0 := hid0 hb0
  have hfold := hw0.symm
  rw [← hrn] at hfold ⊢
  clear hp he hb0 hr0 hw0
  cases hq : bldF rs sy most with
  | error i =>
    have hno := bldF_no hq
    have HBu : Hid (∀ V, Below w0.heap.size w0 V → Calls Tryd.prog 9 #[.slice aP rn cP, .int .i64 sy, .int .i64 most] V fun e w' => e = .returned (.tuple #[.agg #[.int .i64 0, .slice none 0 0, .slice none 0 0], .iface 157 (.pointer (some (A i)))]) ∧ Hid (Below V.heap.size V w')) := hid0 (fun V hV => by
      have h := build_err (c := cP) hq (HX.out V hV).2.1 (HX.out V hV).2.2 hs63 hs64 hm63 hm64 hB
      rw [← hrn] at h
      exact h)
    have HR := hid0 hrn
    clear hq hrn hB
    rcases hno with rfl | rfl
    all_goals
      go_enter Tryd.func3, Tryd.ntmps3
      go_upto_region 4 with (first
        | (go_at_call 8; go_loud ((refine HBe.out.mono ?_; rintro e w1 ⟨rfl, H1⟩; obtain ⟨⟨x0, x1, x2⟩, _⟩ := HX.out w1 H1.out)))
        | (go_at_call 9; go_loud ((refine (HBu.out w1 H1.out).mono ?_; rintro e w2 ⟨rfl, H2⟩))))
      obtain ⟨w3, h3⟩ : ∃ w3, w3 = w2.alloc (.cells #[.int .i64 0, .slice none 0 0, .slice none 0 0] 28) := ⟨_, rfl⟩
      rw [← h3]
      have hr3 : w3.heap[w2.heap.size]? = some (.cells #[.int .i64 0, .slice none 0 0, .slice none 0 0] 28 (0, 0)) := by rw [h3]; exact heap_alloc_new w2 _
      obtain ⟨m0, m1, m2⟩ := row3c hr3
      have hb3 : Below w0.heap.size w0 w3 := by rw [h3]; exact Below.later H1.out (Below.later H2.out (below_alloc1 _ _))
      have E3 := (HX.out w3 hb3).2.2
      have e0 := E3.t.sen.c0
      have e2 := E3.t.sen.c2
      have heq := eq_same w3
      have heq2 := E3.eq20
      have HF : Hid (Below w.heap.size w w3) := hid0 (Below.later HB0.out hb3)
      clear h3 hr3 x0 x1 x2 E3 hb3
      go_wp2
      go_ret
      exact ⟨rfl, HF.out⟩
  | ok b =>
    have hv := bldF_ok hq
    obtain ⟨v1, v2, v3, v4, v5, v6⟩ := hv.val
    have hm2 := hv.m2
    have hs2 := hv.s2
    obtain ⟨NN, hNN⟩ : ∃ NN, NN = b.nx.length := ⟨_, rfl⟩
    have HMet : Hid (metA b.nx = some (NN - 1)) := hid0 (by rw [hNN]; exact mAll_met hv.all)
    have HVal : Hid (b.nx.length = NN ∧ ∀ l ∈ b.nx, l.length ≤ 16384 ∧ ∀ x ∈ l, x < NN) := hid0 ⟨hNN.symm, fun l hl => ⟨by have := (v1 l hl).1; omega, fun x hx => by rw [hNN]; exact (v1 l hl).2 x hx⟩⟩
    have hNN1 : 1 ≤ NN := by omega
    have hNN2 : NN ≤ 16384 := by omega
    have hNm : ¬ (NN : Int) > most := by omega
    have HB1 : Hid (∀ V, Below w0.heap.size w0 V → Calls Tryd.prog 9 #[.slice aP rn cP, .int .i64 sy, .int .i64 most] V fun e w' => ∃ aN aO cN cO, e = .returned (.tuple #[.agg #[.int .i64 0, .slice aN NN cN, .slice aO NN cO], .nilIface]) ∧ Hid (RwA w' aN (b.nx.map nI) ∧ RwA w' aO (b.ou.map nI) ∧ Below V.heap.size V w')) := hid0 (fun V hV => by
      have h := build_ok (c := cP) hq (HX.out V hV).2.1 (HX.out V hV).2.2 hs63 hs64 hm63 hm64 hB
      rw [v2, ← hNN, ← hrn] at h
      exact h)
    have HCk : Hid (∀ (V : World) (aN aO : Option Addr) (cN cO : Nat), Below w0.heap.size w0 V → RwA V aN (b.nx.map nI) → RwA V aO (b.ou.map nI) → Calls Tryd.prog 10 #[.agg #[.int .i64 0, .slice aN NN cN, .slice aO NN cO], .int .i64 sy, .int .i64 (rn : Int)] V fun e w' => e = .returned .nilIface ∧ Hid (Below V.heap.size V w')) := hid0 (fun V aN aO cN cO hV h1 h2 => by
      have hlen := hB.len
      have h := mcheck_two A 0 sy (rs.length : Int) (b.nx.map nI) (b.ou.map nI) aN aO cN cO V (by rw [List.length_map]; omega) (fun r hr => by
        obtain ⟨l, hl, rfl⟩ := List.mem_map.1 hr
        have := (v1 l hl).1
        rw [nI_len]
        omega) (fun r hr => by
        obtain ⟨l, hl, rfl⟩ := List.mem_map.1 hr
        have := (v6 l hl).len
        rw [nI_len]
        omega) (by omega) h1 h2 (HX.out V hV).2.2.t.sen
      rw [hv.chkF, List.length_map, List.length_map, v2, ← hNN, ← hrn] at h
      exact h.mono (fun e w' q => ⟨q.1, hid0 q.2⟩))
    have HR := hid0 hrn
    clear hq hv v1 v2 v3 v4 v5 v6 hNN hrn hB
    have hwr : IntKind.i64.wrap ((NN : Int) - 1) = (NN : Int) - 1 := by simp [IntKind.wrap, IntKind.bits, IntKind.signed]; omega
    go_enter Tryd.func3, Tryd.ntmps3
    go_upto_region 4 with (first
      | (go_at_call 8; go_loud ((refine HBe.out.mono ?_; rintro e w1 ⟨rfl, H1⟩; obtain ⟨⟨x0, x1, x2⟩, _⟩ := HX.out w1 H1.out)))
      | (go_at_call 9; go_loud ((refine (HB1.out w1 H1.out).mono ?_; rintro e w2 ⟨aN, aO, cN, cO, rfl, H2⟩))))
    obtain ⟨w3, hw3⟩ : ∃ w3, w3 = w2.alloc (.cells #[.int .i64 0, .slice aN NN cN, .slice aO NN cO] 28) := ⟨_, rfl⟩
    rw [← hw3]
    obtain ⟨M, hM⟩ : ∃ M, M = w2.heap.size := ⟨_, rfl⟩
    rw [← hM]
    have hr3 : w3.heap[M]? = some (.cells #[.int .i64 0, .slice aN NN cN, .slice aO NN cO] 28 (0, 0)) := by rw [hw3, hM]; exact heap_alloc_new w2 _
    have hb3 : Below w2.heap.size w2 w3 := by rw [hw3]; exact below_alloc1 _ _
    have HA1 : Hid (∀ V, Below w3.heap.size w3 V → RwA V aN (b.nx.map nI) ∧ Below w0.heap.size w0 V ∧ V.heap[M]? = some (.cells #[.int .i64 0, .slice aN NN cN, .slice aO NN cO] 28 (0, 0))) := hid0 (fun V hV => ⟨(H2.out.1.past hb3).past hV, Below.later H1.out (Below.later H2.out.2.2 (Below.later hb3 hV)), (hV.block _ (Array.getElem?_eq_some_iff.1 hr3).1).trans hr3⟩)
    have HCk3 : Hid (Calls Tryd.prog 10 #[.agg #[.int .i64 0, .slice aN NN cN, .slice aO NN cO], .int .i64 sy, .int .i64 (rn : Int)] w3 fun e w' => e = .returned .nilIface ∧ Hid (Below w3.heap.size w3 w')) := hid0 (HCk.out w3 aN aO cN cO (HA1.out w3 (Below.refl _ _)).2.1 (H2.out.1.past hb3) (H2.out.2.1.past hb3))
    obtain ⟨m0, m1, m2⟩ := row3c hr3
    obtain ⟨⟨y0, y1, y2⟩, _⟩ := HX.out w3 (HA1.out w3 (Below.refl _ _)).2.1
    clear hw3 hM hr3 hb3 x0 x1 x2 H1 H2 HB1 HBe HCk
    go_upto_region 8 with (go_at_call 10; go_loud ((refine HCk3.out.mono ?_; rintro e w4 ⟨rfl, H4⟩; clear m0 m1 m2 y0 y1 y2; obtain ⟨m0, m1, m2⟩ := row3c (HA1.out w4 H4.out).2.2; obtain ⟨⟨y0, y1, y2⟩, _⟩ := HX.out w4 (HA1.out w4 H4.out).2.1)))
    have HRw := hid0 (HA1.out w4 H4.out).1
    have HF : Hid (Below w.heap.size w w4) := hid0 (Below.later HB0.out (HA1.out w4 H4.out).2.1)
    clear y0 y1 y2 m0 m2 HA1 HCk3 H4 HX hfold
    go_upto_region 10 with fail
    go_loopw [5, 6] (fun t q wr => ∃ k T : Nat, k ≤ NN ∧ T ≤ NN - 1 ∧ t = .int .i64 (T : Int) ∧ q = .int .i64 (k : Int) ∧ Hid (metA (b.nx.take k) = some T) ∧ wr = w4) (fun _ q _ => NN - (intOf q).toNat)
    case atStart => exact ⟨0, 0, Nat.zero_le _, Nat.zero_le _, rfl, rfl, hid0 rfl, rfl⟩
    case round =>
      obtain ⟨k, T, hk, hT, rfl, rfl, HT, hw⟩ := hrel
      subst hw
      by_cases hlt : k < NN
      · have hlt' : k < b.nx.length := by rw [HVal.out.1]; exact hlt
        obtain ⟨hTk, T2, g1, g2, g3⟩ := metA_at HMet.out hlt' HT.out
        obtain ⟨row, hrow⟩ : ∃ row, row = b.nx[k] := ⟨_, rfl⟩
        rw [← hrow] at g1
        obtain ⟨b1, o1, rfl, _, a1, c1, d1, i1⟩ := HRw.out.at' k (by rw [List.length_map]; exact hlt')
        rw [List.getElem_map, nI_len, ← hrow] at d1
        rw [List.getElem_map, ← hrow] at i1
        have hrl : row.length ≤ 16384 := by rw [hrow]; exact (HVal.out.2 _ (List.getElem_mem hlt')).1
        have HRl : Hid (∀ x ∈ row, x < NN) := hid0 (by rw [hrow]; exact (HVal.out.2 _ (List.getElem_mem hlt')).2)
        obtain ⟨rl, hrl2⟩ : ∃ rl, rl = row.length := ⟨_, rfl⟩
        rw [← hrl2] at d1 hrl
        have HI := hid0 i1
        have HG := hid0 (And.intro g1 (And.intro g2 g3))
        have HRL := hid0 hrl2
        have hkI : (k : Int) < (NN : Int) := by omega
        have hkI0 : (0 : Int) ≤ (k : Int) := by omega
        have hkT : ¬ (k : Int) > (T : Int) := by omega
        clear hrow i1 g1 g2 g3 hlt' hrl2 hTk
        go_upto_region 15 with fail
        go_loopw [5, 7] (fun t q wr' => ∃ c U : Nat, c ≤ rl ∧ U ≤ NN - 1 ∧ t = .int .i64 (U : Int) ∧ q = .int .i64 (c : Int) ∧ Hid (metR T (row.take c) = some U) ∧ wr' = wr) (fun _ q _ => rl - (intOf q).toNat)
        case atStart => exact ⟨0, T, Nat.zero_le _, hT, rfl, rfl, hid0 rfl, rfl⟩
        case round =>
          obtain ⟨c, U, hc, hU, rfl, rfl, HU, hw⟩ := hrel
          subst hw
          by_cases hcl : c < rl
          · have hcl' : c < row.length := by rw [← HRL.out]; exact hcl
            obtain ⟨n1, n2, n3⟩ := metR_at HG.out.1 hcl' HU.out
            obtain ⟨b2, o2, rfl, _, d2⟩ := HI.out.at' c (by rw [nI_len]; exact hcl')
            rw [nI_at hcl'] at d2
            have hxn := HRl.out _ (List.getElem_mem hcl')
            generalize row[c] = x at *
            have hcI : (c : Int) < (rl : Int) := by omega
            have hcI0 : (0 : Int) ≤ (c : Int) := by omega
            have hx1 : ¬ (x : Int) > (U : Int) + 1 := by omega
            have HN2 := hid0 n2
            clear n1 n2 n3 hcl'
            by_cases hxu : U < x
            · have hx2 : (x : Int) > (U : Int) := by omega
              have hmx : max U x = x := by omega
              rw [hmx] at HN2
              clear hmx
              go_wp2
              go_roundw
              case rel => exact ⟨c + 1, x, by omega, by omega, rfl, by go_num, HN2, trivial⟩
              case measure => simp [intOf]; omega
            · have hx2 : ¬ (x : Int) > (U : Int) := by omega
              have hmx : max U x = U := by omega
              rw [hmx] at HN2
              clear hmx
              go_wp2
              go_roundw
              case rel => exact ⟨c + 1, U, by omega, hU, rfl, by go_num, HN2, trivial⟩
              case measure => simp [intOf]; omega
          · have hcI : ¬ (c : Int) < (rl : Int) := by omega
            have HU2 : Hid (metA (b.nx.take (k + 1)) = some U) := hid0 (by
              have e := HU.out
              rw [List.take_of_length_le (by rw [← HRL.out]; omega), HG.out.1] at e
              rw [HG.out.2.1, e])
            go_wp2
            go_roundw
            case rel => exact ⟨k + 1, U, by omega, hU, rfl, by go_num, HU2, trivial⟩
            case measure => simp [intOf]; omega
      · have hkI : ¬ (k : Int) < (NN : Int) := by omega
        have hTe : T = NN - 1 := by
          have e := HT.out
          rw [List.take_of_length_le (by rw [HVal.out.1]; omega), HMet.out] at e
          injection e with e
          exact e.symm
        have hTI : (T : Int) = (NN : Int) - 1 := by omega
        have hTb : ((T : Int) == (NN : Int) - 1) = true := by simp; omega
        clear hTe
        go_wp2
        go_ret
        exact ⟨by simp, HF.out⟩
end Go.Proofs.YtleeedjpccooaaaDoor
