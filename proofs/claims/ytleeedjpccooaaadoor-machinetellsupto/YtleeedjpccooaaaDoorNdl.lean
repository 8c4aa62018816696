/-
  McTW, McJbM, McYM, McZM, PlMM, MeAM, McWM, MeBM, McXM, McWW, PlFaM, PlMpM.
-/
import Derived.Test.YtleeedjpccooaaaDoorNdk
import Derived.Test.YtleeedjpccooaaaDoorNda
import Derived.Test.YtleeedjpccooaaaDoorNdg
import Derived.Maps.OwnSet
import Derived.Maps.OwnOps
namespace Go.Proofs.YtleeedjpccooaaaDoor
open Go.RowKit Go.Shelf
set_option maxRecDepth 10000 in
set_option maxHeartbeats 800000 in
theorem begun_any (A : Nat → Addr) (w : World) (he : EnvM w A) : Calls Tryd.prog 8 #[] w fun e w' => e = .returned (.bool true) ∧ Hid (Below w.heap.size w w') := by
  obtain ⟨w1, w2, w3, w4, w5, w6, w7, h1, h2, h3, h4, h5, h6, h7, hb7, hbox, hpa⟩ := begun_laid w
  obtain ⟨b, hb, hnx, hou, hl1, hl2⟩ := begun_b
  have HE7 : Hid (∀ V, Below w7.heap.size w7 V → EnvM V A) := hid0 (fun V hV => he.past (Below.later hb7 hV))
  have HBu : Hid (Calls Tryd.prog 9 #[.slice (some ⟨w6.heap.size, 0, none⟩) 2 2, .int .i64 2, .int .i64 9] w7 fun e w' => ∃ aN G o a1 a2 a3 cN cO c1 c2 c3, e = .returned (.tuple #[.agg #[.int .i64 0, .slice aN 4 cN, .slice (some ⟨G, o, none⟩) 4 cO], .nilIface]) ∧ Hid (BgM w' aN G o a1 a2 a3 c1 c2 c3 ∧ Below w7.heap.size w7 w')) := hid0 ((build_ok (a := some ⟨w6.heap.size, 0, none⟩) (c := 2) hb hpa (HE7.out w7 (Below.refl _ _)) (by decide) (by decide) (by decide) (by decide) begun_bnd).mono (fun e w' h => by
    obtain ⟨aN, aO, cN, cO, q1, q2⟩ := h
    obtain ⟨r1, r2, r3⟩ := q2.out
    rw [hnx] at r1
    rw [hou] at r2
    rw [hl1, hl2] at q1
    obtain ⟨G, o, a1, a2, a3, c1, c2, c3, rfl, hg⟩ := BgM.of r1 r2
    exact ⟨aN, G, o, a1, a2, a3, cN, cO, c1, c2, c3, q1, hid0 ⟨hg, r3⟩⟩))
  obtain ⟨x0, x1, x2, x3, x4⟩ := row5 hbox
  have hself : w6.setCell ⟨w5.heap.size, 4, none⟩ (.bool false) = w6 := setCell_self hbox rfl
  have hfro : w6.frozen? ⟨w5.heap.size, 4, none⟩ = false := by simp [World.frozen?, hbox]
  have HB7 := hid0 hb7
  have heq := fun V => eq_same V (A 0)
  clear hbox hpa he hb hnx hou hl1 hl2 hb7
  go_enter Tryd.func8, Tryd.ntmps8
  go_upto_region 3 with (go_at_call 9; go_loud ((refine HBu.out.mono ?_; rintro e w8 ⟨aN, G, o, a1, a2, a3, cN, cO, c1, c2, c3, rfl, H8⟩)))
  clear HBu x0 x1 x2 x3 x4 hself hfro
  obtain ⟨w9, h9⟩ : ∃ w9, w9 = w8.alloc (.cells #[.int .i64 0, .slice aN 4 cN, .slice (some ⟨G, o, none⟩) 4 cO] 28) := ⟨_, rfl⟩
  rw [← h9]
  obtain ⟨M, hM⟩ : ∃ M, M = w8.heap.size := ⟨_, rfl⟩
  rw [← hM]
  have hr9 : w9.heap[M]? = some (.cells #[.int .i64 0, .slice aN 4 cN, .slice (some ⟨G, o, none⟩) 4 cO] 28 (0, 0)) := by rw [h9, hM]; exact heap_alloc_new w8 _
  have hb9 : Below w7.heap.size w7 w9 := by rw [h9]; exact Below.later H8.out.2 (below_alloc1 _ _)
  have HBg : Hid (∀ V, Below w9.heap.size w9 V → BgM V aN G o a1 a2 a3 c1 c2 c3 ∧ EnvM V A ∧ V.cell? ⟨M, 0, none⟩ = some (.int .i64 0) ∧ V.cell? ⟨M, 1, none⟩ = some (.slice aN 4 cN) ∧ V.cell? ⟨M, 2, none⟩ = some (.slice (some ⟨G, o, none⟩) 4 cO)) := hid0 (fun V hV => ⟨(H8.out.1.past (by rw [h9]; exact below_alloc1 _ _)).past hV, HE7.out V (Below.later hb9 hV), row3c ((hV.block _ (Array.getElem?_eq_some_iff.1 hr9).1).trans hr9)⟩)
  have HB9 : Hid (Below w.heap.size w w9) := hid0 (Below.later HB7.out hb9)
  have HRu : Hid (Calls Tryd.prog 13 #[.agg #[.int .i64 0, .slice aN 4 cN, .slice (some ⟨G, o, none⟩) 4 cO], .slice (some ⟨w9.heap.size, 0, none⟩) 3 3] (w9.alloc (.cells #[.int .i64 0, .int .i64 1, .int .i64 0] 3)) fun e w' => ∃ R cR, e = .returned (.tuple #[.slice (some ⟨R, 0, none⟩) 4 cR, .nilIface]) ∧ Hid ((∀ k, k < 4 → w'.cell? ⟨R, k, none⟩ = some (.int .i64 (k : Int))) ∧ Below w9.heap.size w9 w')) := hid0 (by
    have hA := below_alloc1 w9 (.cells #[.int .i64 0, .int .i64 1, .int .i64 0] 3)
    obtain ⟨g1, g2, _⟩ := HBg.out _ hA
    have h := mrun_two A 0 gN [0, 1, 0] aN (some ⟨G, o, none⟩) (some ⟨w9.heap.size, 0, none⟩) cN 4 cO 3 (w9.alloc (.cells #[.int .i64 0, .int .i64 1, .int .i64 0] 3)) (by decide) (by decide) g1.rn (ia_blk (L := [0, 1, 0]) (heap_alloc_new w9 _)) g2.t.sen
    rw [gN_run] at h
    refine h.mono (fun e w' h => ?_)
    obtain ⟨v, q1, q2, q3⟩ := h
    obtain ⟨R, cR, rfl, _, _, _⟩ := own_form q2 (by decide)
    refine ⟨R, cR, q1, hid0 ⟨fun k hk => ?_, Below.later hA q3⟩⟩
    have q := World.ownsRow.cellAt q2 k (by simpa using hk)
    rw [q]
    match k, hk with
    | 0, _ => rfl
    | 1, _ => rfl
    | 2, _ => rfl
    | 3, _ => rfl)
  obtain ⟨_, _, m0, m1, m2⟩ := HBg.out w9 (Below.refl _ _)
  clear h1 h2 h3 h4 h5 h6 h7 h9 hM hr9 hb9 H8 HE7
  go_upto_region 6 with (go_at_call 13; go_loud ((refine HRu.out.mono ?_; rintro e w10 ⟨R, cR, rfl, H10⟩)))
  clear HRu m0 m1 m2
  have HXX : Hid (∀ V, Below w10.heap.size w10 V → V.cell? ⟨M, 0, none⟩ = some (.int .i64 0) ∧ V.cell? ⟨M, 1, none⟩ = some (.slice aN 4 cN) ∧ V.cell? ⟨M, 2, none⟩ = some (.slice (some ⟨G, o, none⟩) 4 cO) ∧ V.cell? ⟨0, 0, none⟩ = some (.iface 157 (.pointer (some (A 0)))) ∧ V.cell? ⟨R, 1, none⟩ = some (.int .i64 1) ∧ V.cell? ⟨R, 2, none⟩ = some (.int .i64 2) ∧ V.cell? ⟨R, 3, none⟩ = some (.int .i64 3) ∧ V.cell? ⟨G, o + 1, none⟩ = some (.slice a1 2 c1) ∧ V.cell? ⟨G, o + 2, none⟩ = some (.slice a2 0 c2) ∧ V.cell? ⟨G, o + 3, none⟩ = some (.slice a3 1 c3)) := hid0 (fun V hV => by
    obtain ⟨g1, g2, g3, g4, g5⟩ := HBg.out V (Below.later H10.out.2 hV)
    have tr : ∀ k, k < 4 → V.cell? ⟨R, k, none⟩ = some (.int .i64 (k : Int)) := fun k hk => (hV.cell (p := ⟨R, k, none⟩) (World.block_lt_of_cell? w10 _ (H10.out.1 k hk))).trans (H10.out.1 k hk)
    exact ⟨g3, g4, g5, g2.t.sen.c0, tr 1 (by decide), tr 2 (by decide), tr 3 (by decide), g1.o1, g1.o2, g1.o3⟩)
  have HC2 : Hid (∀ V, Below w10.heap.size w10 V → Calls Tryd.prog 10 #[.agg #[.int .i64 0, .slice aN 4 cN, .slice (some ⟨G, o, none⟩) 4 cO], .int .i64 2, .int .i64 2] V fun e w' => e = .returned .nilIface ∧ Hid (Below w10.heap.size w10 w')) := hid0 (fun V hV => by
    obtain ⟨g1, g2, _⟩ := HBg.out V (Below.later H10.out.2 hV)
    have h := mcheck_two A 0 2 2 gN gO aN (some ⟨G, o, none⟩) cN cO V (by decide) (by decide) (by decide) (by decide) g1.rn g1.ro g2.t.sen
    rw [g_chk2] at h
    exact h.mono (fun e w' q => ⟨q.1, hid0 (Below.later hV q.2)⟩))
  have HC1 : Hid (∀ V, Below w10.heap.size w10 V → Calls Tryd.prog 10 #[.agg #[.int .i64 0, .slice aN 4 cN, .slice (some ⟨G, o, none⟩) 4 cO], .int .i64 2, .int .i64 1] V fun e w' => e = .returned (.iface 157 (.pointer (some (A 0)))) ∧ Hid (Below w10.heap.size w10 w')) := hid0 (fun V hV => by
    obtain ⟨g1, g2, _⟩ := HBg.out V (Below.later H10.out.2 hV)
    have h := mcheck_two A 0 2 1 gN gO aN (some ⟨G, o, none⟩) cN cO V (by decide) (by decide) (by decide) (by decide) g1.rn g1.ro g2.t.sen
    rw [g_chk1] at h
    exact h.mono (fun e w' q => ⟨q.1, hid0 (Below.later hV q.2)⟩))
  have HS2 : Hid (∀ V, Below w10.heap.size w10 V → Calls Tryd.prog 14 #[.slice a1 2 c1, .slice (some ⟨V.heap.size, 0, none⟩) 2 2] (V.alloc (.cells #[.int .i64 0, .int .i64 1] 3)) fun e w' => e = .returned (.bool true) ∧ Hid (Below w10.heap.size w10 w')) := hid0 (fun V hV => by
    have hA := below_alloc1 V (.cells #[.int .i64 0, .int .i64 1] 3)
    obtain ⟨g1, _⟩ := HBg.out _ (Below.later H10.out.2 (Below.later hV hA))
    have h := sameI [0, 1] a1 (some ⟨V.heap.size, 0, none⟩) c1 2 (V.alloc (.cells #[.int .i64 0, .int .i64 1] 3)) (by decide) g1.i1 (ia_blk (L := [0, 1]) (heap_alloc_new V _))
    refine h.mono (fun e w' q => ⟨q.1, hid0 ?_⟩)
    obtain ⟨n, hn⟩ := q.2
    rw [hn]
    exact below_drew' (Below.later hV hA) _)
  have HS1 : Hid (∀ V, Below w10.heap.size w10 V → Calls Tryd.prog 14 #[.slice a3 1 c3, .slice (some ⟨V.heap.size, 0, none⟩) 1 1] (V.alloc (.cells #[.int .i64 0] 3)) fun e w' => e = .returned (.bool true) ∧ Hid (Below w10.heap.size w10 w')) := hid0 (fun V hV => by
    have hA := below_alloc1 V (.cells #[.int .i64 0] 3)
    obtain ⟨g1, _⟩ := HBg.out _ (Below.later H10.out.2 (Below.later hV hA))
    have h := sameI [0] a3 (some ⟨V.heap.size, 0, none⟩) c3 1 (V.alloc (.cells #[.int .i64 0] 3)) (by decide) g1.i3 (ia_blk (L := [0]) (heap_alloc_new V _))
    refine h.mono (fun e w' q => ⟨q.1, hid0 ?_⟩)
    obtain ⟨n, hn⟩ := q.2
    rw [hn]
    exact below_drew' (Below.later hV hA) _)
  have HL := hid0 H10.out.1
  have HB10 : Hid (Below w.heap.size w w10) := hid0 (Below.later HB9.out H10.out.2)
  have HD0 : Hid (Below w10.heap.size w10 w10.drew) := hid0 ⟨rfl, rfl, rfl, Nat.le_refl _, fun _ _ => rfl⟩
  clear HBg H10 HB9 HB7
  go_wp2
  go_loopw [6] (fun q wr => ∃ k : Nat, k ≤ 4 ∧ q = .int .i64 (k : Int) ∧ wr = w10) (fun q _ => 4 - (intOf q).toNat)
  case atStart => exact ⟨0, by decide, rfl, rfl⟩
  case round =>
    obtain ⟨k, hk, rfl, hw⟩ := hrel
    subst hw
    by_cases hlt : k < 4
    · have d := HL.out k hlt
      have hkI : (k : Int) < 4 := by omega
      have hkI0 : ¬ (k : Int) < 0 := by omega
      have hkI1 : (0 : Int) ≤ (k : Int) := by omega
      have hkI2 : ¬ (k : Int) > 3 := by omega
      go_wp2
      go_roundw
      case rel => exact ⟨k + 1, by omega, by go_num, trivial⟩
      case measure => simp [intOf]; omega
    · have hkI : ¬ (k : Int) < 4 := by omega
      go_wp2
      refine wp_region_noPanic ?_
      refine wp_region_held_drew (S := (fun V => V.cell? ⟨M, 0, none⟩ = some (.int .i64 0) ∧ V.cell? ⟨M, 1, none⟩ = some (.slice aN 4 cN) ∧ V.cell? ⟨M, 2, none⟩ = some (.slice (some ⟨G, o, none⟩) 4 cO) ∧ V.cell? ⟨0, 0, none⟩ = some (.iface 157 (.pointer (some (A 0)))) ∧ V.cell? ⟨R, 1, none⟩ = some (.int .i64 1) ∧ V.cell? ⟨R, 2, none⟩ = some (.int .i64 2) ∧ V.cell? ⟨R, 3, none⟩ = some (.int .i64 3) ∧ V.cell? ⟨G, o + 1, none⟩ = some (.slice a1 2 c1) ∧ V.cell? ⟨G, o + 2, none⟩ = some (.slice a2 0 c2) ∧ V.cell? ⟨G, o + 3, none⟩ = some (.slice a3 1 c3))) (by kernel_rfl) ?_ (fun hHeld => ?_)
      · exact HXX.out _ HD0.out
      refine tkV (i := 0) (d := some 65) (v := ?_) rfl (by kernel_rfl) (by kernel_rfl) (by kernel_rfl) rfl (fun _ _ _ h => h) (by rfl) ?_ (by assumption) ?_
      rotate_left
      · (intro w hSw; (try dsimp only at hSw); (try simp only [List.getElem_toArray, List.getElem_cons_zero]); go_simp; try with_reducible rfl)
      try simp only [Act.put, List.setIfInBounds_toArray, List.set_cons_zero, List.set_cons_succ]
      refine wpAnyH_ready (rs := [1]) (by kernel_rfl) (by simp) (AllReadyH.cons rfl (fun K hK => ?_) AllReadyH.nil)
      try simp only [List.getElem_toArray, List.getElem_cons_zero, List.getElem_cons_succ]
      go_simp
      refine (HC2.out wr.drew HD0.out).mono ?_
      rintro e w11 ⟨rfl, H11⟩
      have hs11 := HXX.out w11 H11.out
      go_wp2_with fail
      refine hK.out _ _ ?_ (fun hHeld1 => ?_)
      · exact hs11
      clear hK K
      (try simp only [Act.put]); (try simp only [List.setIfInBounds_toArray]); (try simp only [List.set_cons_succ]); (try simp only [List.set_cons_zero])
      refine tkV (i := 2) (d := some 67) (v := ?_) rfl (by kernel_rfl) (by kernel_rfl) (by kernel_rfl) rfl (fun _ _ _ h => h) (by rfl) ?_ (by assumption) ?_
      rotate_left
      · (intro w hSw; (try dsimp only at hSw); (try simp only [List.getElem_toArray, List.getElem_cons_zero, List.getElem_cons_succ]); go_simp; try with_reducible rfl)
      try simp only [Act.put, List.setIfInBounds_toArray, List.set_cons_zero, List.set_cons_succ]
      refine tkV (i := 3) (d := some 68) (v := ?_) rfl (by kernel_rfl) (by kernel_rfl) (by kernel_rfl) rfl (fun _ _ _ h => h) (by rfl) ?_ (by assumption) ?_
      rotate_left
      · (intro w hSw; (try dsimp only at hSw); (try simp only [List.getElem_toArray, List.getElem_cons_zero, List.getElem_cons_succ]); go_simp; try with_reducible rfl)
      try simp only [Act.put, List.setIfInBounds_toArray, List.set_cons_zero, List.set_cons_succ]
      refine tkV (i := 4) (d := some 69) (v := ?_) rfl (by kernel_rfl) (by kernel_rfl) (by kernel_rfl) rfl (fun _ _ _ h => h) (by rfl) ?_ (by assumption) ?_
      rotate_left
      · (intro w hSw; (try dsimp only at hSw); (try simp only [List.getElem_toArray, List.getElem_cons_zero, List.getElem_cons_succ]); go_simp; try with_reducible rfl)
      try simp only [Act.put, List.setIfInBounds_toArray, List.set_cons_zero, List.set_cons_succ]
      refine tkV (i := 6) (d := some 71) (v := ?_) rfl (by kernel_rfl) (by kernel_rfl) (by kernel_rfl) rfl (fun _ _ _ h => h) (by rfl) ?_ (by assumption) ?_
      rotate_left
      · (intro w hSw; (try dsimp only at hSw); (try simp only [List.getElem_toArray, List.getElem_cons_zero, List.getElem_cons_succ]); go_simp; try with_reducible rfl)
      try simp only [Act.put, List.setIfInBounds_toArray, List.set_cons_zero, List.set_cons_succ]
      refine wpAnyH_ready (rs := [5]) (by kernel_rfl) (by simp) (AllReadyH.cons rfl (fun K hK => ?_) AllReadyH.nil)
      try simp only [List.getElem_toArray, List.getElem_cons_zero, List.getElem_cons_succ]
      go_simp
      refine (HC1.out w11 H11.out).mono ?_
      rintro e w12 ⟨rfl, H12⟩
      have hs12 := HXX.out w12 H12.out
      go_wp2_with fail
      refine hK.out _ _ ?_ (fun hHeld5 => ?_)
      · exact hs12
      clear hK K
      (try simp only [Act.put]); (try simp only [List.setIfInBounds_toArray]); (try simp only [List.set_cons_succ]); (try simp only [List.set_cons_zero])
      refine tkV (i := 7) (d := some 72) (v := ?_) rfl (by kernel_rfl) (by kernel_rfl) (by kernel_rfl) rfl (fun _ _ _ h => h) (by rfl) ?_ (by assumption) ?_
      rotate_left
      · (intro w hSw; (try dsimp only at hSw); (try simp only [List.getElem_toArray, List.getElem_cons_zero, List.getElem_cons_succ]); go_simp; try with_reducible rfl)
      try simp only [Act.put, List.setIfInBounds_toArray, List.set_cons_zero, List.set_cons_succ]
      refine tkV (i := 8) (d := some 73) (v := ?_) rfl (by kernel_rfl) (by kernel_rfl) (by kernel_rfl) rfl (fun _ _ _ h => h) (by rfl) ?_ (by assumption) ?_
      rotate_left
      · (intro w hSw; (try dsimp only at hSw); (try simp only [List.getElem_toArray, List.getElem_cons_zero, List.getElem_cons_succ]); go_simp; try with_reducible rfl)
      try simp only [Act.put, List.setIfInBounds_toArray, List.set_cons_zero, List.set_cons_succ]
      refine tkV (i := 9) (d := some 74) (v := ?_) rfl (by kernel_rfl) (by kernel_rfl) (by kernel_rfl) rfl (fun _ _ _ h => h) (by rfl) ?_ (by assumption) ?_
      rotate_left
      · (intro w hSw; (try dsimp only at hSw); (try simp only [List.getElem_toArray, List.getElem_cons_zero, List.getElem_cons_succ]); go_simp; try with_reducible rfl)
      try simp only [Act.put, List.setIfInBounds_toArray, List.set_cons_zero, List.set_cons_succ]
      refine tkV (i := 10) (d := some 75) (v := ?_) rfl (by kernel_rfl) (by kernel_rfl) (by kernel_rfl) rfl (fun _ _ _ h => h) (by rfl) ?_ (by assumption) ?_
      rotate_left
      · (intro w hSw; (try dsimp only at hSw); (try simp only [List.getElem_toArray, List.getElem_cons_zero, List.getElem_cons_succ]); go_simp; try with_reducible rfl)
      try simp only [Act.put, List.setIfInBounds_toArray, List.set_cons_zero, List.set_cons_succ]
      refine tkV (i := 11) (d := some 76) (v := ?_) rfl (by kernel_rfl) (by kernel_rfl) (by kernel_rfl) rfl (fun _ _ _ h => h) (by rfl) ?_ (by assumption) ?_
      rotate_left
      · (intro w hSw; (try dsimp only at hSw); (try simp only [List.getElem_toArray, List.getElem_cons_zero, List.getElem_cons_succ]); go_simp; try with_reducible rfl)
      try simp only [Act.put, List.setIfInBounds_toArray, List.set_cons_zero, List.set_cons_succ]
      refine tkV (i := 12) (d := some 77) (v := ?_) rfl (by kernel_rfl) (by kernel_rfl) (by kernel_rfl) rfl (fun _ _ _ h => h) (by rfl) ?_ (by assumption) ?_
      rotate_left
      · (intro w hSw; (try dsimp only at hSw); (try simp only [List.getElem_toArray, List.getElem_cons_zero, List.getElem_cons_succ]); go_simp; try with_reducible rfl)
      try simp only [Act.put, List.setIfInBounds_toArray, List.set_cons_zero, List.set_cons_succ]
      refine tkV (i := 13) (d := some 78) (v := ?_) rfl (by kernel_rfl) (by kernel_rfl) (by kernel_rfl) rfl (fun _ _ _ h => h) (by rfl) ?_ (by assumption) ?_
      rotate_left
      · (intro w hSw; (try dsimp only at hSw); (try simp only [List.getElem_toArray, List.getElem_cons_zero, List.getElem_cons_succ]); go_simp; try with_reducible rfl)
      try simp only [Act.put, List.setIfInBounds_toArray, List.set_cons_zero, List.set_cons_succ]
      refine tkV (i := 14) (d := some 79) (v := ?_) rfl (by kernel_rfl) (by kernel_rfl) (by kernel_rfl) rfl (fun _ _ _ h => h) (by rfl) ?_ (by assumption) ?_
      rotate_left
      · (intro w hSw; (try dsimp only at hSw); (try simp only [List.getElem_toArray, List.getElem_cons_zero, List.getElem_cons_succ]); go_simp; try with_reducible rfl)
      try simp only [Act.put, List.setIfInBounds_toArray, List.set_cons_zero, List.set_cons_succ]
      refine tkV (i := 15) (d := some 80) (v := ?_) rfl (by kernel_rfl) (by kernel_rfl) (by kernel_rfl) rfl (fun _ _ _ h => h) (by rfl) ?_ (by assumption) ?_
      rotate_left
      · (intro w hSw; (try dsimp only at hSw); (try simp only [List.getElem_toArray, List.getElem_cons_zero, List.getElem_cons_succ]); go_simp; try with_reducible rfl)
      try simp only [Act.put, List.setIfInBounds_toArray, List.set_cons_zero, List.set_cons_succ]
      refine tkV (i := 16) (d := some 81) (v := ?_) rfl (by kernel_rfl) (by kernel_rfl) (by kernel_rfl) rfl (fun _ _ _ h => h) (by rfl) ?_ (by assumption) ?_
      rotate_left
      · (intro w hSw; (try dsimp only at hSw); (try simp only [List.getElem_toArray, List.getElem_cons_zero, List.getElem_cons_succ]); go_simp; try with_reducible rfl)
      try simp only [Act.put, List.setIfInBounds_toArray, List.set_cons_zero, List.set_cons_succ]
      refine wpAnyH_ready (rs := [17]) (by kernel_rfl) (by simp) (AllReadyH.cons rfl (fun K hK => ?_) AllReadyH.nil)
      try simp only [List.getElem_toArray, List.getElem_cons_zero, List.getElem_cons_succ]
      go_simp
      refine hK.out _ _ ?_ (fun hHeld17 => ?_)
      · exact HXX.out _ (H12.out.alloc H12.out.size _)
      clear hK K
      (try simp only [Act.put]); (try simp only [List.setIfInBounds_toArray]); (try simp only [List.set_cons_succ]); (try simp only [List.set_cons_zero])
      refine wpAnyH_ready (rs := [18]) (by kernel_rfl) (by simp) (AllReadyH.cons rfl (fun K hK => ?_) AllReadyH.nil)
      try simp only [List.getElem_toArray, List.getElem_cons_zero, List.getElem_cons_succ]
      go_simp
      refine (HS2.out w12 H12.out).mono ?_
      rintro e w13 ⟨rfl, H13⟩
      have hs13 := HXX.out w13 H13.out
      go_wp2_with fail
      refine hK.out _ _ ?_ (fun hHeld18 => ?_)
      · exact hs13
      clear hK K
      (try simp only [Act.put]); (try simp only [List.setIfInBounds_toArray]); (try simp only [List.set_cons_succ]); (try simp only [List.set_cons_zero])
      refine tkV (i := 19) (d := some 84) (v := ?_) rfl (by kernel_rfl) (by kernel_rfl) (by kernel_rfl) rfl (fun _ _ _ h => h) (by rfl) ?_ (by assumption) ?_
      rotate_left
      · (intro w hSw; (try dsimp only at hSw); (try simp only [List.getElem_toArray, List.getElem_cons_zero, List.getElem_cons_succ]); go_simp; try with_reducible rfl)
      try simp only [Act.put, List.setIfInBounds_toArray, List.set_cons_zero, List.set_cons_succ]
      refine tkV (i := 20) (d := some 85) (v := ?_) rfl (by kernel_rfl) (by kernel_rfl) (by kernel_rfl) rfl (fun _ _ _ h => h) (by rfl) ?_ (by assumption) ?_
      rotate_left
      · (intro w hSw; (try dsimp only at hSw); (try simp only [List.getElem_toArray, List.getElem_cons_zero, List.getElem_cons_succ]); go_simp; try with_reducible rfl)
      try simp only [Act.put, List.setIfInBounds_toArray, List.set_cons_zero, List.set_cons_succ]
      refine tkV (i := 21) (d := some 86) (v := ?_) rfl (by kernel_rfl) (by kernel_rfl) (by kernel_rfl) rfl (fun _ _ _ h => h) (by rfl) ?_ (by assumption) ?_
      rotate_left
      · (intro w hSw; (try dsimp only at hSw); (try simp only [List.getElem_toArray, List.getElem_cons_zero, List.getElem_cons_succ]); go_simp; try with_reducible rfl)
      try simp only [Act.put, List.setIfInBounds_toArray, List.set_cons_zero, List.set_cons_succ]
      refine tkV (i := 22) (d := some 87) (v := ?_) rfl (by kernel_rfl) (by kernel_rfl) (by kernel_rfl) rfl (fun _ _ _ h => h) (by rfl) ?_ (by assumption) ?_
      rotate_left
      · (intro w hSw; (try dsimp only at hSw); (try simp only [List.getElem_toArray, List.getElem_cons_zero, List.getElem_cons_succ]); go_simp; try with_reducible rfl)
      try simp only [Act.put, List.setIfInBounds_toArray, List.set_cons_zero, List.set_cons_succ]
      refine tkV (i := 23) (d := some 88) (v := ?_) rfl (by kernel_rfl) (by kernel_rfl) (by kernel_rfl) rfl (fun _ _ _ h => h) (by rfl) ?_ (by assumption) ?_
      rotate_left
      · (intro w hSw; (try dsimp only at hSw); (try simp only [List.getElem_toArray, List.getElem_cons_zero, List.getElem_cons_succ]); go_simp; try with_reducible rfl)
      try simp only [Act.put, List.setIfInBounds_toArray, List.set_cons_zero, List.set_cons_succ]
      refine tkV (i := 24) (d := some 89) (v := ?_) rfl (by kernel_rfl) (by kernel_rfl) (by kernel_rfl) rfl (fun _ _ _ h => h) (by rfl) ?_ (by assumption) ?_
      rotate_left
      · (intro w hSw; (try dsimp only at hSw); (try simp only [List.getElem_toArray, List.getElem_cons_zero, List.getElem_cons_succ]); go_simp; try with_reducible rfl)
      try simp only [Act.put, List.setIfInBounds_toArray, List.set_cons_zero, List.set_cons_succ]
      refine tkV (i := 25) (d := some 90) (v := ?_) rfl (by kernel_rfl) (by kernel_rfl) (by kernel_rfl) rfl (fun _ _ _ h => h) (by rfl) ?_ (by assumption) ?_
      rotate_left
      · (intro w hSw; (try dsimp only at hSw); (try simp only [List.getElem_toArray, List.getElem_cons_zero, List.getElem_cons_succ]); go_simp; try with_reducible rfl)
      try simp only [Act.put, List.setIfInBounds_toArray, List.set_cons_zero, List.set_cons_succ]
      refine tkV (i := 26) (d := some 91) (v := ?_) rfl (by kernel_rfl) (by kernel_rfl) (by kernel_rfl) rfl (fun _ _ _ h => h) (by rfl) ?_ (by assumption) ?_
      rotate_left
      · (intro w hSw; (try dsimp only at hSw); (try simp only [List.getElem_toArray, List.getElem_cons_zero, List.getElem_cons_succ]); go_simp; try with_reducible rfl)
      try simp only [Act.put, List.setIfInBounds_toArray, List.set_cons_zero, List.set_cons_succ]
      refine tkV (i := 27) (d := some 92) (v := ?_) rfl (by kernel_rfl) (by kernel_rfl) (by kernel_rfl) rfl (fun _ _ _ h => h) (by rfl) ?_ (by assumption) ?_
      rotate_left
      · (intro w hSw; (try dsimp only at hSw); (try simp only [List.getElem_toArray, List.getElem_cons_zero, List.getElem_cons_succ]); go_simp; try with_reducible rfl)
      try simp only [Act.put, List.setIfInBounds_toArray, List.set_cons_zero, List.set_cons_succ]
      refine tkV (i := 28) (d := some 93) (v := ?_) rfl (by kernel_rfl) (by kernel_rfl) (by kernel_rfl) rfl (fun _ _ _ h => h) (by rfl) ?_ (by assumption) ?_
      rotate_left
      · (intro w hSw; (try dsimp only at hSw); (try simp only [List.getElem_toArray, List.getElem_cons_zero, List.getElem_cons_succ]); go_simp; try with_reducible rfl)
      try simp only [Act.put, List.setIfInBounds_toArray, List.set_cons_zero, List.set_cons_succ]
      refine tkV (i := 29) (d := some 94) (v := ?_) rfl (by kernel_rfl) (by kernel_rfl) (by kernel_rfl) rfl (fun _ _ _ h => h) (by rfl) ?_ (by assumption) ?_
      rotate_left
      · (intro w hSw; (try dsimp only at hSw); (try simp only [List.getElem_toArray, List.getElem_cons_zero, List.getElem_cons_succ]); go_simp; try with_reducible rfl)
      try simp only [Act.put, List.setIfInBounds_toArray, List.set_cons_zero, List.set_cons_succ]
      refine tkV (i := 30) (d := some 95) (v := ?_) rfl (by kernel_rfl) (by kernel_rfl) (by kernel_rfl) rfl (fun _ _ _ h => h) (by rfl) ?_ (by assumption) ?_
      rotate_left
      · (intro w hSw; (try dsimp only at hSw); (try simp only [List.getElem_toArray, List.getElem_cons_zero, List.getElem_cons_succ]); go_simp; try with_reducible rfl)
      try simp only [Act.put, List.setIfInBounds_toArray, List.set_cons_zero, List.set_cons_succ]
      refine tkV (i := 31) (d := some 96) (v := ?_) rfl (by kernel_rfl) (by kernel_rfl) (by kernel_rfl) rfl (fun _ _ _ h => h) (by rfl) ?_ (by assumption) ?_
      rotate_left
      · (intro w hSw; (try dsimp only at hSw); (try simp only [List.getElem_toArray, List.getElem_cons_zero, List.getElem_cons_succ]); go_simp; try with_reducible rfl)
      try simp only [Act.put, List.setIfInBounds_toArray, List.set_cons_zero, List.set_cons_succ]
      refine tkV (i := 32) (d := some 97) (v := ?_) rfl (by kernel_rfl) (by kernel_rfl) (by kernel_rfl) rfl (fun _ _ _ h => h) (by rfl) ?_ (by assumption) ?_
      rotate_left
      · (intro w hSw; (try dsimp only at hSw); (try simp only [List.getElem_toArray, List.getElem_cons_zero, List.getElem_cons_succ]); go_simp; try with_reducible rfl)
      try simp only [Act.put, List.setIfInBounds_toArray, List.set_cons_zero, List.set_cons_succ]
      refine tkV (i := 33) (d := some 98) (v := ?_) rfl (by kernel_rfl) (by kernel_rfl) (by kernel_rfl) rfl (fun _ _ _ h => h) (by rfl) ?_ (by assumption) ?_
      rotate_left
      · (intro w hSw; (try dsimp only at hSw); (try simp only [List.getElem_toArray, List.getElem_cons_zero, List.getElem_cons_succ]); go_simp; try with_reducible rfl)
      try simp only [Act.put, List.setIfInBounds_toArray, List.set_cons_zero, List.set_cons_succ]
      refine tkV (i := 34) (d := some 99) (v := ?_) rfl (by kernel_rfl) (by kernel_rfl) (by kernel_rfl) rfl (fun _ _ _ h => h) (by rfl) ?_ (by assumption) ?_
      rotate_left
      · (intro w hSw; (try dsimp only at hSw); (try simp only [List.getElem_toArray, List.getElem_cons_zero, List.getElem_cons_succ]); go_simp; try with_reducible rfl)
      try simp only [Act.put, List.setIfInBounds_toArray, List.set_cons_zero, List.set_cons_succ]
      refine tkV (i := 35) (d := some 100) (v := ?_) rfl (by kernel_rfl) (by kernel_rfl) (by kernel_rfl) rfl (fun _ _ _ h => h) (by rfl) ?_ (by assumption) ?_
      rotate_left
      · (intro w hSw; (try dsimp only at hSw); (try simp only [List.getElem_toArray, List.getElem_cons_zero, List.getElem_cons_succ]); go_simp; try with_reducible rfl)
      try simp only [Act.put, List.setIfInBounds_toArray, List.set_cons_zero, List.set_cons_succ]
      refine tkV (i := 36) (d := some 101) (v := ?_) rfl (by kernel_rfl) (by kernel_rfl) (by kernel_rfl) rfl (fun _ _ _ h => h) (by rfl) ?_ (by assumption) ?_
      rotate_left
      · (intro w hSw; (try dsimp only at hSw); (try simp only [List.getElem_toArray, List.getElem_cons_zero, List.getElem_cons_succ]); go_simp; try with_reducible rfl)
      try simp only [Act.put, List.setIfInBounds_toArray, List.set_cons_zero, List.set_cons_succ]
      refine tkV (i := 37) (d := some 102) (v := ?_) rfl (by kernel_rfl) (by kernel_rfl) (by kernel_rfl) rfl (fun _ _ _ h => h) (by rfl) ?_ (by assumption) ?_
      rotate_left
      · (intro w hSw; (try dsimp only at hSw); (try simp only [List.getElem_toArray, List.getElem_cons_zero, List.getElem_cons_succ]); go_simp; try with_reducible rfl)
      try simp only [Act.put, List.setIfInBounds_toArray, List.set_cons_zero, List.set_cons_succ]
      refine tkV (i := 38) (d := some 103) (v := ?_) rfl (by kernel_rfl) (by kernel_rfl) (by kernel_rfl) rfl (fun _ _ _ h => h) (by rfl) ?_ (by assumption) ?_
      rotate_left
      · (intro w hSw; (try dsimp only at hSw); (try simp only [List.getElem_toArray, List.getElem_cons_zero, List.getElem_cons_succ]); go_simp; try with_reducible rfl)
      try simp only [Act.put, List.setIfInBounds_toArray, List.set_cons_zero, List.set_cons_succ]
      refine wpAnyH_ready (rs := [39]) (by kernel_rfl) (by simp) (AllReadyH.cons rfl (fun K hK => ?_) AllReadyH.nil)
      try simp only [List.getElem_toArray, List.getElem_cons_zero, List.getElem_cons_succ]
      go_simp
      refine hK.out _ _ ?_ (fun hHeld39 => ?_)
      · exact HXX.out _ (H13.out.alloc H13.out.size _)
      clear hK K
      (try simp only [Act.put]); (try simp only [List.setIfInBounds_toArray]); (try simp only [List.set_cons_succ]); (try simp only [List.set_cons_zero])
      refine wpAnyH_ready (rs := [40]) (by kernel_rfl) (by simp) (AllReadyH.cons rfl (fun K hK => ?_) AllReadyH.nil)
      try simp only [List.getElem_toArray, List.getElem_cons_zero, List.getElem_cons_succ]
      go_simp
      refine (HS1.out w13 H13.out).mono ?_
      rintro e w14 ⟨rfl, H14⟩
      have hs14 := HXX.out w14 H14.out
      go_wp2_with fail
      refine hK.out _ _ ?_ (fun hHeld40 => ?_)
      · exact hs14
      clear hK K
      (try simp only [Act.put]); (try simp only [List.setIfInBounds_toArray]); (try simp only [List.set_cons_succ]); (try simp only [List.set_cons_zero])
      refine tkV (i := 41) (d := some 106) (v := ?_) rfl (by kernel_rfl) (by kernel_rfl) (by kernel_rfl) rfl (fun _ _ _ h => h) (by rfl) ?_ (by assumption) ?_
      rotate_left
      · (intro w hSw; (try dsimp only at hSw); (try simp only [List.getElem_toArray, List.getElem_cons_zero, List.getElem_cons_succ]); go_simp; try with_reducible rfl)
      try simp only [Act.put, List.setIfInBounds_toArray, List.set_cons_zero, List.set_cons_succ]
      refine tkV (i := 42) (d := some 0) (v := ?_) rfl (by kernel_rfl) (by kernel_rfl) (by kernel_rfl) rfl (fun _ _ _ h => h) (by rfl) ?_ (by assumption) ?_
      rotate_left
      · (intro w hSw; (try dsimp only at hSw); (try simp only [List.getElem_toArray, List.getElem_cons_zero, List.getElem_cons_succ]); go_simp; try with_reducible rfl)
      try simp only [Act.put, List.setIfInBounds_toArray, List.set_cons_zero]
      refine wpAnyH_done (by kernel_rfl) ?_ _
      refine NoPanic.normal ?_
      go_wp2_with fail
      go_ret
      exact ⟨rfl, hid0 (Below.later HB10.out H14.out)⟩
end Go.Proofs.YtleeedjpccooaaaDoor
namespace Go.Proofs.YtleeedjpccooaaaDoor
open Go.RowKit Go.Shelf
/-- What a law of Job, or of Read, asks of its input. -/
structure JobI (w : World) (A : Nat → Addr) (aP : Option Addr) (rs : List Pr) (sy most : Int) : Prop where
  pa : PaI w aP rs
  env : EnvM w A
  bnd : PrB rs
  s63 : sy ≤ 9223372036854775807
  s64 : -9223372036854775808 ≤ sy
  m63 : most ≤ 9223372036854775807
  m64 : -9223372036854775808 ≤ most
end Go.Proofs.YtleeedjpccooaaaDoor
namespace Go.Proofs.YtleeedjpccooaaaDoor
open Go.RowKit Go.Shelf
/-- All symbols' states are found. -/
theorem nsF_row {T : Nat → List UInt8} {O : Nat → List Nat} {most : Nat} {ks : List (List UInt8)} {outs : Nat} {ou : List (List Nat)} : ∀ {c : Nat} {k : List (List UInt8)} {n : Nat} {o : List (List Nat)} {l : List Nat}, nsF T O most ks outs ou c = some (k, n, o, l) → o = ou ++ (ncF T ks c).map O ∧ l.length = c ∧ ∀ d, d < c → ∃ i, l[d]? = some (i + 1) ∧ k[i]? = some (T d)
  | 0, k, n, o, l, h => by
    rw [nsF] at h
    simp only [Option.some.injEq, Prod.mk.injEq] at h
    obtain ⟨rfl, rfl, rfl, rfl⟩ := h
    exact ⟨by simp [ncF], rfl, fun d hd => absurd hd (Nat.not_lt_zero _)⟩
  | c + 1, k, n, o, l, h => by
    cases hq : nsF T O most ks outs ou c with
    | none => rw [nsF, hq] at h; cases h
    | some q =>
      obtain ⟨k1, n1, o1, l1⟩ := q
      obtain ⟨i1, i2, i3⟩ := nsF_row hq
      have hks := nsF_ks hq
      by_cases hm : T c ∈ k1
      · rw [nsF_old hq hm] at h
        simp only [Option.some.injEq, Prod.mk.injEq] at h
        obtain ⟨rfl, rfl, rfl, rfl⟩ := h
        have hi := List.idxOf_lt_length_of_mem hm
        refine ⟨by rw [ncF, ← hks, if_pos hm]; exact i1, by rw [List.length_append, i2]; rfl, fun d hd => ?_⟩
        by_cases hdc : d < c
        · obtain ⟨i, h1, h2⟩ := i3 d hdc
          exact ⟨i, by rw [List.getElem?_append_left (by omega)]; exact h1, h2⟩
        · obtain rfl : d = c := by omega
          refine ⟨k1.idxOf (T d), by rw [List.getElem?_append_right (by omega), i2, Nat.sub_self]; rfl, ?_⟩
          rw [List.getElem?_eq_getElem hi, List.getElem_idxOf]
      · by_cases hf : k1.length + 1 = most ∨ 4194304 < n1 + (O c).length
        · rw [nsF_full hq hm hf] at h; cases h
        · rw [nsF_new hq hm hf] at h
          simp only [Option.some.injEq, Prod.mk.injEq] at h
          obtain ⟨rfl, rfl, rfl, rfl⟩ := h
          refine ⟨by rw [ncF, ← hks, if_neg hm, List.map_append, i1, List.append_assoc]; rfl, by rw [List.length_append, i2]; rfl, fun d hd => ?_⟩
          by_cases hdc : d < c
          · obtain ⟨i, h1, h2⟩ := i3 d hdc
            have hi : i < k1.length := (List.getElem?_eq_some_iff.1 h2).1
            exact ⟨i, by rw [List.getElem?_append_left (by omega)]; exact h1, by rw [List.getElem?_append_left hi]; exact h2⟩
          · obtain rfl : d = c := by omega
            refine ⟨k1.length, by rw [List.getElem?_append_right (by omega), i2, Nat.sub_self]; rfl, ?_⟩
            rw [List.getElem?_append_right (by omega), Nat.sub_self]
            rfl
theorem bR_ext {j : Jn} {N : Nat} {fs : Nat → Nat → Bool} {b b' : Bs} {e : List (Nat × (Nat → Bool))} (h : b'.gs = b.gs ++ e) {s : Nat} (hs : s ≤ b.gs.length) : bR j N fs b' s = bR j N fs b s := by
  unfold bR
  by_cases h0 : s = 0
  · rw [if_pos h0, if_pos h0]
  · rw [if_neg h0, if_neg h0, h]
    have e1 : (b.gs ++ e).getD (s - 1) (0, fun _ => false) = b.gs.getD (s - 1) (0, fun _ => false) := by
      rw [List.getD_eq_getElem?_getD, List.getD_eq_getElem?_getD, List.getElem?_append_left (by omega)]
    rw [e1]
/-- The rows lead to the texts of what they stand for; what is told is told of it. -/
structure BsT (j : Jn) (N sy : Nat) (ix : Nat → Nat) (fs : Nat → Nat → Bool) (os : List (List UInt8 × List Nat)) (b : Bs) : Prop where
  len : b.gs.length = b.ks.length
  ou : b.ou = j.at0 :: b.gs.map fun p => outF j N os p.1 p.2
  row : ∀ s l, b.nx[s]? = some l → s ≤ b.ks.length ∧ ∀ c, c < sy → ∃ i, l[c]? = some (i + 1) ∧ b.ks[i]? = some (bT j N ix (bR j N fs b s) c)
theorem bRun_t {j : Jn} {N sy most : Nat} {ix : Nat → Nat} {fs : Nat → Nat → Bool} {os : List (List UInt8 × List Nat)} : ∀ {s : Nat} {b : Bs}, bRun j N sy most ix fs os s = some b → BsT j N sy ix fs os b
  | 0, b, h => by
    rw [bRun] at h
    by_cases hf : most = 0 ∨ 4194304 < j.at0.length
    · rw [if_pos hf] at h; cases h
    · rw [if_neg hf] at h
      simp only [Option.some.injEq] at h
      subst h
      exact ⟨rfl, rfl, fun s l h => by simp at h⟩
  | s + 1, b, h => by
    cases hq : bRun j N sy most ix fs os s with
    | none => rw [bRun, hq] at h; cases h
    | some b0 =>
      have ih := bRun_t hq
      obtain ⟨v1, v2⟩ := bRun_val hq
      by_cases hs : s < b0.ks.length + 1
      · rw [bRun_more hq hs] at h
        have hnx : b0.nx.length = s := by
          rcases v2 with e | ⟨e, e2⟩
          · exact e
          · omega
        unfold bStep at h
        cases hn : nsF (bT j N ix (bR j N fs b0 s)) (fun c => outF j N os (ix c) (andB (bR j N fs b0 s) (ltF j.LE c))) most b0.ks b0.n b0.ou sy with
        | none => rw [hn] at h; cases h
        | some q =>
          obtain ⟨k, n, o, l⟩ := q
          rw [hn] at h
          simp only [Option.some.injEq] at h
          subst h
          obtain ⟨r1, r2, r3⟩ := nsF_row hn
          have hk := nsF_ks hn
          have hbR : ∀ t, t ≤ b0.ks.length → bR j N fs ⟨k, b0.gs ++ (ncF (bT j N ix (bR j N fs b0 s)) b0.ks sy).map (fun c => (ix c, andB (bR j N fs b0 s) (ltF j.LE c))), n, o, b0.nx ++ [l]⟩ t = bR j N fs b0 t := fun t ht => bR_ext rfl (by rw [ih.len]; exact ht)
          refine ⟨?_, ?_, fun t l' ht => ?_⟩
          · show (b0.gs ++ (ncF (bT j N ix (bR j N fs b0 s)) b0.ks sy).map (fun c => (ix c, andB (bR j N fs b0 s) (ltF j.LE c)))).length = k.length
            rw [hk, List.length_append, List.length_append, List.length_map, List.length_map, ih.len]
          · show o = j.at0 :: (b0.gs ++ (ncF (bT j N ix (bR j N fs b0 s)) b0.ks sy).map (fun c => (ix c, andB (bR j N fs b0 s) (ltF j.LE c)))).map _
            rw [r1, ih.ou, List.map_append, List.map_map]
            rfl
          · have ht' : (b0.nx ++ [l])[t]? = some l' := ht
            by_cases htl : t < b0.nx.length
            · rw [List.getElem?_append_left htl] at ht'
              obtain ⟨w1, w2⟩ := ih.row t l' ht'
              refine ⟨by show t ≤ k.length; rw [hk, List.length_append]; omega, fun c hc => ?_⟩
              obtain ⟨i, x1, x2⟩ := w2 c hc
              have hi : i < b0.ks.length := (List.getElem?_eq_some_iff.1 x2).1
              refine ⟨i, x1, ?_⟩
              rw [hbR t w1]
              show k[i]? = _
              rw [hk, List.getElem?_append_left hi]
              exact x2
            · have htn : t < (b0.nx ++ [l]).length := (List.getElem?_eq_some_iff.1 ht').1
              rw [List.length_append, List.length_singleton] at htn
              obtain rfl : t = b0.nx.length := by omega
              rw [List.getElem?_append_right (by omega), Nat.sub_self] at ht'
              have e : l = l' := by simpa using ht'
              subst e
              refine ⟨by show b0.nx.length ≤ k.length; rw [hk, List.length_append]; omega, fun c hc => ?_⟩
              obtain ⟨i, x1, x2⟩ := r3 c hc
              refine ⟨i, x1, ?_⟩
              rw [hbR _ (by omega), hnx]
              exact x2
      · rw [bRun, hq] at h
        simp only at h
        rw [if_neg hs] at h
        simp only [Option.some.injEq] at h
        subst h
        exact ih
theorem bRun_ok {j : Jn} {N sy most : Nat} {ix : Nat → Nat} {fs : Nat → Nat → Bool} {os : List (List UInt8 × List Nat)} (hix : ∀ c, c < sy → ix c < os.length) (hLE : j.LE.length = j.own.length) : ∀ {s : Nat} {b : Bs}, bRun j N sy most ix fs os s = some b → BsOk j N os b
  | 0, b, h => by
    rw [bRun] at h
    by_cases hf : most = 0 ∨ 4194304 < j.at0.length
    · rw [if_pos hf] at h; cases h
    · rw [if_neg hf] at h
      simp only [Option.some.injEq] at h
      subst h
      exact ⟨rfl, fun i h => absurd h (Nat.not_lt_zero _), fun x hx => by simp at hx, fun x hx => by simp at hx⟩
  | s + 1, b, h => by
    cases hq : bRun j N sy most ix fs os s with
    | none => rw [bRun, hq] at h; cases h
    | some b0 =>
      have ih := bRun_ok hix hLE hq
      by_cases hs : s < b0.ks.length + 1
      · rw [bRun_more hq hs] at h
        exact ih.step hix hLE h
      · rw [bRun, hq] at h
        simp only at h
        rw [if_neg hs] at h
        simp only [Option.some.injEq] at h
        subst h
        exact ih
/-- What stands behind places. -/
def folF (j : Jn) (N : Nat) (S : Nat → Bool) (q : Nat) : Bool := (List.range (64 * N)).any fun p => S p && inR (j.FO.getD p []) q
/-- The places that a symbol leads to. -/
def acF (j : Jn) (N : Nat) (S : Nat → Bool) (c : Nat) : Nat → Bool := fun q => (j.op q || folF j N S q) && ltF j.LE c q
def ac0 (j : Jn) (c : Nat) : Nat → Bool := fun q => (j.op q || j.cl q) && ltF j.LE c q
/-- The places behind a word. -/
def act (j : Jn) (N : Nat) : List Nat → Nat → Bool
  | [] => fun _ => false
  | c :: r => r.foldl (acF j N) (ac0 j c)
theorem act_snoc (j : Jn) (N : Nat) {w : List Nat} (hw : w ≠ []) (c : Nat) : act j N (w ++ [c]) = acF j N (act j N w) c := by
  cases w with
  | nil => exact absurd rfl hw
  | cons d r => rw [List.cons_append, act, act, List.foldl_append]; rfl
theorem folF_congr {j : Jn} {N : Nat} {S S' : Nat → Bool} (h : ∀ q, q < 64 * N → S q = S' q) : folF j N S = folF j N S' := by
  funext q
  unfold folF
  rw [Bool.eq_iff_iff, List.any_eq_true, List.any_eq_true]
  constructor
  · rintro ⟨p, hp, e⟩
    exact ⟨p, hp, by rw [← h p (List.mem_range.1 hp)]; exact e⟩
  · rintro ⟨p, hp, e⟩
    exact ⟨p, hp, by rw [h p (List.mem_range.1 hp)]; exact e⟩
theorem rcF_fol (j : Jn) (N : Nat) (fo f : Nat → Bool) {q : Nat} (hq : q < 64 * N) : rcF j N fo f q = (folF j N (fun p => fo p || f p) q && !j.op q) := by
  unfold rcF anF
  have hd : decide (q / 64 < N) = true := decide_eq_true (by omega)
  rw [hd, Bool.true_and]
  congr 1
  unfold accF folF plB
  rw [Bool.false_or, List.any_filter, List.any_filter, Bool.eq_iff_iff, Bool.or_eq_true, List.any_eq_true, List.any_eq_true, List.any_eq_true]
  constructor
  · rintro (⟨p, hp, e⟩ | ⟨p, hp, e⟩)
    · rw [Bool.and_eq_true] at e
      exact ⟨p, hp, by simp only [e.1, e.2, Bool.true_or, Bool.and_self]⟩
    · rw [Bool.and_eq_true] at e
      exact ⟨p, hp, by simp only [e.1, e.2, Bool.or_true, Bool.and_self]⟩
  · rintro ⟨p, hp, e⟩
    rw [Bool.and_eq_true, Bool.or_eq_true] at e
    rcases e.1 with h1 | h1
    · exact .inl ⟨p, hp, by rw [h1, e.2]; rfl⟩
    · exact .inr ⟨p, hp, by rw [h1, e.2]; rfl⟩
/-- The places that a state stands for. -/
def stS (fs : Nat → Nat → Bool) (b : Bs) (s : Nat) : Nat → Bool := fun q => fs (b.gs.getD (s - 1) (0, fun _ => false)).1 q || (b.gs.getD (s - 1) (0, fun _ => false)).2 q
theorem csF_text (f : Nat → List UInt8) {k c : Nat} (h : c < k) : f ((csF f k).getD (ixF f k c) 0) = f c := by
  have hm := csF_mem f k c h
  have hi := List.idxOf_lt_length_of_mem hm
  have e : ((csF f k).map f)[ixF f k c]? = some (f c) := by
    unfold ixF
    rw [List.getElem?_eq_getElem hi, List.getElem_idxOf]
  rw [List.getElem?_map] at e
  obtain ⟨x, h1, h2⟩ := Option.map_eq_some_iff.1 e
  rw [List.getD_eq_getElem?_getD, h1, Option.getD_some, h2]
/-- A step of the machine is a step of the places. -/
theorem st_step {j : Jn} {N sy most : Nat} {b : Bs} (hok : JnOk j sy N) (hN : N ≤ 1000000) (hsy : sy ≤ 16384) (hol : j.own.length ≤ 10000000) (h : bAll j N sy most = some b) {s c : Nat} {l : List Nat} (hl : b.nx[s]? = some l) (hc : c < sy) {t : Nat} (ht : l[c]? = some t) :
    ∃ i, t = i + 1 ∧ i < b.gs.length ∧ ∀ q, q < 64 * N → stS (bFs j N sy) b (i + 1) q = if s = 0 then ac0 j c q else acF j N (stS (bFs j N sy) b s) c q := by
  have hT := bRun_t h
  obtain ⟨o1, o2, _, _⟩ := bOs_ok hok hol
  have hO : BsOk j N (bOs j N sy) b := bRun_ok (fun c hc => o2 c hc) hok.le h
  obtain ⟨_, r2⟩ := hT.row s l hl
  obtain ⟨i, x1, x2⟩ := r2 c hc
  have hti : t = i + 1 := by rw [ht] at x1; injection x1
  have hik : i < b.ks.length := (List.getElem?_eq_some_iff.1 x2).1
  have hig : i < b.gs.length := by rw [hT.len]; exact hik
  have e0 : b.ks[i] = bT j N (bIx j N sy) (bR j N (bFs j N sy) b s) c := by
    rw [List.getElem?_eq_getElem hik] at x2
    injection x2
  have e1 := hO.tx i hig hik
  rw [e0] at e1
  unfold bT at e1
  obtain ⟨e2, e3⟩ := List.append_inj e1 (by rw [leB_len, leB_len])
  have g1 := o2 c hc
  have g2 := hO.ix _ (List.getElem_mem hig)
  have e4 : bIx j N sy c = (b.gs[i]).1 := leB_inj (k := 4) (by omega) (by omega) e2
  have e5 := encW_inj (n := N) (by omega) e3
  refine ⟨i, hti, hig, fun q hq => ?_⟩
  have eg : b.gs.getD (i + 1 - 1) (0, fun _ => false) = b.gs[i] := by
    rw [List.getD_eq_getElem?_getD, Nat.add_sub_cancel, List.getElem?_eq_getElem hig]
    rfl
  have e6 : bFs j N sy (bIx j N sy c) q = (j.op q && ltF j.LE c q) := by
    have q1 := csF_text (opF j N) hc
    unfold opF at q1
    exact encW_inj (n := N) (by omega) q1 q hq
  have e7 : stS (bFs j N sy) b (i + 1) q = ((j.op q && ltF j.LE c q) || (bR j N (bFs j N sy) b s q && ltF j.LE c q)) := by
    unfold stS
    rw [eg, ← e4, e6, ← e5 q hq]
    rfl
  rw [e7]
  unfold bR
  by_cases h0 : s = 0
  · rw [if_pos h0, if_pos h0]
    unfold ac0
    cases j.op q <;> cases j.cl q <;> cases ltF j.LE c q <;> rfl
  · rw [if_neg h0, if_neg h0, rcF_fol _ _ _ _ hq]
    unfold acF
    have e8 : folF j N (stS (bFs j N sy) b s) q = folF j N (fun p => bFs j N sy (b.gs.getD (s - 1) (0, fun _ => false)).1 p || (b.gs.getD (s - 1) (0, fun _ => false)).2 p) q := rfl
    rw [e8]
    generalize folF j N _ q = x
    cases j.op q <;> cases x <;> cases ltF j.LE c q <;> rfl
theorem mem_onceC : ∀ (l acc : List Nat) (z : Nat), z ∈ onceC acc l ↔ z ∈ acc ∨ z ∈ l
  | [], acc, z => by simp [onceC]
  | x :: l, acc, z => by
    rw [onceC, mem_onceC l]
    by_cases h : acc.getLast? = some x
    · rw [if_pos h, List.mem_cons]
      have hx : x ∈ acc := List.mem_of_getLast? h
      constructor
      · rintro (h | h)
        · exact .inl h
        · exact .inr (.inr h)
      · rintro (h | rfl | h)
        · exact .inl h
        · exact .inl hx
        · exact .inr h
    · rw [if_neg h, List.mem_append, List.mem_singleton, List.mem_cons]
      constructor
      · rintro ((h | h) | h)
        · exact .inl h
        · exact .inr (.inl h)
        · exact .inr (.inr h)
      · rintro (h | h | h)
        · exact .inl (.inl h)
        · exact .inl (.inr h)
        · exact .inr h
theorem mem_endL (g : Nat → Bool) (own : List Nat) (n z : Nat) : z ∈ endL g own n ↔ ∃ q, q < n ∧ g q = true ∧ own.getD q 0 = z := by
  unfold endL plB
  rw [mem_onceC, List.mem_map]
  constructor
  · rintro (h | ⟨q, h1, h2⟩)
    · cases h
    · rw [List.mem_filter, List.mem_range] at h1
      exact ⟨q, h1.1, h1.2, h2⟩
  · rintro ⟨q, h1, h2, h3⟩
    exact .inr ⟨q, by rw [List.mem_filter, List.mem_range]; exact ⟨h1, h2⟩, h3⟩
/-- What a state tells. -/
theorem st_out {j : Jn} {N sy most : Nat} {b : Bs} (hok : JnOk j sy N) (hol : j.own.length ≤ 10000000) (h : bAll j N sy most = some b) {i : Nat} (hi : i < b.gs.length) : ∃ o, b.ou[i + 1]? = some o ∧ ∀ z, z ∈ o ↔ z ∈ j.alw ∨ ∃ q, q < 64 * N ∧ stS (bFs j N sy) b (i + 1) q = true ∧ j.la q = true ∧ j.own.getD q 0 = z := by
  have hT := bRun_t h
  obtain ⟨o1, o2, _, _⟩ := bOs_ok hok hol
  have hO : BsOk j N (bOs j N sy) b := bRun_ok (fun c hc => o2 c hc) hok.le h
  have g2 := hO.ix _ (List.getElem_mem hi)
  have hl : (bOs j N sy).length = (csF (opF j N) sy).length := by unfold bOs; rw [List.length_map]
  refine ⟨outF j N (bOs j N sy) (b.gs[i]).1 (b.gs[i]).2, ?_, fun z => ?_⟩
  · rw [hT.ou, List.getElem?_cons_succ, List.getElem?_map, List.getElem?_eq_getElem hi]
    rfl
  · unfold outF
    have eo : ((bOs j N sy).getD (b.gs[i]).1 ([], [])).2 = endL (fun q => bFs j N sy (b.gs[i]).1 q && j.la q) j.own (64 * N) := by
      unfold bOs bFs
      rw [List.getD_eq_getElem?_getD, List.getElem?_map, List.getD_eq_getElem?_getD, List.getElem?_eq_getElem (by omega)]
      rfl
    have eg : b.gs.getD (i + 1 - 1) (0, fun _ => false) = b.gs[i] := by
      rw [List.getD_eq_getElem?_getD, Nat.add_sub_cancel, List.getElem?_eq_getElem hi]
      rfl
    rw [mrg_mem, mrg_mem, eo, mem_endL, mem_endL]
    unfold stS
    rw [eg]
    constructor
    · rintro (h | ⟨q, h1, h2, h3⟩ | ⟨q, h1, h2, h3⟩)
      · exact .inl h
      · rw [Bool.and_eq_true] at h2
        exact .inr ⟨q, h1, by rw [h2.1]; rfl, h2.2, h3⟩
      · rw [Bool.and_eq_true] at h2
        exact .inr ⟨q, h1, by rw [h2.1, Bool.or_true], h2.2, h3⟩
    · rintro (h | ⟨q, h1, h2, h3, h4⟩)
      · exact .inl h
      · rw [Bool.or_eq_true] at h2
        rcases h2 with h2 | h2
        · exact .inr (.inl ⟨q, h1, by rw [h2, h3]; rfl, h4⟩)
        · exact .inr (.inr ⟨q, h1, by rw [h2, h3]; rfl, h4⟩)
end Go.Proofs.YtleeedjpccooaaaDoor
namespace Go.Proofs.YtleeedjpccooaaaDoor
open Go.RowKit Go.Shelf
/-- What stands at a place of a pattern. -/
structure AtP (J : Jn) (o k : Nat) (p : Pt) (x : Nat) : Prop where
  own : J.own[o + x]? = some k
  le : J.LE.getD (o + x) [] = p.le.getD x []
  fo : ∀ q, inR (J.FO.getD (o + x) []) q = (p.fo.getD x []).any fun y => decide (q = o + y)
  la : J.la (o + x) = p.la.contains x
  op : J.op (o + x) = (!p.an && p.fi.contains x)
  cl : J.cl (o + x) = (p.an && p.fi.contains x)
theorem setL_at (R : Nat → Bool) (base : Nat) (L : List Nat) (x : Nat) (h : R (base + x) = false) : setL R base L (base + x) = L.contains x := by
  unfold setL
  rw [h, Bool.or_false, Bool.eq_iff_iff, List.any_eq_true, List.contains_iff_mem]
  constructor
  · rintro ⟨p, hp, e⟩
    have := of_decide_eq_true e
    obtain rfl : x = p := by omega
    exact hp
  · intro hx
    exact ⟨x, hx, decide_eq_true rfl⟩
theorem setL_low (R : Nat → Bool) {base : Nat} (L : List Nat) {q : Nat} (h : q < base) : setL R base L q = R q := by
  unfold setL
  have e : L.any (fun p => decide (q = base + p)) = false := by
    rw [List.any_eq_false]
    intro p _
    simp
    omega
  rw [e, Bool.false_or]
theorem bool_no {b : Bool} (h : ¬ b = true) : b = false := by cases b <;> simp_all
theorem AtP.new {j : Jn} {sy N nm : Nat} {p : Pt} (h : JnOk j sy N) (hp : PtOk sy p) {x : Nat} (hx : x < p.le.length) : AtP (jStep j nm p) j.own.length nm p x := by
  have hfo : x < p.fo.length := by rw [hp.fo]; exact hx
  have n1 : j.la (j.own.length + x) = false := bool_no (fun e => by have := h.la' _ e; omega)
  have n2 : j.op (j.own.length + x) = false := bool_no (fun e => by have := h.op' _ e; omega)
  have n3 : j.cl (j.own.length + x) = false := bool_no (fun e => by have := h.cl' _ e; omega)
  refine ⟨?_, ?_, fun q => ?_, setL_at _ _ _ _ n1, ?_, ?_⟩
  · show (j.own ++ List.replicate p.fo.length nm)[j.own.length + x]? = _
    rw [List.getElem?_append_right (by omega), Nat.add_sub_cancel_left, List.getElem?_replicate, if_pos hfo]
  · show (j.LE ++ p.le).getD _ _ = _
    rw [List.getD_eq_getElem?_getD, List.getElem?_append_right (by rw [h.le]; omega), h.le, Nat.add_sub_cancel_left, ← List.getD_eq_getElem?_getD]
  · show inR ((j.FO ++ p.fo.map (rowW j.own.length)).getD _ _) q = _
    rw [List.getD_eq_getElem?_getD, List.getElem?_append_right (by rw [h.fo]; omega), h.fo, Nat.add_sub_cancel_left, List.getElem?_map, List.getElem?_eq_getElem hfo, Option.map_some, Option.getD_some, inR_rowW, List.getD_eq_getElem?_getD, List.getElem?_eq_getElem hfo]
    rfl
  · show (if p.an = true then j.op else setL j.op j.own.length p.fi) _ = _
    cases p.an with
    | true => rw [if_pos rfl, n2]; rfl
    | false => rw [if_neg (by decide), setL_at _ _ _ _ n2]; rfl
  · show (if p.an = true then setL j.cl j.own.length p.fi else j.cl) _ = _
    cases p.an with
    | true => rw [if_pos rfl, setL_at _ _ _ _ n3]; rfl
    | false => rw [if_neg (by decide), n3]; rfl
theorem AtP.step {j : Jn} {sy N nm o k : Nat} {p p' : Pt} {x : Nat} (h : JnOk j sy N) (ha : AtP j o k p' x) : AtP (jStep j nm p) o k p' x := by
  have hq : o + x < j.own.length := (List.getElem?_eq_some_iff.1 ha.own).1
  refine ⟨?_, ?_, fun q => ?_, ?_, ?_, ?_⟩
  · show (j.own ++ List.replicate p.fo.length nm)[o + x]? = _
    rw [List.getElem?_append_left hq]; exact ha.own
  · show (j.LE ++ p.le).getD _ _ = _
    rw [List.getD_eq_getElem?_getD, List.getElem?_append_left (by rw [h.le]; exact hq), ← List.getD_eq_getElem?_getD]; exact ha.le
  · show inR ((j.FO ++ p.fo.map (rowW j.own.length)).getD _ _) q = _
    rw [List.getD_eq_getElem?_getD, List.getElem?_append_left (by rw [h.fo]; exact hq), ← List.getD_eq_getElem?_getD]; exact ha.fo q
  · exact (setL_low _ _ hq).trans ha.la
  · show (if p.an = true then j.op else setL j.op j.own.length p.fi) _ = _
    split
    · exact ha.op
    · exact (setL_low _ _ hq).trans ha.op
  · show (if p.an = true then setL j.cl j.own.length p.fi else j.cl) _ = _
    split
    · exact (setL_low _ _ hq).trans ha.cl
    · exact ha.cl
section
variable {ps : List Pt} {sy N : Nat}
theorem jAcc_at (hp : ∀ p ∈ ps, PtOk sy p) (hN : plN ps ps.length ≤ 64 * N) : ∀ n, n ≤ ps.length → ∀ k (_hk : k < n) (hk2 : k < ps.length) x, x < (ps[k]).le.length → AtP (jAcc ps n) (plN ps k) k ps[k] x
  | 0, _, k, hk, _, _, _ => absurd hk (Nat.not_lt_zero _)
  | n + 1, hn, k, hk, hk2, x, hx => by
    rw [jAcc_succ (by omega)]
    have hok := jAcc_ok hp hN n (by omega)
    by_cases h : k < n
    · exact (jAcc_at hp hN n (by omega) k h hk2 x hx).step hok
    · obtain rfl : k = n := by omega
      have e := jAcc_own hp k (by omega)
      have q := AtP.new (nm := k) hok (hp _ (List.getElem_mem hk2)) hx
      rw [e] at q
      exact q
theorem plN_cover : ∀ n, n ≤ ps.length → ∀ q, q < plN ps n → ∃ k, ∃ (_ : k < n) (hk : k < ps.length), ∃ x, x < (ps[k]).le.length ∧ q = plN ps k + x
  | 0, _, q, h => by simp [plN] at h
  | n + 1, hn, q, h => by
    rw [plN_succ (by omega)] at h
    by_cases hq : q < plN ps n
    · obtain ⟨k, h1, h2, x, h3, h4⟩ := plN_cover n (by omega) q hq
      exact ⟨k, by omega, h2, x, h3, h4⟩
    · exact ⟨n, by omega, by omega, q - plN ps n, by omega, by omega⟩
theorem jAcc_em (ps : List Pt) : ∀ n, n ≤ ps.length → ∀ k, (k ∈ (jAcc ps n).at0 ↔ k < n ∧ ∃ h : k < ps.length, (ps[k]).em = true) ∧ (k ∈ (jAcc ps n).alw ↔ k < n ∧ ∃ h : k < ps.length, (ps[k]).em = true ∧ (ps[k]).an = false)
  | 0, _, k => by simp [jAcc, jNil]
  | n + 1, hn, k => by
    obtain ⟨i1, i2⟩ := jAcc_em ps n (by omega) k
    rw [jAcc_succ (by omega)]
    constructor
    · show k ∈ (if (ps[n]).em then (jAcc ps n).at0 ++ [n] else (jAcc ps n).at0) ↔ _
      by_cases he : (ps[n]).em = true
      · rw [if_pos he, List.mem_append, List.mem_singleton, i1]
        constructor
        · rintro (⟨h1, h2⟩ | rfl)
          · exact ⟨by omega, h2⟩
          · exact ⟨by omega, by omega, he⟩
        · rintro ⟨h1, h2⟩
          by_cases hkn : k = n
          · exact .inr hkn
          · exact .inl ⟨by omega, h2⟩
      · rw [if_neg he, i1]
        constructor
        · rintro ⟨h1, h2⟩; exact ⟨by omega, h2⟩
        · rintro ⟨h1, h2, h3⟩
          have hkn : k ≠ n := by rintro rfl; exact he h3
          exact ⟨by omega, h2, h3⟩
    · show k ∈ (if (ps[n]).em && !(ps[n]).an then (jAcc ps n).alw ++ [n] else (jAcc ps n).alw) ↔ _
      by_cases he : ((ps[n]).em && !(ps[n]).an) = true
      · rw [if_pos he, List.mem_append, List.mem_singleton, i2]
        rw [Bool.and_eq_true, Bool.not_eq_true'] at he
        constructor
        · rintro (⟨h1, h2⟩ | rfl)
          · exact ⟨by omega, h2⟩
          · exact ⟨by omega, by omega, he⟩
        · rintro ⟨h1, h2⟩
          by_cases hkn : k = n
          · exact .inr hkn
          · exact .inl ⟨by omega, h2⟩
      · rw [if_neg he, i2]
        rw [Bool.and_eq_true, Bool.not_eq_true'] at he
        constructor
        · rintro ⟨h1, h2⟩; exact ⟨by omega, h2⟩
        · rintro ⟨h1, h2, h3⟩
          have hkn : k ≠ n := by rintro rfl; exact he h3
          exact ⟨by omega, h2, h3⟩
end
/-- The places of one pattern behind a word, begun anywhere or, anchored, at its beginning alone. -/
def lc0 (p : Pt) (c : Nat) : Nat → Bool := fun x => p.fi.contains x && (p.le.getD x []).contains c
def fol1 (p : Pt) (S : Nat → Bool) (x : Nat) : Bool := (List.range p.le.length).any fun y => S y && (p.fo.getD y []).contains x
def lcS (p : Pt) (S : Nat → Bool) (c : Nat) : Nat → Bool := fun x => ((!p.an && p.fi.contains x) || fol1 p S x) && (p.le.getD x []).contains c
def loc (p : Pt) : List Nat → Nat → Bool
  | [] => fun _ => false
  | c :: r => r.foldl (lcS p) (lc0 p c)
theorem loc_snoc (p : Pt) {w : List Nat} (hw : w ≠ []) (c : Nat) : loc p (w ++ [c]) = lcS p (loc p w) c := by
  cases w with
  | nil => exact absurd rfl hw
  | cons d r => rw [List.cons_append, loc, loc, List.foldl_append]; rfl
theorem ltF_at {J : Jn} {o k : Nat} {p : Pt} {x : Nat} (h : AtP J o k p x) (c : Nat) : ltF J.LE c (o + x) = (p.le.getD x []).contains c := by
  unfold ltF
  rw [h.le, Bool.eq_iff_iff, decide_eq_true_eq, List.contains_iff_mem]
theorem fol_at {ps : List Pt} {sy N : Nat} (hp : ∀ p ∈ ps, PtOk sy p) (hN : plN ps ps.length ≤ 64 * N) {S : Nat → Bool} {k x : Nat} (hk : k < ps.length) (hx : x < (ps[k]).le.length) : folF (jAcc ps ps.length) N S (plN ps k + x) = fol1 ps[k] (fun y => S (plN ps k + y)) x := by
  have hok := jAcc_ok hp hN ps.length (Nat.le_refl _)
  have hown := jAcc_own hp ps.length (Nat.le_refl _)
  have hat := jAcc_at hp hN ps.length (Nat.le_refl _)
  unfold folF fol1
  rw [Bool.eq_iff_iff, List.any_eq_true, List.any_eq_true]
  constructor
  · rintro ⟨q, _, e⟩
    rw [Bool.and_eq_true] at e
    by_cases hq : q < plN ps ps.length
    · obtain ⟨k', h1, h2, y, h3, rfl⟩ := plN_cover ps.length (Nat.le_refl _) q hq
      have a' := hat k' h1 h2 y h3
      have e2 := e.2
      rw [a'.fo, List.any_eq_true] at e2
      obtain ⟨z, hz, e3⟩ := e2
      have e4 := of_decide_eq_true e3
      have hyf : y < (ps[k']).fo.length := by rw [(hp _ (List.getElem_mem h2)).fo]; exact h3
      have hz' : z < (ps[k']).le.length := by
        rw [List.getD_eq_getElem?_getD, List.getElem?_eq_getElem hyf] at hz
        exact (hp _ (List.getElem_mem h2)).fo' _ (List.getElem_mem hyf) z hz
      have o1 := (hat k hk hk x hx).own
      have o2 := (hat k' h1 h2 z hz').own
      rw [e4, o2] at o1
      injection o1 with o1
      subst o1
      obtain rfl : x = z := by omega
      exact ⟨y, List.mem_range.2 h3, by rw [Bool.and_eq_true]; exact ⟨e.1, List.contains_iff_mem.2 hz⟩⟩
    · have e2 := e.2
      rw [List.getD_eq_getElem?_getD, List.getElem?_eq_none (by rw [hok.fo, hown]; omega)] at e2
      simp [inR] at e2
  · rintro ⟨y, hy, e⟩
    rw [List.mem_range] at hy
    rw [Bool.and_eq_true] at e
    have a := hat k hk hk y hy
    have hlt : plN ps k + y < plN ps ps.length := by
      have := (List.getElem?_eq_some_iff.1 a.own).1
      rw [hown] at this
      exact this
    refine ⟨plN ps k + y, List.mem_range.2 (by omega), ?_⟩
    rw [Bool.and_eq_true, a.fo, List.any_eq_true]
    exact ⟨e.1, x, List.contains_iff_mem.1 e.2, decide_eq_true rfl⟩
/-- The places behind a word are those of the patterns. -/
theorem act_loc {ps : List Pt} {sy N : Nat} (hp : ∀ p ∈ ps, PtOk sy p) (hN : plN ps ps.length ≤ 64 * N) : ∀ (r : List Nat) (S : Nat → Bool) (S' : Nat → Nat → Bool), (∀ k (_ : k < ps.length) x, x < (ps[k]).le.length → S (plN ps k + x) = S' k x) → ∀ k (hk : k < ps.length) x, x < (ps[k]).le.length → (r.foldl (acF (jAcc ps ps.length) N) S) (plN ps k + x) = (r.foldl (lcS ps[k]) (S' k)) x
  | [], S, S', h, k, hk, x, hx => h k hk x hx
  | c :: r, S, S', h, k, hk, x, hx => by
    rw [List.foldl_cons, List.foldl_cons]
    refine act_loc hp hN r _ (fun k => if hk : k < ps.length then lcS ps[k] (S' k) c else S' k) (fun k hk x hx => ?_) k hk x hx |>.trans ?_
    · rw [dif_pos hk]
      have a := jAcc_at hp hN ps.length (Nat.le_refl _) k hk hk x hx
      unfold acF lcS
      rw [a.op, ltF_at a, fol_at hp hN hk hx]
      have e : fol1 ps[k] (fun y => S (plN ps k + y)) x = fol1 ps[k] (S' k) x := by
        unfold fol1
        rw [Bool.eq_iff_iff, List.any_eq_true, List.any_eq_true]
        constructor
        · rintro ⟨y, hy, e⟩
          exact ⟨y, hy, by rw [← h k hk y (List.mem_range.1 hy)]; exact e⟩
        · rintro ⟨y, hy, e⟩
          exact ⟨y, hy, by show (S (plN ps k + y) && _) = true; rw [h k hk y (List.mem_range.1 hy)]; exact e⟩
      rw [e]
    · simp only [dif_pos hk]
theorem act_at {ps : List Pt} {sy N : Nat} (hp : ∀ p ∈ ps, PtOk sy p) (hN : plN ps ps.length ≤ 64 * N) (w : List Nat) {k x : Nat} (hk : k < ps.length) (hx : x < (ps[k]).le.length) : act (jAcc ps ps.length) N w (plN ps k + x) = loc ps[k] w x := by
  cases w with
  | nil => rfl
  | cons c r =>
    rw [act, loc]
    refine (act_loc hp hN r _ (fun k => if hk : k < ps.length then lc0 ps[k] c else fun _ => false) (fun k hk x hx => ?_) k hk x hx).trans ?_
    · rw [dif_pos hk]
      have a := jAcc_at hp hN ps.length (Nat.le_refl _) k hk hk x hx
      unfold ac0 lc0
      rw [a.op, a.cl, ltF_at a]
      cases (ps[k]).an <;> simp
    · simp only [dif_pos hk]
end Go.Proofs.YtleeedjpccooaaaDoor
namespace Go.Proofs.YtleeedjpccooaaaDoor
def hasL (l : List Int) (z : Int) : Bool := l.any (· == z)
/-- The places among whose letters a symbol is. -/
def holdF (Le : List (List Int)) (c : Int) (q : Nat) : Bool := hasL (Le.getD q []) c
/-- Where some place of a set leads to, of those below n. -/
def partF (Fo : List (List Int)) (f : Nat → Bool) (n t : Nat) : Bool := (List.range n).any (fun p => f p && hasL (Fo.getD p []) (t : Int))
def nextF (Fo : List (List Int)) (f : Nat → Bool) (t : Nat) : Bool := partF Fo f Fo.length t
/-- The same, with the first k numbers of place q's list. -/
def partK (Fo : List (List Int)) (f : Nat → Bool) (q k t : Nat) : Bool := partF Fo f q t || (f q && hasL ((Fo.getD q []).take k) (t : Int))
def atF (Le : List (List Int)) (nx : Nat → Bool) (c : Int) (q : Nat) : Bool := nx q && holdF Le c q
def lastF (La : List Int) (f : Nat → Bool) : Bool := La.any (fun z => f z.toNat)
def runM (Le Fo : List (List Int)) (La : List Int) : (Nat → Bool) → Int → List Int → Bool
  | nx, c, [] => lastF La (atF Le nx c)
  | nx, c, d :: r => runM Le Fo La (nextF Fo (atF Le nx c)) d r
theorem hasL_nil (z : Int) : hasL [] z = false := rfl
theorem hasL_append (l m : List Int) (z : Int) : hasL (l ++ m) z = (hasL l z || hasL m z) := by simp [hasL]
theorem partF_zero (Fo : List (List Int)) (f : Nat → Bool) (t : Nat) : partF Fo f 0 t = false := rfl
theorem partF_succ (Fo : List (List Int)) (f : Nat → Bool) (n t : Nat) : partF Fo f (n + 1) t = (partF Fo f n t || (f n && hasL (Fo.getD n []) (t : Int))) := by
  simp [partF, List.range_succ]
theorem partK_zero (Fo : List (List Int)) (f : Nat → Bool) (q t : Nat) : partK Fo f q 0 t = partF Fo f q t := by
  simp [partK, hasL_nil]
theorem partK_end (Fo : List (List Int)) (f : Nat → Bool) (q k t : Nat) (h : (Fo.getD q []).length ≤ k) : partK Fo f q k t = partF Fo f (q + 1) t := by
  rw [partK, partF_succ, List.take_of_length_le h]
theorem partK_off (Fo : List (List Int)) (f : Nat → Bool) (q k t : Nat) (h : f q = false) : partK Fo f q k t = partF Fo f (q + 1) t := by
  rw [partK, partF_succ, h, Bool.false_and, Bool.false_and]
theorem partK_succ (Fo : List (List Int)) (f : Nat → Bool) (q k t : Nat) (h : k < (Fo.getD q []).length) (hf : f q = true) : partK Fo f q (k + 1) t = (partK Fo f q k t || ((Fo.getD q [])[k] == (t : Int))) := by
  rw [partK, partK, List.take_succ_eq_append_getElem h, hasL_append, hf, Bool.true_and, Bool.true_and, ← Bool.or_assoc]
  simp [hasL]
theorem runM_none (Le Fo : List (List Int)) (La : List Int) : ∀ (r : List Int) (nx : Nat → Bool) (c : Int), (∀ q, atF Le nx c q = false) → runM Le Fo La nx c r = false
  | [], nx, c, h => by simp [runM, lastF, h]
  | d :: r, nx, c, h => by
    rw [runM]
    refine runM_none Le Fo La r _ d (fun q => ?_)
    have : nextF Fo (atF Le nx c) q = false := by simp [nextF, partF, h]
    simp [atF, this]
theorem atF_congr {Le : List (List Int)} {nx ny : Nat → Bool} {c : Int} (h : ∀ q, q < Le.length → nx q = ny q) : atF Le nx c = atF Le ny c := by
  funext q
  by_cases hq : q < Le.length
  · simp [atF, h q hq]
  · have : holdF Le c q = false := by
      rw [holdF, List.getD_eq_getElem?_getD, List.getElem?_eq_none (by omega)]; rfl
    simp [atF, this]
theorem runM_congr {Le Fo : List (List Int)} {La : List Int} {nx ny : Nat → Bool} {c : Int} {r : List Int} (h : ∀ q, q < Le.length → nx q = ny q) : runM Le Fo La nx c r = runM Le Fo La ny c r := by
  cases r with
  | nil => rw [runM, runM, atF_congr h]
  | cons d r => rw [runM, runM, atF_congr h]
/-- The rest of a word, from the places where the walk is. -/
def contM (Le Fo : List (List Int)) (La : List Int) : (Nat → Bool) → List Int → Bool
  | f, [] => lastF La f
  | f, d :: r => contM Le Fo La (atF Le (nextF Fo f) d) r
theorem run_cont (Le Fo : List (List Int)) (La : List Int) : ∀ (r : List Int) (nx : Nat → Bool) (c : Int), runM Le Fo La nx c r = contM Le Fo La (atF Le nx c) r
  | [], _, _ => rfl
  | d :: r, nx, c => by rw [runM, contM]; exact run_cont Le Fo La r _ d
/-- What Match says. -/
def matM (Le Fo : List (List Int)) (Fi La : List Int) (em : Bool) (word : List Int) : Bool :=
  soundP Le.length Fi La Fo && match word with
    | [] => em
    | c :: r => runM Le Fo La (fun q => hasL Fi (q : Int)) c r
end Go.Proofs.YtleeedjpccooaaaDoor
namespace Go.Proofs.YtleeedjpccooaaaDoor
open Go.RowKit Go.Shelf
/-- The places behind a word, begun at its beginning. -/
def stp (p : Pt) (S : Nat → Bool) (d : Nat) : Nat → Bool := fun x => fol1 p S x && (p.le.getD x []).contains d
def pth (p : Pt) : List Nat → Nat → Bool
  | [] => fun _ => false
  | c :: r => r.foldl (stp p) (lc0 p c)
theorem pth_snoc (p : Pt) {w : List Nat} (hw : w ≠ []) (c : Nat) : pth p (w ++ [c]) = stp p (pth p w) c := by
  cases w with
  | nil => exact absurd rfl hw
  | cons d r => rw [List.cons_append, pth, pth, List.foldl_append]; rfl
theorem fol1_iff (p : Pt) (S : Nat → Bool) (x : Nat) : fol1 p S x = true ↔ ∃ y, y < p.le.length ∧ S y = true ∧ (p.fo.getD y []).contains x = true := by
  unfold fol1
  rw [List.any_eq_true]
  constructor
  · rintro ⟨y, h1, h2⟩
    rw [Bool.and_eq_true] at h2
    exact ⟨y, List.mem_range.1 h1, h2⟩
  · rintro ⟨y, h1, h2⟩
    exact ⟨y, List.mem_range.2 h1, by rw [Bool.and_eq_true]; exact h2⟩
/-- A place is reached by a piece at the word's end. -/
theorem loc_pth (p : Pt) : ∀ (n : Nat) (w : List Nat), w.length = n + 1 → ∀ x, loc p w x = true ↔ ∃ f, f < w.length ∧ (f = 0 ∨ p.an = false) ∧ pth p (w.drop f) x = true := by
  intro n
  induction n with
  | zero =>
    intro w hw x
    match w, hw with
    | [c], _ =>
      constructor
      · intro h; exact ⟨0, by simp, .inl rfl, h⟩
      · rintro ⟨f, h1, _, h3⟩
        obtain rfl : f = 0 := by simpa using h1
        exact h3
  | succ n ih =>
    intro w hw x
    have hw0 : w ≠ [] := by rintro rfl; simp at hw
    obtain ⟨v, d, rfl⟩ : ∃ v d, w = v ++ [d] := ⟨w.dropLast, w.getLast hw0, (List.dropLast_concat_getLast hw0).symm⟩
    have hv : v.length = n + 1 := by rw [List.length_append, List.length_singleton] at hw; omega
    have hv0 : v ≠ [] := by rintro rfl; simp at hv
    have ih' := ih v hv
    have hdr : ∀ f, f < v.length → (v ++ [d]).drop f = v.drop f ++ [d] := fun f hf => List.drop_append_of_le_length (by omega)
    have hdn : ∀ f, f < v.length → v.drop f ≠ [] := fun f hf e => by
      have := congrArg List.length e
      rw [List.length_drop] at this
      simp at this
      omega
    rw [loc_snoc p hv0]
    unfold lcS
    rw [Bool.and_eq_true, Bool.or_eq_true, Bool.and_eq_true, Bool.not_eq_true', fol1_iff]
    constructor
    · rintro ⟨⟨h1, h2⟩ | ⟨y, h1, h2, h3⟩, h4⟩
      · refine ⟨v.length, by rw [List.length_append, List.length_singleton]; omega, .inr h1, ?_⟩
        rw [List.drop_left]
        show lc0 p d x = true
        unfold lc0
        rw [h2, h4]; rfl
      · obtain ⟨f, g1, g2, g3⟩ := (ih' y).1 h2
        refine ⟨f, by rw [List.length_append, List.length_singleton]; omega, g2, ?_⟩
        rw [hdr f g1, pth_snoc p (hdn f g1)]
        unfold stp
        rw [Bool.and_eq_true, fol1_iff]
        exact ⟨⟨y, h1, g3, h3⟩, h4⟩
    · rintro ⟨f, g1, g2, g3⟩
      by_cases hf : f < v.length
      · rw [hdr f hf, pth_snoc p (hdn f hf)] at g3
        unfold stp at g3
        rw [Bool.and_eq_true, fol1_iff] at g3
        obtain ⟨⟨y, h1, h2, h3⟩, h4⟩ := g3
        exact ⟨.inr ⟨y, h1, (ih' y).2 ⟨f, hf, g2, h2⟩, h3⟩, h4⟩
      · rw [List.length_append, List.length_singleton] at g1
        obtain rfl : f = v.length := by omega
        rw [List.drop_left] at g3
        have g4 : lc0 p d x = true := g3
        unfold lc0 at g4
        rw [Bool.and_eq_true] at g4
        refine ⟨.inl ⟨?_, g4.1⟩, g4.2⟩
        rcases g2 with g2 | g2
        · omega
        · exact g2
/-- Match of a pattern as it comes. -/
theorem hasL_tN {l : List Int} (h : ∀ x ∈ l, 0 ≤ x) (z : Nat) : hasL l (z : Int) = (tN l).contains z := by
  unfold hasL tN
  rw [Bool.eq_iff_iff, List.any_eq_true, List.contains_iff_mem, List.mem_map]
  constructor
  · rintro ⟨x, hx, e⟩
    have e2 : x = (z : Int) := by simpa using e
    exact ⟨x, hx, by omega⟩
  · rintro ⟨x, hx, e⟩
    have := h x hx
    exact ⟨x, hx, by simp; omega⟩
theorem getD_map_tN (L : List (List Int)) (x : Nat) : (L.map tN).getD x [] = tN (L.getD x []) := by
  rw [List.getD_eq_getElem?_getD, List.getD_eq_getElem?_getD, List.getElem?_map]
  cases L[x]? <;> rfl
theorem nonneg_getD {L : List (List Int)} (h : ∀ l ∈ L, ∀ x ∈ l, 0 ≤ x) (k : Nat) : ∀ x ∈ L.getD k [], 0 ≤ x := by
  rw [List.getD_eq_getElem?_getD]
  by_cases hk : k < L.length
  · rw [List.getElem?_eq_getElem hk]; exact h _ (List.getElem_mem hk)
  · rw [List.getElem?_eq_none (by omega)]; intro x hx; cases hx
section
variable {r : Pr} {sy : Nat}
theorem at_stp (h : PrOk r sy) (S : Nat → Bool) (d : Nat) : atF r.Le (nextF r.Fo S) (d : Int) = stp (toPt r) S d := by
  funext x
  unfold atF stp nextF partF holdF fol1
  have e1 : (toPt r).le.length = r.Fo.length := by show (r.Le.map tN).length = _; rw [List.length_map, h.len]
  have e2 : (toPt r).le.getD x [] = tN (r.Le.getD x []) := getD_map_tN _ _
  rw [hasL_tN (nonneg_getD (fun l hl x hx => (h.le l hl x hx).1) x), e1, e2]
  congr 2
  funext y
  have e3 : (toPt r).fo.getD y [] = tN (r.Fo.getD y []) := getD_map_tN _ _
  rw [hasL_tN (nonneg_getD (fun l hl x hx => (h.fo l hl x hx).1) y), e3]
theorem at_lc0 (h : PrOk r sy) (c : Nat) : atF r.Le (fun q => hasL r.Fi (q : Int)) (c : Int) = lc0 (toPt r) c := by
  funext x
  unfold atF holdF lc0
  have e2 : (toPt r).le.getD x [] = tN (r.Le.getD x []) := getD_map_tN _ _
  rw [hasL_tN (nonneg_getD (fun l hl x hx => (h.le l hl x hx).1) x), e2]
  show (hasL r.Fi (x : Int) && _) = _
  rw [hasL_tN (fun x hx => (h.fi x hx).1)]
  rfl
theorem cont_fold (h : PrOk r sy) : ∀ (u : List Nat) (S : Nat → Bool), contM r.Le r.Fo r.La S (nI u) = lastF r.La (u.foldl (stp (toPt r)) S)
  | [], S => rfl
  | d :: u, S => by
    have e : nI (d :: u) = (d : Int) :: nI u := rfl
    rw [e, contM, at_stp h, cont_fold h u, List.foldl_cons]
theorem last_iff (h : PrOk r sy) (S : Nat → Bool) : lastF r.La S = true ↔ ∃ x, x < (toPt r).le.length ∧ S x = true ∧ (toPt r).la.contains x = true := by
  unfold lastF
  rw [List.any_eq_true]
  have e1 : (toPt r).le.length = r.Le.length := by show (r.Le.map tN).length = _; rw [List.length_map]
  constructor
  · rintro ⟨z, hz, e⟩
    have hb := h.la z hz
    refine ⟨z.toNat, by omega, e, ?_⟩
    rw [List.contains_iff_mem]
    show z.toNat ∈ tN r.La
    unfold tN
    exact List.mem_map_of_mem hz
  · rintro ⟨x, hx, e, hl⟩
    rw [List.contains_iff_mem] at hl
    have hl' : x ∈ tN r.La := hl
    unfold tN at hl'
    obtain ⟨z, hz, rfl⟩ := List.mem_map.1 hl'
    exact ⟨z, hz, e⟩
theorem mat_iff (h : PrOk r sy) (hs : soundP r.Le.length r.Fi r.La r.Fo = true) (u : List Nat) : matM r.Le r.Fo r.Fi r.La r.em (nI u) = true ↔ if u = [] then r.em = true else ∃ x, x < (toPt r).le.length ∧ pth (toPt r) u x = true ∧ (toPt r).la.contains x = true := by
  unfold matM
  rw [hs, Bool.true_and]
  cases u with
  | nil => rw [if_pos rfl]; rfl
  | cons c u =>
    rw [if_neg (by simp)]
    have e : nI (c :: u) = (c : Int) :: nI u := rfl
    rw [e]
    simp only
    rw [run_cont, at_lc0 h, cont_fold h, last_iff h]
    rfl
end
/-- Does a pattern end behind a word? -/
def endsF (r : Pr) (u : List Nat) : Bool := (List.range (u.length + 1)).any fun f => (decide (f = 0) || !r.an) && matM r.Le r.Fo r.Fi r.La r.em (nI (u.drop f))
theorem endsF_iff (r : Pr) (u : List Nat) : endsF r u = true ↔ ∃ f, f ≤ u.length ∧ (f = 0 ∨ r.an = false) ∧ matM r.Le r.Fo r.Fi r.La r.em (nI (u.drop f)) = true := by
  unfold endsF
  rw [List.any_eq_true]
  constructor
  · rintro ⟨f, h1, h2⟩
    rw [Bool.and_eq_true, Bool.or_eq_true, decide_eq_true_eq, Bool.not_eq_true'] at h2
    exact ⟨f, by have := List.mem_range.1 h1; omega, h2⟩
  · rintro ⟨f, h1, h2⟩
    exact ⟨f, List.mem_range.2 (by omega), by rw [Bool.and_eq_true, Bool.or_eq_true, decide_eq_true_eq, Bool.not_eq_true']; exact h2⟩
theorem rise_same : ∀ {l m : List Nat}, l.Pairwise (· < ·) → m.Pairwise (· < ·) → (∀ x, x ∈ l ↔ x ∈ m) → l = m
  | [], [], _, _, _ => rfl
  | [], y :: m, _, _, h => absurd ((h y).2 List.mem_cons_self) (by simp)
  | x :: l, [], _, _, h => absurd ((h x).1 List.mem_cons_self) (by simp)
  | x :: l, y :: m, h1, h2, h => by
    obtain ⟨a1, a2⟩ := List.pairwise_cons.1 h1
    obtain ⟨b1, b2⟩ := List.pairwise_cons.1 h2
    have hxy : x = y := by
      rcases List.mem_cons.1 ((h x).1 List.mem_cons_self) with e | e
      · exact e
      · rcases List.mem_cons.1 ((h y).2 List.mem_cons_self) with e2 | e2
        · exact e2.symm
        · have := b1 x e
          have := a1 y e2
          omega
    subst hxy
    rw [rise_same a2 b2 (fun z => ?_)]
    constructor
    · intro hz
      rcases List.mem_cons.1 ((h z).1 (List.mem_cons_of_mem _ hz)) with e | e
      · have := a1 z hz; omega
      · exact e
    · intro hz
      rcases List.mem_cons.1 ((h z).2 (List.mem_cons_of_mem _ hz)) with e | e
      · have := b1 z hz; omega
      · exact e
/-- The patterns that end behind a word. -/
def wantF (rs : List Pr) (u : List Nat) : List Nat := (List.range rs.length).filter fun k => match rs[k]? with | none => false | some r => endsF r u
theorem mem_wantF (rs : List Pr) (u : List Nat) (k : Nat) : k ∈ wantF rs u ↔ ∃ h : k < rs.length, endsF rs[k] u = true := by
  unfold wantF
  rw [List.mem_filter, List.mem_range]
  constructor
  · rintro ⟨h1, h2⟩
    rw [List.getElem?_eq_getElem h1] at h2
    exact ⟨h1, h2⟩
  · rintro ⟨h1, h2⟩
    exact ⟨h1, by rw [List.getElem?_eq_getElem h1]; exact h2⟩
theorem wantF_rise (rs : List Pr) (u : List Nat) : (wantF rs u).Pairwise (· < ·) := (List.pairwise_lt_range).filter _
/-- All patterns are in order. -/
structure AllOk (rs : List Pr) (sy : Nat) : Prop where
  ok : ∀ r ∈ rs, PrOk r sy
  so : ∀ r ∈ rs, soundP r.Le.length r.Fi r.La r.Fo = true
section
variable {rs : List Pr} {sy most : Nat} {b : Bs}
/-- Behind a word of one symbol or more. -/
theorem out_word (ha : AllOk rs sy) (hall : mAll rs sy most = some b) (_hsy : sy ≤ 16384) (hpl : plN (rs.map toPt) (rs.map toPt).length ≤ 10000000) {w : List Nat} (hw : w ≠ []) {i : Nat} (hi : i < b.gs.length)
    (hst : ∀ q, q < 64 * mWd rs → stS (bFs (mJ rs) (mWd rs) sy) b (i + 1) q = act (mJ rs) (mWd rs) w q) : b.ou[i + 1]? = some (wantF rs w) := by
  have hp : ∀ p ∈ rs.map toPt, PtOk sy p := fun p hp => by
    obtain ⟨r, hr, rfl⟩ := List.mem_map.1 hp
    exact (ha.ok r hr).pt
  have hN : plN (rs.map toPt) (rs.map toPt).length ≤ 64 * mWd rs := by unfold mWd; omega
  have hJ : JnOk (mJ rs) sy (mWd rs) := jAcc_ok hp hN _ (Nat.le_refl _)
  have hown : (mJ rs).own.length = plN (rs.map toPt) (rs.map toPt).length := jAcc_own hp _ (Nat.le_refl _)
  have hlen : (rs.map toPt).length = rs.length := List.length_map _
  obtain ⟨o, h1, h2⟩ := st_out hJ (by rw [hown]; exact hpl) hall hi
  have hr := mAll_ris ha.ok hall o (List.mem_of_getElem? h1)
  rw [h1]
  congr 1
  refine rise_same hr.1 (wantF_rise rs w) (fun k => ?_)
  rw [h2, mem_wantF]
  have hem := (jAcc_em (rs.map toPt) (rs.map toPt).length (Nat.le_refl _) k).2
  have hat := jAcc_at hp hN (rs.map toPt).length (Nat.le_refl _)
  have hwl : 0 < w.length := by cases w with | nil => exact absurd rfl hw | cons _ _ => simp
  have hpk : ∀ (h : k < rs.length) (h' : k < (rs.map toPt).length), (rs.map toPt)[k] = toPt rs[k] := fun h h' => by rw [List.getElem_map]
  constructor
  · rintro (h | ⟨q, hq, hS, hla, hok⟩)
    · obtain ⟨_, h3, h4, h5⟩ := hem.1 h
      have h3' : k < rs.length := by omega
      rw [hpk h3' h3] at h4 h5
      refine ⟨h3', (endsF_iff _ _).2 ⟨w.length, Nat.le_refl _, .inr h5, ?_⟩⟩
      rw [mat_iff (ha.ok _ (List.getElem_mem h3')) (ha.so _ (List.getElem_mem h3')), List.drop_length, if_pos rfl]
      exact h4
    · have hql := hJ.la' q hla
      rw [hown] at hql
      obtain ⟨k', g1, g2, x, g3, rfl⟩ := plN_cover (ps := rs.map toPt) _ (Nat.le_refl _) q hql
      have a := hat k' g1 g2 x g3
      have ek : k' = k := by
        have e := a.own
        rw [List.getD_eq_getElem?_getD] at hok
        have e' : (mJ rs).own[plN (rs.map toPt) k' + x]? = some k' := e
        rw [e'] at hok
        exact hok
      subst ek
      have g2' : k' < rs.length := by omega
      have hS2 := (hst _ hq).symm.trans hS
      have hS3 : loc (rs.map toPt)[k'] w x = true := (act_at hp hN w g2 g3).symm.trans hS2
      have hla2 := a.la.symm.trans hla
      rw [hpk g2' g2] at hS3 hla2 g3
      obtain ⟨f, f1, f2, f3⟩ := (loc_pth _ (w.length - 1) w (by omega) x).1 hS3
      refine ⟨g2', (endsF_iff _ _).2 ⟨f, by omega, f2, ?_⟩⟩
      rw [mat_iff (ha.ok _ (List.getElem_mem g2')) (ha.so _ (List.getElem_mem g2')), if_neg (fun e => by
        have := congrArg List.length e
        rw [List.length_drop] at this
        simp at this
        omega)]
      exact ⟨x, g3, f3, hla2⟩
  · rintro ⟨h3', he⟩
    have h3 : k < (rs.map toPt).length := by omega
    obtain ⟨f, f1, f2, f3⟩ := (endsF_iff _ _).1 he
    rw [mat_iff (ha.ok _ (List.getElem_mem h3')) (ha.so _ (List.getElem_mem h3'))] at f3
    by_cases hf : f = w.length
    · subst hf
      rw [List.drop_length, if_pos rfl] at f3
      left
      refine hem.2 ⟨h3, h3, ?_⟩
      rw [hpk h3' h3]
      exact ⟨f3, f2.resolve_left (by omega)⟩
    · rw [if_neg (fun e => by
        have := congrArg List.length e
        rw [List.length_drop] at this
        simp at this
        omega)] at f3
      obtain ⟨x, x1, x2, x3⟩ := f3
      have x1' : x < ((rs.map toPt)[k]).le.length := by rw [hpk h3' h3]; exact x1
      have a := hat k h3 h3 x x1'
      have hlt : plN (rs.map toPt) k + x < (mJ rs).own.length := (List.getElem?_eq_some_iff.1 a.own).1
      right
      refine ⟨plN (rs.map toPt) k + x, by omega, ?_, ?_, ?_⟩
      · rw [hst _ (by omega)]
        refine (act_at hp hN w h3 x1').trans ?_
        rw [hpk h3' h3]
        exact (loc_pth _ (w.length - 1) w (by omega) x).2 ⟨f, by omega, f2, x2⟩
      · refine a.la.trans ?_
        rw [hpk h3' h3]
        exact x3
      · have e' : (mJ rs).own[plN (rs.map toPt) k + x]? = some k := a.own
        rw [List.getD_eq_getElem?_getD, e']
        rfl
/-- Behind the empty word. -/
theorem out_none (ha : AllOk rs sy) (hall : mAll rs sy most = some b) : b.ou[0]? = some (wantF rs []) := by
  have hT := bRun_t hall
  rw [hT.ou]
  show some (mJ rs).at0 = _
  congr 1
  have hr := mAll_ris ha.ok hall (mJ rs).at0 (by rw [hT.ou]; exact List.mem_cons_self)
  refine rise_same hr.1 (wantF_rise rs []) (fun k => ?_)
  have hlen : (rs.map toPt).length = rs.length := List.length_map _
  have hem := (jAcc_em (rs.map toPt) (rs.map toPt).length (Nat.le_refl _) k).1
  rw [mem_wantF]
  constructor
  · intro h
    obtain ⟨_, h3, h4⟩ := hem.1 h
    have h3' : k < rs.length := by omega
    rw [List.getElem_map] at h4
    refine ⟨h3', (endsF_iff _ _).2 ⟨0, Nat.le_refl _, .inl rfl, ?_⟩⟩
    rw [mat_iff (ha.ok _ (List.getElem_mem h3')) (ha.so _ (List.getElem_mem h3')), if_pos (by simp)]
    exact h4
  · rintro ⟨h3', he⟩
    obtain ⟨f, f1, f2, f3⟩ := (endsF_iff _ _).1 he
    have h3 : k < (rs.map toPt).length := by omega
    rw [mat_iff (ha.ok _ (List.getElem_mem h3')) (ha.so _ (List.getElem_mem h3')), if_pos (by simp)] at f3
    refine hem.2 ⟨h3, h3, ?_⟩
    rw [List.getElem_map]
    exact f3
end
end Go.Proofs.YtleeedjpccooaaaDoor
namespace Go.Proofs.YtleeedjpccooaaaDoor
theorem goF_acc (N : List (List Int)) : ∀ (l acc : List Int) (s : Nat), goF N acc s l = (goF N [] s l).map (acc ++ ·) := by
  intro l
  induction l with
  | nil => intro acc s; rw [goF, goF, Option.map_some, List.append_nil]
  | cons z l ih =>
    intro acc s
    rw [goF, goF]
    split
    · rfl
    · rw [ih (acc ++ _), ih ([] ++ _), Option.map_map]
      congr 1
      funext r
      simp
theorem runF_nat {N : List (List Int)} {s : Nat} (h : s < N.length) (l : List Int) : runF N (s : Int) l = (goF N [] s l).map ((s : Int) :: ·) := by
  unfold runF
  rw [if_pos ((oneOf_iff _ _).2 ⟨by omega, by omega⟩), goF_acc, Int.toNat_natCast]
  rfl
theorem stepF_lt {N : List (List Int)} {s p : Nat} {z : Int} (h : stepF N s z = some p) : p < N.length := by
  unfold stepF at h
  split at h
  · split at h
    · rename_i h1
      have h2 := (oneOf_iff _ _).1 h1
      injection h with h
      omega
    · cases h
  · cases h
theorem runF_cons {N : List (List Int)} {s p : Nat} {z : Int} (h : s < N.length) (hp : stepF N s z = some p) (l : List Int) : runF N (s : Int) (z :: l) = (runF N (p : Int) l).map ((s : Int) :: ·) := by
  rw [runF_nat h, runF_nat (stepF_lt hp), goF, hp, Option.map_map]
  simp only
  rw [goF_acc, Option.map_map]
  rfl
theorem runF_split {N : List (List Int)} {st z : Int} {l L : List Int} (h : runF N st (z :: l) = some L) : ∃ (s p : Nat) (L' : List Int), st = (s : Int) ∧ s < N.length ∧ p < N.length ∧ stepF N s z = some p ∧ runF N (p : Int) l = some L' ∧ L = (s : Int) :: L' := by
  cases ho : oneOf N.length st with
  | false => unfold runF at h; rw [ho] at h; cases h
  | true =>
    obtain ⟨h1, h2⟩ := (oneOf_iff _ _).1 ho
    obtain ⟨s, rfl⟩ : ∃ s : Nat, st = (s : Int) := ⟨st.toNat, by omega⟩
    have hs : s < N.length := by omega
    cases hp : stepF N s z with
    | none =>
      rw [runF_nat hs, goF, hp] at h
      cases h
    | some p =>
      rw [runF_cons hs hp] at h
      obtain ⟨L', h3, h4⟩ := Option.map_eq_some_iff.1 h
      exact ⟨s, p, L', rfl, hs, stepF_lt hp, hp, h3, h4.symm⟩
theorem runF_one {N : List (List Int)} {st : Int} {l L : List Int} (h : runF N st l = some L) : ∃ s : Nat, st = (s : Int) ∧ s < N.length ∧ ∃ t, L = (s : Int) :: t := by
  cases ho : oneOf N.length st with
  | false => unfold runF at h; rw [ho] at h; cases h
  | true =>
    obtain ⟨h1, h2⟩ := (oneOf_iff _ _).1 ho
    obtain ⟨s, rfl⟩ : ∃ s : Nat, st = (s : Int) := ⟨st.toNat, by omega⟩
    have hs : s < N.length := by omega
    rw [runF_nat hs] at h
    obtain ⟨t, _, h4⟩ := Option.map_eq_some_iff.1 h
    exact ⟨s, rfl, hs, t, h4.symm⟩
/-- A run goes on from each of its states. -/
theorem runF_at {N : List (List Int)} : ∀ (l : List Int) (st : Int) (L : List Int), runF N st l = some L → ∀ i, i ≤ l.length → ∃ s : Nat, s < N.length ∧ L[i]? = some (s : Int) ∧ runF N (s : Int) (l.drop i) = some (L.drop i) := by
  intro l
  induction l with
  | nil =>
    intro st L h i hi
    have : i = 0 := by simpa using hi
    subst this
    obtain ⟨s, rfl, hs, t, rfl⟩ := runF_one h
    exact ⟨s, hs, rfl, h⟩
  | cons z l ih =>
    intro st L h i hi
    cases i with
    | zero =>
      obtain ⟨s, rfl, hs, t, rfl⟩ := runF_one h
      exact ⟨s, hs, rfl, h⟩
    | succ i =>
      obtain ⟨s, p, L', rfl, hs, hp, h1, h2, rfl⟩ := runF_split h
      obtain ⟨q, hq, h3, h4⟩ := ih _ _ h2 i (by simpa using hi)
      exact ⟨q, hq, by simpa using h3, by simpa using h4⟩
theorem runF_take {N : List (List Int)} : ∀ (l : List Int) (st : Int) (L : List Int), runF N st l = some L → ∀ k, k ≤ l.length → runF N st (l.take k) = some (L.take (k + 1)) := by
  intro l
  induction l with
  | nil =>
    intro st L h k hk
    obtain ⟨s, rfl, hs, t, rfl⟩ := runF_one h
    have hlen := runF_len h
    have : t = [] := by simpa using hlen
    subst this
    simpa using h
  | cons z l ih =>
    intro st L h k hk
    cases k with
    | zero =>
      obtain ⟨s, rfl, hs, t, rfl⟩ := runF_one h
      rw [List.take_zero, runF_nat hs, goF]
      rfl
    | succ k =>
      obtain ⟨s, p, L', rfl, hs, hp, h1, h2, rfl⟩ := runF_split h
      rw [List.take_succ_cons, runF_cons hs h1, ih _ _ h2 k (by simpa using hk)]
      rfl
theorem runF_app {N : List (List Int)} : ∀ (a : List Int) (st : Int) (L b r : List Int) (s : Nat), runF N st a = some L → L[a.length]? = some (s : Int) → runF N (s : Int) b = some r → runF N st (a ++ b) = some (L.take a.length ++ r) := by
  intro a
  induction a with
  | nil =>
    intro st L b r s h hs hb
    obtain ⟨s0, rfl, _, t, rfl⟩ := runF_one h
    have hs2 : (s0 : Int) = (s : Int) := by simpa using hs
    have : s = s0 := by omega
    subst this
    simpa using hb
  | cons z a ih =>
    intro st L b r s h hs hb
    obtain ⟨s0, p, L', rfl, hs0, hp, h1, h2, rfl⟩ := runF_split h
    have h3 := ih _ _ b r s h2 (by simpa using hs) hb
    rw [List.cons_append, runF_cons hs0 h1, h3]
    rfl
/-- Two words behind which it is in one state go on alike. -/
theorem runF_join {N : List (List Int)} {l L : List Int} {st : Int} (h : runF N st l = some L) {k i : Nat} (hk : k ≤ l.length) (hi : i ≤ l.length) (he : L[k]? = L[i]?) : runF N st (l.take k ++ l.drop i) = some (L.take k ++ L.drop i) := by
  obtain ⟨s, hs, h1, h2⟩ := runF_at _ _ _ h i hi
  have hl := runF_len h
  have h3 := runF_app (l.take k) st (L.take (k + 1)) (l.drop i) (L.drop i) s (runF_take _ _ _ h k hk) (by
    rw [List.length_take, Nat.min_eq_left hk, List.getElem?_take, if_pos (by omega), he, h1]) h2
  rw [List.length_take, Nat.min_eq_left hk, List.take_take, Nat.min_eq_left (by omega)] at h3
  exact h3
/-- Where all rows are in order each word over the symbols is run. -/
theorem runF_some {N : List (List Int)} {sy : Int} (hN : ∀ r ∈ N, (r.length : Int) = sy ∧ ∀ x ∈ r, oneOf N.length x = true) : ∀ (l : List Int) (s : Nat), s < N.length → (∀ z ∈ l, 0 ≤ z ∧ z < sy) → ∃ L, runF N (s : Int) l = some L := by
  intro l
  induction l with
  | nil => intro s hs _; exact ⟨[(s : Int)], by rw [runF_nat hs, goF]; rfl⟩
  | cons z l ih =>
    intro s hs hz
    obtain ⟨z1, z2⟩ := hz z List.mem_cons_self
    have hg : N.getD s [] = N[s] := by rw [List.getD_eq_getElem?_getD, List.getElem?_eq_getElem hs]; rfl
    obtain ⟨r1, r2⟩ := hN _ (List.getElem_mem hs)
    have hzl : z.toNat < (N[s]).length := by omega
    have hp : stepF N s z = some ((N[s])[z.toNat]).toNat := by
      unfold stepF
      rw [hg, if_pos (by omega), List.getD_eq_getElem?_getD, List.getElem?_eq_getElem hzl]
      simp only [Option.getD_some]
      rw [if_pos (r2 _ (List.getElem_mem hzl))]
    obtain ⟨L, hL⟩ := ih _ (stepF_lt hp) (fun x hx => hz x (List.mem_cons_of_mem _ hx))
    exact ⟨(s : Int) :: L, by rw [runF_cons hs hp, hL]; rfl⟩
/-- The word over the symbols. -/
def pickN (k : Int) (n : Nat) : Nat := (if k.tmod n < 0 then k.tmod n + n else k.tmod n).toNat
theorem pickN_lt (k : Int) (n : Nat) (hn : 0 < n) : pickN k n < n := by
  have hm1 := Int.tmod_lt_of_pos k (b := (n : Int)) (by omega)
  have hm2 : -(n : Int) < k.tmod n := by
    have := Int.tmod_lt_of_pos (-k) (b := (n : Int)) (by omega)
    rw [Int.neg_tmod] at this
    omega
  unfold pickN
  split <;> omega
def wdF (sy : Nat) (l : List Int) : List Int := (l.take 14).map fun k => ((pickN k sy : Nat) : Int)
theorem wdF_len (sy : Nat) (l : List Int) : (wdF sy l).length = min 14 l.length := by unfold wdF; rw [List.length_map, List.length_take]
theorem wdF_ok {sy : Nat} (h : 0 < sy) (l : List Int) : ∀ z ∈ wdF sy l, 0 ≤ z ∧ z < (sy : Int) := fun z hz => by
  unfold wdF at hz
  obtain ⟨k, _, rfl⟩ := List.mem_map.1 hz
  have := pickN_lt k sy h
  omega
theorem wdF_snoc {sy : Nat} {l : List Int} {k : Nat} (hk : k < l.length) (h14 : k < 14) : wdF sy (l.take (k + 1)) = wdF sy (l.take k) ++ [((pickN l[k] sy : Nat) : Int)] := by
  unfold wdF
  rw [List.take_take, List.take_take, Nat.min_eq_right (by omega), Nat.min_eq_right (by omega), List.take_add_one, List.getElem?_eq_getElem hk, List.map_append]
  rfl
theorem wdF_take {sy : Nat} {l : List Int} {k : Nat} (h : 14 ≤ k ∨ l.length ≤ k) : wdF sy (l.take k) = wdF sy l := by
  unfold wdF
  rw [List.take_take]
  rcases h with h | h
  · rw [Nat.min_eq_left h]
  · congr 1
    rw [List.take_eq_take_iff]
    omega
/-- Of what Build has made. -/
theorem BldV.rows {rs : List Pr} {sy most : Int} {b : Bs} (h : BldV rs sy most b) : ∀ r ∈ b.nx.map nI, (r.length : Int) = sy ∧ ∀ x ∈ r, oneOf (b.nx.map nI).length x = true := fun r hr => by
  obtain ⟨l, hl, rfl⟩ := List.mem_map.1 hr
  obtain ⟨q1, q2⟩ := h.val.1 l hl
  refine ⟨by rw [nI_len]; exact q1, fun x hx => ?_⟩
  unfold nI at hx
  obtain ⟨y, hy, rfl⟩ := List.mem_map.1 hx
  rw [oneOf_iff, List.length_map]
  have := q2 y hy
  omega
end Go.Proofs.YtleeedjpccooaaaDoor
namespace Go.Proofs.YtleeedjpccooaaaDoor
open Go.RowKit Go.Shelf
theorem rise_oneOf : ∀ (l : List Int) (n : Nat) (lo : Int), 0 ≤ lo → riseF n lo l = true → l.all (oneOf n) = true := fun l n lo h0 h => by
  rw [List.all_eq_true]
  intro x hx
  rw [oneOf_iff]
  exact riseF_all l n lo h0 h x hx
theorem BldV.allOk {rs : List Pr} {sy most : Int} {b : Bs} (h : BldV rs sy most b) : AllOk rs sy.toNat := ⟨h.ok, fun r hr => by
  have hk := h.chk
  unfold chkA at hk
  rw [List.findSome?_eq_none_iff] at hk
  have q := hk r hr
  unfold Pr.chk chkP at q
  split at q
  · cases q
  · split at q
    · cases q
    · rename_i h2
      split at q
      · rename_i h3
        rw [Bool.and_eq_true] at h3
        have h4 := h3.2
        unfold plRise riseA at h4
        rw [Bool.and_eq_true, Bool.and_eq_true, List.all_eq_true] at h4
        unfold soundP insA
        rw [Bool.and_eq_true, Bool.and_eq_true, Bool.and_eq_true, decide_eq_true_eq]
        refine ⟨⟨⟨?_, rise_oneOf _ _ 0 (Int.le_refl _) h4.1.1⟩, rise_oneOf _ _ 0 (Int.le_refl _) h4.1.2⟩, List.all_eq_true.2 (fun l hl => rise_oneOf _ _ 0 (Int.le_refl _) (h4.2 l hl))⟩
        by_cases e : r.Fo.length = r.Le.length
        · exact e
        · exact absurd (.inr (.inr e)) h2
      · cases q⟩
theorem nI_cons (c : Nat) (l : List Nat) : nI (c :: l) = (c : Int) :: nI l := rfl
theorem nI_drop (l : List Nat) (k : Nat) : (nI l).drop k = nI (l.drop k) := by unfold nI; rw [List.map_drop]
theorem nI_take (l : List Nat) (k : Nat) : (nI l).take k = nI (l.take k) := by unfold nI; rw [List.map_take]
/-- A step of a run, in the rows as they are made. -/
theorem step_row {NX : List (List Nat)} {s c p : Nat} (h : stepF (NX.map nI) s (c : Int) = some p) : ∃ l, NX[s]? = some l ∧ l[c]? = some p := by
  unfold stepF at h
  split at h
  · rename_i h1
    split at h
    · injection h with h
      have hs : s < NX.length := by
        by_cases hs : s < NX.length
        · exact hs
        · rw [List.getD_eq_getElem?_getD, List.getElem?_eq_none (by rw [List.length_map]; omega)] at h1
          simp at h1
          omega
      have e : (NX.map nI).getD s [] = nI NX[s] := by rw [List.getD_eq_getElem?_getD, List.getElem?_map, List.getElem?_eq_getElem hs]; rfl
      rw [e] at h h1
      rw [nI_len] at h1
      have hc : c < (NX[s]).length := by omega
      refine ⟨NX[s], List.getElem?_eq_getElem hs, ?_⟩
      rw [List.getElem?_eq_getElem hc]
      congr 1
      rw [Int.toNat_natCast, List.getD_eq_getElem?_getD, List.getElem?_eq_getElem (by rw [nI_len]; exact hc), Option.getD_some] at h
      have e2 : (nI NX[s])[c]'(by rw [nI_len]; exact hc) = (((NX[s])[c] : Nat) : Int) := by unfold nI; rw [List.getElem_map]
      rw [e2] at h
      omega
    · cases h
  · cases h
/-- What the machine tells behind each beginning of a word. -/
theorem out_run {rs : List Pr} {sy most : Int} {b : Bs} (hv : BldV rs sy most b) (hpl : plN (rs.map toPt) (rs.map toPt).length ≤ 10000000) {w : List Nat} (hw : ∀ c ∈ w, c < sy.toNat) {L : List Int} (hL : runF (b.nx.map nI) 0 (nI w) = some L) :
    ∀ i, i ≤ w.length → ∃ t : Nat, L[i]? = some (t : Int) ∧ b.ou[t]? = some (wantF rs (w.take i)) ∧ ((i = 0 ∧ t = 0) ∨ (0 < i ∧ ∃ m, t = m + 1 ∧ m < b.gs.length ∧ ∀ q, q < 64 * mWd rs → stS (bFs (mJ rs) (mWd rs) sy.toNat) b (m + 1) q = act (mJ rs) (mWd rs) (w.take i) q)) := by
  have ha := hv.allOk
  have hs2 := hv.s2
  have hp : ∀ p ∈ rs.map toPt, PtOk sy.toNat p := fun p hp => by
    obtain ⟨r, hr, rfl⟩ := List.mem_map.1 hp
    exact (ha.ok r hr).pt
  have hN : plN (rs.map toPt) (rs.map toPt).length ≤ 64 * mWd rs := by unfold mWd; omega
  have hNs : mWd rs ≤ 1000000 := by unfold mWd; omega
  have hJ : JnOk (mJ rs) sy.toNat (mWd rs) := jAcc_ok hp hN _ (Nat.le_refl _)
  have hown : (mJ rs).own.length ≤ 10000000 := by
    have e : (mJ rs).own.length = plN (rs.map toPt) (rs.map toPt).length := jAcc_own hp _ (Nat.le_refl _)
    rw [e]; exact hpl
  have hall : bAll (mJ rs) (mWd rs) sy.toNat (min most.toNat (4194304 / sy.toNat)) = some b := hv.all
  intro i
  induction i with
  | zero =>
    intro _
    obtain ⟨s, hs, _, t, rfl⟩ := runF_one hL
    have : s = 0 := by omega
    subst this
    exact ⟨0, rfl, by rw [List.take_zero]; exact out_none ha hv.all, .inl ⟨rfl, rfl⟩⟩
  | succ i ih =>
    intro hi
    obtain ⟨s, h1, h2, h3⟩ := ih (by omega)
    have hwi : i < w.length := hi
    obtain ⟨s', hs', g1, g2⟩ := runF_at _ _ _ hL i (by rw [nI_len]; omega)
    have ess : s' = s := by
      rw [h1] at g1
      injection g1 with g1
      omega
    subst ess
    rw [nI_drop, List.drop_eq_getElem_cons hwi, nI_cons] at g2
    obtain ⟨s2, p, L', e1, _, hp2, k1, k2, k3⟩ := runF_split g2
    have es2 : s2 = s' := by omega
    subst es2
    obtain ⟨l, q1, q2⟩ := step_row k1
    have hc := hw _ (List.getElem_mem hwi)
    obtain ⟨m, rfl, hm, hst⟩ := st_step hJ hNs (by omega) hown hall q1 hc q2
    obtain ⟨p', e3, _, t', ht'⟩ := runF_one k2
    have hLi : L[i + 1]? = some ((m + 1 : Nat) : Int) := by
      have e4 : (L.drop i)[1]? = L[i + 1]? := List.getElem?_drop
      rw [← e4, k3, ht', List.getElem?_cons_succ, List.getElem?_cons_zero, ← e3]
    have hact : ∀ q, q < 64 * mWd rs → stS (bFs (mJ rs) (mWd rs) sy.toNat) b (m + 1) q = act (mJ rs) (mWd rs) (w.take (i + 1)) q := fun q hq => by
      rw [hst q hq, List.take_add_one, List.getElem?_eq_getElem hwi, Option.toList_some]
      rcases h3 with ⟨rfl, rfl⟩ | ⟨h0, m0, rfl, _, hS⟩
      · rw [if_pos rfl, List.take_zero]
        rfl
      · rw [if_neg (by omega), act_snoc _ _ (fun e => by
          have := congrArg List.length e
          rw [List.length_take, List.length_nil] at this
          omega)]
        unfold acF
        rw [folF_congr hS]
    have hne : w.take (i + 1) ≠ [] := fun e => by
      have := congrArg List.length e
      rw [List.length_take, List.length_nil] at this
      omega
    exact ⟨m + 1, hLi, out_word ha hv.all (by omega) hpl hne hm hact, .inr ⟨Nat.succ_pos _, m, rfl, hm, hact⟩⟩
end Go.Proofs.YtleeedjpccooaaaDoor
namespace Go.Proofs.YtleeedjpccooaaaDoor
open Go.RowKit Go.Shelf
theorem OwnI.cap {w : World} {base : Nat} {v : Value} {L : List Int} (h : OwnI w base v L) : ∃ a cap, v = .slice a L.length cap ∧ IA w a L ∧ L.length ≤ cap ∧ (a = none → cap = 0) := by
  have h0 := h
  rcases h.2 with ⟨rfl, hn⟩ | ⟨g, cap, cur, rfl, hg, hr, hc, _⟩
  · exact ⟨none, 0, by rw [hn], ⟨fun k hk => by omega⟩, by omega, fun _ => rfl⟩
  · refine ⟨_, cap, rfl, ⟨fun k hk => ⟨g, 0, rfl, (World.ownsRow.lt h0 g rfl).2, ?_⟩⟩, hc, fun e => by cases e⟩
    have := World.ownsRow.cellAt h0 k (by omega)
    rw [Nat.zero_add, this]
    simp [hk]
theorem OwnI.box {w : World} {base : Nat} {v : Value} {L : List Int} (h : OwnI w base v L) (hl : 0 < L.length) : ∃ T cap, v = .slice (some ⟨T, 0, none⟩) L.length cap ∧ L.length ≤ cap ∧ IA w (some ⟨T, 0, none⟩) L := by
  have h0 := h
  rcases h.2 with ⟨rfl, hn⟩ | ⟨g, cap, cur, rfl, hg, hr, hc, _⟩
  · omega
  · refine ⟨g, cap, rfl, hc, ⟨fun k hk => ⟨g, 0, rfl, (World.ownsRow.lt h0 g rfl).2, ?_⟩⟩⟩
    have := World.ownsRow.cellAt h0 k (by omega)
    rw [Nat.zero_add, this]
    simp [hk]
/-- From a place on. -/
theorem IA.tail {w : World} {a : Option Addr} {L : List Int} (h : IA w a L) {c i : Nat} (hc : L.length ≤ c) (hi : i ≤ L.length) : IA w (if c = i then a else a.map (fun x => x.add i)) (L.drop i) := ⟨fun k hk => by
  rw [List.length_drop] at hk
  obtain ⟨b, off, rfl, h1, h2⟩ := h.at' (i + k) (by omega)
  rw [if_neg (by omega)]
  refine ⟨b, off + i, by rw [Option.map_some, Addr.add_lit], h1, ?_⟩
  rw [Nat.add_assoc, h2]
  congr 2
  rw [List.getElem_drop]⟩
theorem IA.head {w : World} {a : Option Addr} {L : List Int} (h : IA w a L) (k : Nat) : IA w a (L.take k) := ⟨fun j hj => by
  rw [List.length_take] at hj
  obtain ⟨b, off, rfl, h1, h2⟩ := h.at' j (by omega)
  refine ⟨b, off, rfl, h1, ?_⟩
  rw [h2]
  congr 2
  rw [List.getElem_take]⟩
theorem own_empty (w : World) (base : Nat) (h : base ≤ w.heap.size) : OwnI (w.alloc (.cells #[] 3)) base (.slice (some ⟨w.heap.size, 0, none⟩) 0 0) [] :=
  ⟨rfl, .inr ⟨w.heap.size, 0, #[], rfl, h, heap_alloc_new w _, Nat.le_refl _, by decide, rfl, rfl⟩⟩
theorem grown_bel {w0 w w' : World} {v : Value} {L : List Int} (h : Below w0.heap.size w0 w) (ho : OwnI w w0.heap.size v L) (hg : w.grownBy w' v.ownBlock) : Below w0.heap.size w0 w' := h.grown hg h.size (fun k hk => (World.ownsRow.lt ho k hk).1)
/-- An append of numbers behind a list of one's own, as one step of a region that draws its order. -/
theorem step_spreadO {ops : Array Oper} {o : Oper} {a : Act} {w : World} {K : Act → World → Prop} {Q : Exit → Act → World → Prop} {E : Prop} (hg : o.guard = none) (s x : Operand)
    (ho : o.op = .call { callee := .builtin .append, args := #[s, x], argTypes := #[34, 34] })
    (base : Nat) (v : Value) (L0 : List Int) (ad : Addr) (m c : Nat) (L : List Int) (hs : a.eval s = v) (hown : OwnI w base v L0) (hx : a.eval x = .slice (some ad) m c) (hm : m = L.length) (ha : IA w (some ad) L) (hb : base ≤ w.heap.size) (hsz : L0.length + L.length ≤ 1000000)
    (h : ∀ v' w', OwnI w' base v' (L0 ++ L) → w.grownBy w' v.ownBlock → K (a.put o.dst v') w') :
    if Region.wanted o (yielded ops a.tmps) = true then Oper.wp Tryd.prog o a w K Q else E := by
  obtain ⟨i0, hi, hz0, hz1, hz2⟩ := info_parts infoInt
  subst hm
  refine step_append_own_at hg s x 34 ho base 3 i0 (.int .i64 0) 1 8 Tryd.underlying34 hi hz0 hz1 hz2 rfl (by decide) v L0.length (L0.map (Value.int .i64)) hs hown ad L.length c (L.map (Value.int .i64)) hx (by simp) (fun j u hu => ?_) (fun u hu => by obtain ⟨y, _, rfl⟩ := List.mem_map.1 hu; rfl) (by unfold maxLen; omega) (by omega) hb (fun v' w' h1 h2 _ => h v' w' ?_ h2)
  · have hj : j < L.length := by have := (List.getElem?_eq_some_iff.1 hu).1; simpa using this
    obtain ⟨b, off, e, h1, h2⟩ := ha.at' j hj
    cases e
    rw [Addr.add_mid, h2]
    have : (L.map (Value.int .i64))[j]? = some (.int .i64 L[j]) := by simp [hj]
    rw [this] at hu
    exact hu
  · unfold OwnI
    rw [List.length_append, List.map_append]
    exact h1
end Go.Proofs.YtleeedjpccooaaaDoor
namespace Go.Proofs.YtleeedjpccooaaaDoor
open Go.RowKit Go.Shelf
set_option maxRecDepth 10000 in
set_option maxHeartbeats 400000 in
theorem pick_at (k : Int) (n : Nat) (hn : 0 < n) (hn2 : n ≤ 2000000) (w : World) :
    Calls Tryd.prog 34 #[.int .i64 k, .int .i64 (n : Int)] w fun e w' => e = .returned (.int .i64 (pickN k n : Nat)) ∧ w' = w := by
  have hm1 := Int.tmod_lt_of_pos k (b := (n : Int)) (by omega)
  have hm2 : -(n : Int) < k.tmod n := by
    have := Int.tmod_lt_of_pos (-k) (b := (n : Int)) (by omega)
    rw [Int.neg_tmod] at this
    omega
  have hz : ((n : Int) == 0) = false := by simp; omega
  have hz2 : ¬ (n : Int) = 0 := by omega
  have hz3 : ¬ (n : Int) < 1 := by omega
  by_cases hneg : k.tmod n < 0
  · have HE : Hid (((pickN k n : Nat) : Int) = k.tmod n + n) := hid0 (by rw [pickN, if_pos hneg]; omega)
    go_enter Tryd.func34, Tryd.ntmps34
    go_wp2
    go_ret
    exact ⟨by rw [HE.out]; rfl, rfl⟩
  · have HE : Hid (((pickN k n : Nat) : Int) = k.tmod n) := hid0 (by rw [pickN, if_neg hneg]; omega)
    go_enter Tryd.func34, Tryd.ntmps34
    go_wp2
    go_ret
    exact ⟨by rw [HE.out]; rfl, rfl⟩
theorem bel_drew {B : Nat} {w a : World} (h : Below B w a) : Below B w a.drew := ⟨h.os, h.tape, h.output, h.size, h.block⟩
theorem IA.cellAt {w : World} {b off : Nat} {L : List Int} (h : IA w (some ⟨b, off, none⟩) L) {k : Nat} (hk : k < L.length) : w.cell? ⟨b, off + k, none⟩ = some (.int .i64 L[k]) := by
  obtain ⟨b', off', e, _, h2⟩ := h.at' k hk
  simp only [Option.some.injEq, Addr.mk.injEq, and_true] at e
  obtain ⟨rfl, rfl⟩ := e
  exact h2
theorem row3d {W : World} {X : Nat} {t : TypeId} {a b c : Value} (h : W.heap[X]? = some (.cells #[a, b, c] t (0, 0))) : W.cell? ⟨X, 0, none⟩ = some a ∧ W.cell? ⟨X, 1, none⟩ = some b ∧ W.cell? ⟨X, 2, none⟩ = some c :=
  ⟨by rw [cell_of_row _ _ _ _ _ _ h]; rfl, by rw [cell_of_row _ _ _ _ _ _ h]; rfl, by rw [cell_of_row _ _ _ _ _ _ h]; rfl⟩
set_option maxRecDepth 10000 in
set_option maxHeartbeats 1600000 in
theorem word_any (sy : Nat) (l : List Int) (aP aW : Option Addr) (nP cP cW : Nat) (w : World) (h0 : 0 < sy) (h1 : sy ≤ 2000000) (hW : IA w aW l) :
    Calls Tryd.prog 12 #[.agg #[.slice aP nP cP, .int .i64 (sy : Int), .slice aW l.length cW]] w fun e w' => ∃ v, e = .returned v ∧ Hid (OwnI w' w.heap.size v (wdF sy l)) ∧ Hid (Below w.heap.size w w') := by
  obtain ⟨w0, hw0⟩ : ∃ w0, w0 = w.alloc (.cells #[.slice aP nP cP, .int .i64 (sy : Int), .slice aW l.length cW] 38) := ⟨_, rfl⟩
  have hb0 : Below w.heap.size w w0 := by rw [hw0]; exact (Below.refl _ _).alloc (Nat.le_refl _) _
  have hr0 : w0.heap[w.heap.size]? = some (.cells #[.slice aP nP cP, .int .i64 (sy : Int), .slice aW l.length cW] 38 (0, 0)) := by rw [hw0]; exact heap_alloc_new w _
  have HX : Hid (∀ V, Below w0.heap.size w0 V → (V.cell? ⟨w.heap.size, 0, none⟩ = some (.slice aP nP cP) ∧ V.cell? ⟨w.heap.size, 1, none⟩ = some (.int .i64 (sy : Int)) ∧ V.cell? ⟨w.heap.size, 2, none⟩ = some (.slice aW l.length cW)) ∧ IA V aW l) := hid0 (fun V hV => ⟨row3d ((hV.block _ (Array.getElem?_eq_some_iff.1 hr0).1).trans hr0), hW.past (Below.later hb0 hV)⟩)
  have HB0 := hid0 hb0
  have hfold := hw0.symm
  have hsyI : (sy : Int) > 0 := by omega
  obtain ⟨n, hn⟩ : ∃ n, n = l.length := ⟨_, rfl⟩
  have HLn0 := hid0 hn
  rw [← hn] at hfold ⊢
  clear hw0 hr0 hb0 hW hn
  go_enter Tryd.func12, Tryd.ntmps12
  go_wp2
  go_loopw [3, 4] (fun v i wr => ∃ k : Nat, k ≤ 14 ∧ k ≤ n ∧ i = .int .i64 (k : Int) ∧ Hid (OwnI wr w0.heap.size v (wdF sy (l.take k))) ∧ Hid (Below w0.heap.size w0 wr)) (fun _ i _ => 14 - (intOf i).toNat)
  case atStart => exact ⟨0, by decide, Nat.zero_le _, rfl, hid0 (World.ownsRow_nil _ _ _ _), hid0 (Below.refl _ _)⟩
  case round =>
    obtain ⟨k, hk14, hkn, rfl, HO, HB⟩ := hrel
    obtain ⟨⟨x0, x1, x2⟩, i2⟩ := HX.out wr HB.out
    rw [← HLn0.out] at x2
    by_cases hlt : k < n
    · have hlt' : k < l.length := by rw [← HLn0.out]; exact hlt
      obtain ⟨b, off, rfl, _, d⟩ := i2.at' k hlt'
      have hkI : (k : Int) < (n : Int) := by omega
      have hkI0 : (0 : Int) ≤ (k : Int) := by omega
      by_cases h14 : k < 14
      · have hkJ : (k : Int) < 14 := by omega
        have HSn : Hid (wdF sy (l.take (k + 1)) = wdF sy (l.take k) ++ [((pickN l[k] sy : Nat) : Int)]) := hid0 (wdF_snoc hlt' h14)
        have HP := hid0 (fun W => pick_at l[k] sy h0 h1 W)
        have HXX : Hid (∀ V, Below w0.heap.size w0 V → V.cell? ⟨w.heap.size, 1, none⟩ = some (.int .i64 (sy : Int)) ∧ V.cell? ⟨w.heap.size, 2, none⟩ = some (.slice (some ⟨b, off, none⟩) n cW) ∧ V.cell? ⟨b, off + k, none⟩ = some (.int .i64 l[k])) := hid0 (fun V hV => by
          obtain ⟨⟨_, q1, q2⟩, q3⟩ := HX.out V hV
          rw [← HLn0.out] at q2
          exact ⟨q1, q2, q3.cellAt hlt'⟩)
        have HLn : Hid (k = (wdF sy (l.take k)).length) := hid0 (by rw [wdF_len, List.length_take]; omega)
        have HOd : Hid (OwnI wr.drew w0.heap.size u3 (wdF sy (l.take k))) := hid0 HO.out
        have HOk : Hid (wr.drew.ownsRow w0.heap.size 3 1 u3 k ((wdF sy (l.take k)).map (Value.int .i64))) := hid0 (by
          have h := HO.out
          unfold OwnI at h
          rw [← HLn.out] at h
          exact h)
        have hszw := HB.out.size
        clear i2
        generalize l[k] = z at *
        obtain ⟨pk, hpk⟩ : ∃ pk, pk = pickN z sy := ⟨_, rfl⟩
        rw [← hpk] at HP HSn
        clear hpk HO
        obtain ⟨i0, hi, hz0, hz1, hz2⟩ := info_parts infoInt
        go_wp2_with fail
        refine wp_region_noPanic ?_
        refine wp_region_held_drew (S := fun W => W.cell? ⟨w.heap.size, 1, none⟩ = some (.int .i64 (sy : Int)) ∧ W.cell? ⟨w.heap.size, 2, none⟩ = some (.slice (some ⟨b, off, none⟩) n cW) ∧ W.cell? ⟨b, off + k, none⟩ = some (.int .i64 z)) (by kernel_rfl) ?_ (fun hHeld => ?_)
        · exact HXX.out _ (bel_drew HB.out)
        refine tkV (i := 0) (d := some 21) (v := ?_) rfl (by kernel_rfl) (by kernel_rfl) (by kernel_rfl) rfl (fun _ _ _ h => h) (by rfl) ?_ (by assumption) ?_
        rotate_left
        · (intro w hSw; (try dsimp only at hSw); (try simp only [List.getElem_toArray, List.getElem_cons_zero]); go_simp; try with_reducible rfl)
        try simp only [Act.put, List.setIfInBounds_toArray, List.set_cons_zero, List.set_cons_succ]
        refine tkV (i := 1) (d := some 22) (v := ?_) rfl (by kernel_rfl) (by kernel_rfl) (by kernel_rfl) rfl (fun _ _ _ h => h) (by rfl) ?_ (by assumption) ?_
        rotate_left
        · (intro w hSw; (try dsimp only at hSw); (try simp only [List.getElem_toArray, List.getElem_cons_zero, List.getElem_cons_succ]); go_simp; try with_reducible rfl)
        try simp only [Act.put, List.setIfInBounds_toArray, List.set_cons_zero, List.set_cons_succ]
        refine tkV (i := 2) (d := some 23) (v := ?_) rfl (by kernel_rfl) (by kernel_rfl) (by kernel_rfl) rfl (fun _ _ _ h => h) (by rfl) ?_ (by assumption) ?_
        rotate_left
        · (intro w hSw; (try dsimp only at hSw); (try simp only [List.getElem_toArray, List.getElem_cons_zero, List.getElem_cons_succ]); go_simp; try with_reducible rfl)
        try simp only [Act.put, List.setIfInBounds_toArray, List.set_cons_zero, List.set_cons_succ]
        refine tkV (i := 3) (d := some 24) (v := ?_) rfl (by kernel_rfl) (by kernel_rfl) (by kernel_rfl) rfl (fun _ _ _ h => h) (by rfl) ?_ (by assumption) ?_
        rotate_left
        · (intro w hSw; (try dsimp only at hSw); (try simp only [List.getElem_toArray, List.getElem_cons_zero, List.getElem_cons_succ]); go_simp; try with_reducible rfl)
        try simp only [Act.put, List.setIfInBounds_toArray, List.set_cons_zero, List.set_cons_succ]
        refine tkV (i := 4) (d := some 25) (v := ?_) rfl (by kernel_rfl) (by kernel_rfl) (by kernel_rfl) rfl (fun _ _ _ h => h) (by rfl) ?_ (by assumption) ?_
        rotate_left
        · (intro w hSw; (try dsimp only at hSw); (try simp only [List.getElem_toArray, List.getElem_cons_zero, List.getElem_cons_succ]); go_simp; try with_reducible rfl)
        try simp only [Act.put, List.setIfInBounds_toArray, List.set_cons_zero, List.set_cons_succ]
        refine tkV (i := 5) (d := some 26) (v := ?_) rfl (by kernel_rfl) (by kernel_rfl) (by kernel_rfl) rfl (fun _ _ _ h => h) (by rfl) ?_ (by assumption) ?_
        rotate_left
        · (intro w hSw; (try dsimp only at hSw); (try simp only [List.getElem_toArray, List.getElem_cons_zero, List.getElem_cons_succ]); go_simp; try with_reducible rfl)
        try simp only [Act.put, List.setIfInBounds_toArray, List.set_cons_zero, List.set_cons_succ]
        refine tkV (i := 6) (d := some 27) (v := ?_) rfl (by kernel_rfl) (by kernel_rfl) (by kernel_rfl) rfl (fun _ _ _ h => h) (by rfl) ?_ (by assumption) ?_
        rotate_left
        · (intro w hSw; (try dsimp only at hSw); (try simp only [List.getElem_toArray, List.getElem_cons_zero, List.getElem_cons_succ]); go_simp; try with_reducible rfl)
        try simp only [Act.put, List.setIfInBounds_toArray, List.set_cons_zero, List.set_cons_succ]
        refine tkV (i := 7) (d := some 28) (v := ?_) rfl (by kernel_rfl) (by kernel_rfl) (by kernel_rfl) rfl (fun _ _ _ h => h) (by rfl) ?_ (by assumption) ?_
        rotate_left
        · (intro w hSw; (try dsimp only at hSw); (try simp only [List.getElem_toArray, List.getElem_cons_zero, List.getElem_cons_succ]); go_simp; try with_reducible rfl)
        try simp only [Act.put, List.setIfInBounds_toArray, List.set_cons_zero, List.set_cons_succ]
        refine wpAnyH_ready (rs := [8]) (by kernel_rfl) (by simp) (AllReadyH.cons rfl (fun K hK => ?_) AllReadyH.nil)
        try simp only [List.getElem_toArray, List.getElem_cons_zero, List.getElem_cons_succ]
        go_simp
        refine (HP.out _).mono ?_
        rintro e w1 ⟨rfl, hw1⟩
        subst hw1
        go_wp2_with fail
        refine hK.out _ _ ?_ (fun hHeld8 => ?_)
        · exact HXX.out _ (bel_drew HB.out)
        clear hK K
        (try simp only [Act.put]); (try simp only [List.setIfInBounds_toArray]); (try simp only [List.set_cons_succ]); (try simp only [List.set_cons_zero])
        refine wpAnyH_ready (rs := [9]) (by kernel_rfl) (by simp) (AllReadyH.cons rfl (fun K hK => ?_) AllReadyH.nil)
        try simp only [List.getElem_toArray, List.getElem_cons_zero, List.getElem_cons_succ]
        go_simp
        refine hK.out _ _ ?_ (fun hHeld9 => ?_)
        · exact HXX.out _ ((bel_drew HB.out).alloc (bel_drew HB.out).size _)
        clear hK K
        (try simp only [Act.put]); (try simp only [List.setIfInBounds_toArray]); (try simp only [List.set_cons_succ]); (try simp only [List.set_cons_zero])
        refine wpAnyH_ready (rs := [10]) (by kernel_rfl) (by simp) (AllReadyH.cons rfl (fun K hK => ?_) AllReadyH.nil)
        refine step_append_own_at (by rfl) _ _ 34 (by rfl) w0.heap.size 3 i0 (.int .i64 0) 1 8 Tryd.underlying34 hi hz0 hz1 hz2 rfl (by decide) u3 k ((wdF sy (l.take k)).map (Value.int .i64)) (by rfl) (World.ownsRow.alloc HOk.out _) ⟨wr.heap.size, 0, none⟩ 1 1 [.int .i64 (pk : Int)] (by rfl) (by rfl) (cell_one_new wr.drew _ _) (by simp [Value.oneCell']) (by unfold maxLen; omega) (by omega) (by simp; omega) ?_
        intro v2 w2 hown2 hgrow2 _
        have HN := hid0 (ownI_snoc (w := w0) (wr := wr.drew) (base := w0.heap.size) (L := wdF sy (l.take k)) (c := (pk : Int)) (n := k) HLn.out HOd.out hown2 hgrow2 (bel_drew HB.out) (Nat.le_refl _))
        clear hown2 hgrow2
        refine hK.out _ _ ?_ (fun hHeld10 => ?_)
        · exact HXX.out _ HN.out.2
        clear hK K
        (try simp only [Act.put]); (try simp only [List.setIfInBounds_toArray]); (try simp only [List.set_cons_succ]); (try simp only [List.set_cons_zero])
        refine tkV (i := 11) (d := some 3) (v := ?_) rfl (by kernel_rfl) (by kernel_rfl) (by kernel_rfl) rfl (fun _ _ _ h => h) (by rfl) ?_ (by assumption) ?_
        rotate_left
        · (intro w hSw; (try dsimp only at hSw); (try simp only [List.getElem_toArray, List.getElem_cons_zero, List.getElem_cons_succ]); go_simp; try with_reducible rfl)
        try simp only [Act.put]
        refine wpAnyH_done (by kernel_rfl) ?_ _
        refine NoPanic.normal ?_
        go_wp2_with fail
        have HO2 : Hid (OwnI w2 w0.heap.size v2 (wdF sy (l.take (k + 1)))) := hid0 (by rw [HSn.out]; exact HN.out.1)
        have HB2 := hid0 HN.out.2
        go_roundw
        case rel => exact ⟨k + 1, by omega, by omega, by go_num, HO2, HB2⟩
        case measure => simp [intOf]; omega
      · have hkJ : ¬ (k : Int) < 14 := by omega
        have HV : Hid (wdF sy (l.take k) = wdF sy l) := hid0 (wdF_take (.inl (by omega)))
        clear i2 d
        go_wp2
        go_ret
        exact ⟨_, rfl, hid0 (by rw [← HV.out]; exact owns_lower HO.out HB0.out.size), hid0 (Below.later HB0.out HB.out)⟩
    · have hkI : ¬ (k : Int) < (n : Int) := by omega
      have HV : Hid (wdF sy (l.take k) = wdF sy l) := hid0 (wdF_take (.inr (by rw [← HLn0.out]; omega)))
      clear i2
      go_wp2
      go_ret
      exact ⟨_, rfl, hid0 (by rw [← HV.out]; exact owns_lower HO.out HB0.out.size), hid0 (Below.later HB0.out HB.out)⟩
end Go.Proofs.YtleeedjpccooaaaDoor
namespace Go.Proofs.YtleeedjpccooaaaDoor
/-- Does place p hold a symbol, as far as the walk has come: to place k's letter q? -/
def hK (Le : List (List Int)) (k q : Nat) (c : Int) (p : Nat) : Bool := (decide (p < k) && hasL (Le.getD p []) c) || (decide (p = k) && hasL ((Le.getD k []).take q) c)
structure HoldI (ks : List Int) (Le : List (List Int)) (k q : Nat) (T : List (List Int)) : Prop where
  len : T.length = ks.length
  say : ∀ i (h : i < ks.length) (p : Nat), hasL (T.getD i []) (p : Int) = hK Le k q ks[i] p
  inn : ∀ i, (T.getD i []).all (oneOf Le.length) = true
theorem getD_set_same (T : List (List Int)) (i : Nat) (v : List Int) (h : i < T.length) : (T.set i v).getD i [] = v := by
  rw [List.getD_eq_getElem?_getD, List.getElem?_set_self h]; rfl
theorem getD_set_other (T : List (List Int)) (i j : Nat) (v : List Int) (h : ¬ i = j) : (T.set i v).getD j [] = T.getD j [] := by
  rw [List.getD_eq_getElem?_getD, List.getD_eq_getElem?_getD, List.getElem?_set_ne h]
theorem hK_step (Le : List (List Int)) (k q : Nat) (c : Int) (p : Nat) (hk : k < Le.length) (hq : q < (Le[k]).length) : hK Le k (q + 1) c p = (hK Le k q c p || (decide (p = k) && (Le[k])[q] == c)) := by
  have e : Le.getD k [] = Le[k] := by rw [List.getD_eq_getElem?_getD, List.getElem?_eq_getElem hk]; rfl
  unfold hK
  rw [e, List.take_succ_eq_append_getElem hq, hasL_append]
  cases decide (p = k) <;> simp [hasL, Bool.or_assoc]
theorem hold_start (ks : List Int) (Le : List (List Int)) : HoldI ks Le 0 0 (List.replicate ks.length []) := by
  have e : ∀ i, (List.replicate ks.length ([] : List Int)).getD i [] = [] := fun i => by
    rw [List.getD_eq_getElem?_getD, List.getElem?_replicate]
    split <;> rfl
  exact ⟨by simp, fun i h p => by rw [e, hK]; simp [hasL], fun i => by rw [e]; rfl⟩
theorem HoldI.hit {ks : List Int} {Le : List (List Int)} {k q : Nat} {T : List (List Int)} (hn : ks.Nodup) (h : HoldI ks Le k q T) (hk : k < Le.length) (hq : q < (Le[k]).length) (i0 : Nat) (hi : i0 < ks.length) (e : (Le[k])[q] = ks[i0]) : HoldI ks Le k (q + 1) (T.set i0 (T.getD i0 [] ++ [(k : Int)])) where
  len := by rw [List.length_set]; exact h.len
  say := fun i hi' p => by
    rw [hK_step Le k q ks[i] p hk hq, e]
    by_cases hii : i0 = i
    · subst hii
      rw [getD_set_same _ _ _ (by rw [h.len]; exact hi), hasL_append, h.say i0 hi]
      congr 1
      by_cases hp : p = k
      · subst hp; simp [hasL]
      · have h2 : ¬ (k : Int) = (p : Int) := by omega
        simp [hasL, hp, h2]
    · rw [getD_set_other _ _ _ _ hii, h.say i hi']
      have : (ks[i0] == ks[i]) = false := by
        rw [beq_eq_false_iff_ne]
        intro he
        have hp := List.pairwise_iff_getElem.1 hn
        rcases Nat.lt_or_gt_of_ne hii with hlt | hlt
        · exact hp i0 i hi hi' hlt he
        · exact hp i i0 hi' hi hlt he.symm
      rw [this, Bool.and_false, Bool.or_false]
  inn := fun i => by
    by_cases hii : i0 = i
    · subst hii
      rw [getD_set_same _ _ _ (by rw [h.len]; exact hi), List.all_append, h.inn i0]
      simp only [List.all_cons, List.all_nil, Bool.and_true, Bool.true_and]
      rw [oneOf_iff]
      omega
    · rw [getD_set_other _ _ _ _ hii]
      exact h.inn i
theorem HoldI.miss {ks : List Int} {Le : List (List Int)} {k q : Nat} {T : List (List Int)} (h : HoldI ks Le k q T) (hk : k < Le.length) (hq : q < (Le[k]).length) (e : (Le[k])[q] ∉ ks) : HoldI ks Le k (q + 1) T where
  len := h.len
  say := fun i hi' p => by
    rw [hK_step Le k q ks[i] p hk hq, h.say i hi']
    have : ((Le[k])[q] == ks[i]) = false := by
      rw [beq_eq_false_iff_ne]
      exact fun he => e (by rw [he]; exact List.getElem_mem hi')
    rw [this, Bool.and_false, Bool.or_false]
  inn := h.inn
theorem HoldI.next {ks : List Int} {Le : List (List Int)} {k q : Nat} {T : List (List Int)} (h : HoldI ks Le k q T) (hk : k < Le.length) (hq : (Le[k]).length ≤ q) : HoldI ks Le (k + 1) 0 T where
  len := h.len
  say := fun i hi' p => by
    rw [h.say i hi']
    have e : Le.getD k [] = Le[k] := by rw [List.getD_eq_getElem?_getD, List.getElem?_eq_getElem hk]; rfl
    unfold hK
    rw [e, List.take_of_length_le hq, List.take_zero, hasL_nil, Bool.and_false, Bool.or_false]
    by_cases hp : p = k
    · subst hp
      rw [decide_eq_true (show p < p + 1 by omega), decide_eq_false (show ¬ p < p by omega), decide_eq_true (rfl : p = p), e]
      simp
    · rw [decide_eq_false hp, Bool.false_and, Bool.or_false]
      by_cases h1 : p < k
      · rw [decide_eq_true h1, decide_eq_true (show p < k + 1 by omega)]
      · rw [decide_eq_false h1, decide_eq_false (show ¬ p < k + 1 by omega)]
  inn := h.inn
theorem HoldI.whole {ks : List Int} {Le : List (List Int)} {k : Nat} {T : List (List Int)} (h : HoldI ks Le k 0 T) (hk : Le.length ≤ k) (i : Nat) (hi : i < ks.length) (p : Nat) : hasL (T.getD i []) (p : Int) = holdF Le ks[i] p := by
  rw [h.say i hi, hK, List.take_zero, hasL_nil, Bool.and_false, Bool.or_false, holdF]
  by_cases h1 : p < k
  · rw [decide_eq_true h1, Bool.true_and]
  · have : Le.getD p [] = [] := by rw [List.getD_eq_getElem?_getD, List.getElem?_eq_none (by omega)]; rfl
    rw [this, hasL_nil, Bool.and_false]
end Go.Proofs.YtleeedjpccooaaaDoor
namespace Go.Proofs.YtleeedjpccooaaaDoor
open Go.RowKit Go.Shelf Go.Lib Go.Maps
theorem lawI : Keyed Tryd.prog 3 := int_keyed Tryd.underlying3
/-- A number that an int may be. -/
def inI (c : Int) : Prop := (Lit.int .i64 c).wf = true
def keyI (c : Int) : Lit := .int .i64 c
theorem keyI_is (c : Int) : WideAt.IsKeyLit (keyI c) := trivial
theorem keyI_inj {c d : Int} (h : keyI c = keyI d) : c = d := by unfold keyI at h; injection h
/-- A map that has the keys ks, each with its number. -/
structure SaysN (D : DataW Unit) (ks : List Int) : Prop where
  size : Maps.size D = ks.length
  has : ∀ c, Maps.has D (keyI c) = decide (c ∈ ks)
  at' : ∀ i (h : i < ks.length), D.atKey (keyI ks[i]) (.lit (.int .i64 0)) = .lit (.int .i64 (i : Int))
  off : ∀ c, c ∉ ks → D.atKey (keyI c) (.lit (.int .i64 0)) = .lit (.int .i64 0)
theorem saysN_nil : SaysN (.map []) [] := ⟨rfl, fun c => by rfl, fun i h => absurd h (Nat.not_lt_zero _), fun c _ => rfl⟩
theorem saysN_put {D : DataW Unit} {ks : List Int} (h : SaysN D ks) (hT : Tidy D) {c : Int} (hc : c ∉ ks) : SaysN (D.put (keyI c) (.lit (.int .i64 (ks.length : Int)))) (ks ++ [c]) where
  size := by
    rw [size_put hT, h.has, decide_eq_false hc, h.size]
    simp
  has := fun d => by
    by_cases e : d = c
    · subst e
      rw [has_put_same hT.isMap (keyI_is _)]
      simp
    · rw [has_put_other (fun he => e (keyI_inj he)), h.has]
      simp [e]
  at' := fun i hi => by
    by_cases e : i < ks.length
    · rw [List.getElem_append_left e, atKey_put_other (fun he => hc (by rw [← keyI_inj he]; exact List.getElem_mem e)), h.at' i e]
    · have e2 : i = ks.length := by simp at hi; omega
      subst e2
      rw [List.getElem_append_right (Nat.le_refl _)]
      simp only [Nat.sub_self, List.getElem_cons_zero]
      exact atKey_put_same hT.isMap (keyI_is _) _ _
  off := fun d hd => by
    rw [List.mem_append, not_or] at hd
    rw [atKey_put_other (fun he => hd.2 (by rw [keyI_inj he]; simp))]
    exact h.off d hd.1
/-- The block B is the map of the symbols ks. -/
def MapN (w : World) (B : Nat) (ks : List Int) : Prop := ∃ D, w.ownsMap Tryd.prog 3 (plainElem Tryd.prog 3) B ks.length D ∧ SaysN D ks
theorem MapN.lt {w : World} {B : Nat} {ks : List Int} (h : MapN w B ks) : B < w.heap.size := by
  obtain ⟨D, h1, _⟩ := h
  exact h1.lt
theorem MapN.keep {w w' : World} {B : Nat} {ks : List Int} (h : MapN w B ks) (hb : w'.heap[B]? = w.heap[B]?) : MapN w' B ks := by
  obtain ⟨D, ⟨es, clock, h1, h2⟩, hs⟩ := h
  exact ⟨D, ⟨es, clock, hb.trans h1, h2⟩, hs⟩
theorem MapN.made (w : World) : MapN (w.alloc (.map #[] 0)) w.heap.size [] := ⟨_, World.ownsMap_made w _ _ _, saysN_nil⟩
set_option maxRecDepth 100000 in
theorem MapN.look {w : World} {B : Nat} {ks : List Int} (h : MapN w B ks) {i : Nat} (hi : i < ks.length) (hc : inI ks[i]) :
    (Instr.lookup 116 (.map (some B)) (.int .i64 ks[i]) true).run Tryd.prog w = .ok (.tuple #[.int .i64 (i : Int), .bool true]) w := by
  obtain ⟨D, h1, hs⟩ := h
  obtain ⟨v, ps, hrun, hv⟩ := h1.look_ok (t := 116) lawI Tryd.underlying116 (Tryd.zeroValue3 w) (plainElem_int Tryd.underlying3 (by decide)) (keyOf_int_mk Tryd.underlying3 hc)
  obtain ⟨c, rfl, hcc, _⟩ := plainElem_int_inv Tryd.underlying3 hv
  have e := congrArg Prod.fst hcc
  have e2 := hs.at' i hi
  unfold keyI at e2
  simp only [e2] at e
  injection e with e
  injection e with _ e
  have h3 := hs.has ks[i]
  unfold keyI at h3
  rw [hrun, ← e, h3, decide_eq_true (List.getElem_mem hi)]
set_option maxRecDepth 100000 in
theorem MapN.lookNot {w : World} {B : Nat} {ks : List Int} (h : MapN w B ks) {d : Int} (hd : d ∉ ks) (hc : inI d) :
    (Instr.lookup 116 (.map (some B)) (.int .i64 d) true).run Tryd.prog w = .ok (.tuple #[.int .i64 0, .bool false]) w := by
  obtain ⟨D, h1, hs⟩ := h
  obtain ⟨v, ps, hrun, hv⟩ := h1.look_ok (t := 116) lawI Tryd.underlying116 (Tryd.zeroValue3 w) (plainElem_int Tryd.underlying3 (by decide)) (keyOf_int_mk Tryd.underlying3 hc)
  obtain ⟨c, rfl, hcc, _⟩ := plainElem_int_inv Tryd.underlying3 hv
  have e := congrArg Prod.fst hcc
  have e2 := hs.off d hd
  unfold keyI at e2
  simp only [e2] at e
  injection e with e
  injection e with _ e
  have h3 := hs.has d
  unfold keyI at h3
  rw [hrun, ← e, h3, decide_eq_false hd]
set_option maxRecDepth 100000 in
theorem MapN.get {w : World} {B : Nat} {ks : List Int} (h : MapN w B ks) {i : Nat} (hi : i < ks.length) (hc : inI ks[i]) :
    (Instr.lookup 116 (.map (some B)) (.int .i64 ks[i]) false).run Tryd.prog w = .ok (.int .i64 (i : Int)) w := by
  obtain ⟨D, h1, hs⟩ := h
  obtain ⟨c, hrun, e, _⟩ := h1.lookup_int (t := 116) lawI Tryd.underlying116 Tryd.underlying3 (Tryd.zeroValue3 w) (keyOf_int_mk Tryd.underlying3 hc)
  have e2 := hs.at' i hi
  unfold keyI at e2
  rw [e2] at e
  injection e with e
  injection e with _ e
  rw [hrun, ← e]
theorem MapN.len {w : World} {B : Nat} {ks : List Int} (h : MapN w B ks) (ty : TypeId) : (Builtin.len_ #[116] ty #[.map (some B)]).run Tryd.prog w = .ok (.int .i64 (ks.length : Int)) w := by
  obtain ⟨D, h1, hs⟩ := h
  rw [h1.len Tryd.underlying116 ty, hs.size]
theorem MapN.put {w : World} {B : Nat} {ks : List Int} (h : MapN w B ks) {d : Int} (hd : d ∉ ks) (hc : inI d) (hn : ks.length ≤ 1000000000000) :
    ∃ w', (Instr.mapUpdate 116 (.map (some B)) (.int .i64 d) (.int .i64 (ks.length : Int))).run Tryd.prog w = .ok () w' ∧ MapN w' B (ks ++ [d]) ∧ w.grownBy w' (some B) := by
  obtain ⟨D, h1, hs⟩ := h
  have hw : (Lit.int .i64 (ks.length : Int)).wf = true := by simp [Lit.wf, IntKind.min, IntKind.max, IntKind.signed, IntKind.bits]; omega
  obtain ⟨w', hrun, h2, h3⟩ := h1.update (t := 116) lawI Tryd.underlying116 (by unfold maxLen; omega) (keyOf_int_mk Tryd.underlying3 hc) (plainElem_int Tryd.underlying3 hw)
  refine ⟨w', hrun, ⟨_, ?_, saysN_put hs (h1.tidy lawI) hd⟩, h3⟩
  rw [List.length_append]
  exact h2
end Go.Proofs.YtleeedjpccooaaaDoor
