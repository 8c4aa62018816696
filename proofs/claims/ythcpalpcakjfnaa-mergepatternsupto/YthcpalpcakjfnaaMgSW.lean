/-
  caesuraref0.SameExpr of an expression that lies in memory twice.
-/
import Derived.Test.YthcpalpcakjfnaaMgEM
namespace Go.Proofs.Ythcpalpcakjfnaa
open Go.RowKit Go.Shelf
def SameP (w : World) (e : Ex) (x : EV) : Prop := ∀ (W : World) (y : EV) (Q' : Nat → Prop), Below w.heap.size w W → ExIs W Q' e y → Calls Try.prog 18 #[x.v, y.v] W fun r w' => r = .returned (.bool true) ∧ Below W.heap.size W w'
set_option maxRecDepth 10000 in
set_option maxHeartbeats 3200000 in
theorem sameE {w : World} {Q : Nat → Prop} {e : Ex} {x : EV} (h : ExIs w Q e x) : SameP w e x := by
  induction h with
  | mk k nt N P L a ca b cb c cc vs hN hP lN lP lL hL hR ih =>
    intro W y Q' hWb hy
    obtain ⟨a2, ca2, b2, cb2, c2, cc2, rfl, hN2, hP2, _, _, _, ws, hL2, hR2⟩ := hy.shape
    obtain ⟨w0, hw0⟩ : ∃ w0, w0 = (W.alloc (.cells #[.int .i64 k, .bool nt, .slice a N.length ca, .slice b P.length cb, .slice c L.length cc] 48)).alloc (.cells #[.int .i64 k, .bool nt, .slice a2 N.length ca2, .slice b2 P.length cb2, .slice c2 L.length cc2] 48) := ⟨_, rfl⟩
    have hb0 : Below W.heap.size W w0 := by rw [hw0]; exact ((Below.refl _ _).alloc (Nat.le_refl _) _).alloc (by simp) _
    have hX0 : w0.heap[W.heap.size]? = some (.cells #[.int .i64 k, .bool nt, .slice a N.length ca, .slice b P.length cb, .slice c L.length cc] 48 (0, 0)) := by
      rw [hw0]
      exact (Below.heap_alloc _ _ _ (by simp)).trans (heap_alloc_new W _)
    have hX1 : w0.heap[W.heap.size + 1]? = some (.cells #[.int .i64 k, .bool nt, .slice a2 N.length ca2, .slice b2 P.length cb2, .slice c2 L.length cc2] 48 (0, 0)) := by
      rw [hw0]
      have h := heap_alloc_new (W.alloc (.cells #[.int .i64 k, .bool nt, .slice a N.length ca, .slice b P.length cb, .slice c L.length cc] 48)) (.cells #[.int .i64 k, .bool nt, .slice a2 N.length ca2, .slice b2 P.length cb2, .slice c2 L.length cc2] 48)
      simp only [World.size_alloc] at h
      exact h
    have HX : Hid (∀ V, Below w0.heap.size w0 V → (V.cell? ⟨W.heap.size, 0, none⟩ = some (.int .i64 k) ∧ V.cell? ⟨W.heap.size, 1, none⟩ = some (.bool nt) ∧ V.cell? ⟨W.heap.size, 2, none⟩ = some (.slice a N.length ca) ∧ V.cell? ⟨W.heap.size, 3, none⟩ = some (.slice b P.length cb) ∧ V.cell? ⟨W.heap.size, 4, none⟩ = some (.slice c L.length cc)) ∧
        V.cell? ⟨W.heap.size + 1, 0, none⟩ = some (.int .i64 k) ∧ V.cell? ⟨W.heap.size + 1, 1, none⟩ = some (.bool nt) ∧ V.cell? ⟨W.heap.size + 1, 2, none⟩ = some (.slice a2 N.length ca2) ∧ V.cell? ⟨W.heap.size + 1, 3, none⟩ = some (.slice b2 P.length cb2) ∧ V.cell? ⟨W.heap.size + 1, 4, none⟩ = some (.slice c2 L.length cc2)) := hid0 (fun V hV => by
      have p := (hV.block _ (lt_of_rowC hX0)).trans hX0
      have q := (hV.block _ (lt_of_rowC hX1)).trans hX1
      exact ⟨⟨by rw [cell_of_row _ _ _ _ _ _ p]; rfl, by rw [cell_of_row _ _ _ _ _ _ p]; rfl, by rw [cell_of_row _ _ _ _ _ _ p]; rfl, by rw [cell_of_row _ _ _ _ _ _ p]; rfl, by rw [cell_of_row _ _ _ _ _ _ p]; rfl⟩, by rw [cell_of_row _ _ _ _ _ _ q]; rfl, by rw [cell_of_row _ _ _ _ _ _ q]; rfl, by rw [cell_of_row _ _ _ _ _ _ q]; rfl, by rw [cell_of_row _ _ _ _ _ _ q]; rfl, by rw [cell_of_row _ _ _ _ _ _ q]; rfl⟩)
    have HSt := hid0 (sameSet nt N P a b a2 b2 ca cb ca2 cb2 w0 (by omega) (by omega) ((hN.sa.below hWb).below hb0) ((hP.ra.below hWb).below hb0) (hN2.sa.below hb0) (hP2.ra.below hb0))
    have HLx : Hid (LA w Q c L vs) := hid0 ⟨hL, hR⟩
    have HLy : Hid (LA W Q' c2 L ws) := hid0 ⟨hL2, hR2⟩
    have HIH := hid0 ih
    have HWb := hid0 hWb
    have HB0 := hid0 hb0
    obtain ⟨⟨x0, x1, x2, x3, x4⟩, y0, y1, y2, y3, y4⟩ := HX.out w0 (Below.refl _ _)
    have hf := hw0.symm
    unfold EV.v
    clear hy hN hP hL hR ih hN2 hP2 hL2 hR2 hw0 hb0 hX0 hX1 hWb
    go_enter Try.func18, Try.ntmps18
    go_wp2_with (go_at_call 17; refine HSt.out.mono ?_; rintro r w1 ⟨rfl, hb1⟩; obtain ⟨⟨u0, u1, u2, u3, u4⟩, v0, v1, v2, v3, v4⟩ := HX.out w1 hb1; have HB1 := hid0 hb1; clear hb1)
    clear x0 x1 x2 x3 x4 y0 y1 y2 y3 y4 u0 u1 u2 u3 u4 v0 v1 v2 v3 v4 hf
    go_loopw [6, 7] (fun i _ wr => ∃ m : Nat, m ≤ L.length ∧ i = .int .i64 (m : Int) ∧ Hid (Below w0.heap.size w0 wr)) (fun i _ _ => L.length - (intOf i).toNat)
    case atStart => exact ⟨0, Nat.zero_le _, rfl, HB1⟩
    case round =>
      clear HB1
      obtain ⟨m, hm, rfl, HB⟩ := hrel
      obtain ⟨⟨u0, u1, u2, u3, u4⟩, v0, v1, v2, v3, v4⟩ := HX.out wr HB.out
      clear u0 u1 u2 u3 v0 v1 v2 v3
      by_cases hlt : m < L.length
      · have hmI : (m : Int) < (L.length : Int) := by omega
        have hm0 : (0 : Int) ≤ (m : Int) := by omega
        have hbw := Below.later HWb.out (Below.later HB0.out HB.out)
        have hbW := Below.later HB0.out HB.out
        have hlx := HLx.out.keeps (Keeps.past hbw)
        have hly := HLy.out.keeps (Keeps.past hbW)
        obtain ⟨g1, o1, rfl, hg1, e0, e1, e2, e3, e4⟩ := hlx.at' m hlt
        obtain ⟨g2, o2, rfl, hg2, i0, i1, i2, i3, i4⟩ := hly.at' m hlt
        obtain ⟨f0, ⟨t5, f1⟩, ⟨a5, m5, c5, f2⟩, ⟨b5, n5, d5, f3⟩, ⟨g5, l5, z5, f4⟩⟩ := (hlx.is m hlt).form
        obtain ⟨h0, ⟨t6, h1⟩, ⟨a6, m6, c6, h2⟩, ⟨b6, n6, d6, h3⟩, ⟨g6, l6, z6, h4⟩⟩ := (hly.is m hlt).form
        have HCa : Hid (∀ V, Below w0.heap.size w0 V → Calls Try.prog 18 #[.agg #[.int .i64 L[m].kind, .bool t5, .slice a5 m5 c5, .slice b5 n5 d5, .slice g5 l5 z5], .agg #[.int .i64 L[m].kind, .bool t6, .slice a6 m6 c6, .slice b6 n6 d6, .slice g6 l6 z6]] V fun r w' => r = .returned (.bool true) ∧ Below V.heap.size V w') := hid0 (fun V hV => by
          have h := HIH.out m hlt V (ws m) Q' (Below.later HWb.out (Below.later HB0.out hV)) ((HLy.out.keeps (Keeps.past (Below.later HB0.out hV))).is m hlt)
          unfold EV.v at h
          rw [f0, f1, f2, f3, f4, h0, h1, h2, h3, h4] at h
          exact h)
        rw [f0] at e0
        rw [f1] at e1
        rw [f2] at e2
        rw [f3] at e3
        rw [f4] at e4
        rw [h0] at i0
        rw [h1] at i1
        rw [h2] at i2
        rw [h3] at i3
        rw [h4] at i4
        have HSo0 : Hid (∀ V, Below wr.heap.size wr V → Below w0.heap.size w0 V) := hid0 (fun V h => Below.later HB.out h)
        generalize L[m].kind = lk at *
        clear hlx hly f0 f1 f2 f3 f4 h0 h1 h2 h3 h4 hg1 hg2 hbw hbW
        have HSo : Hid (∀ V, Below wr.heap.size wr V → (fun V => V.cell? ⟨W.heap.size, 4, none⟩ = some (.slice (some ⟨g1, o1, none⟩) L.length cc) ∧ V.cell? ⟨W.heap.size + 1, 4, none⟩ = some (.slice (some ⟨g2, o2, none⟩) L.length cc2) ∧ V.cell? ⟨g1, o1 + m * 5, none⟩ = some (.int .i64 lk) ∧ V.cell? ⟨g1, o1 + m * 5 + 1, none⟩ = some (.bool t5) ∧ V.cell? ⟨g1, o1 + m * 5 + 2, none⟩ = some (.slice a5 m5 c5) ∧ V.cell? ⟨g1, o1 + m * 5 + 3, none⟩ = some (.slice b5 n5 d5) ∧ V.cell? ⟨g1, o1 + m * 5 + 4, none⟩ = some (.slice g5 l5 z5) ∧ V.cell? ⟨g2, o2 + m * 5, none⟩ = some (.int .i64 lk) ∧ V.cell? ⟨g2, o2 + m * 5 + 1, none⟩ = some (.bool t6) ∧ V.cell? ⟨g2, o2 + m * 5 + 2, none⟩ = some (.slice a6 m6 c6) ∧ V.cell? ⟨g2, o2 + m * 5 + 3, none⟩ = some (.slice b6 n6 d6) ∧ V.cell? ⟨g2, o2 + m * 5 + 4, none⟩ = some (.slice g6 l6 z6) ∧ Below w0.heap.size w0 V) V) := hid0 (fun V h => ⟨(h.cell (World.block_lt_of_cell? wr _ u4)).trans u4, (h.cell (World.block_lt_of_cell? wr _ v4)).trans v4, (h.cell (World.block_lt_of_cell? wr _ e0)).trans e0, (h.cell (World.block_lt_of_cell? wr _ e1)).trans e1, (h.cell (World.block_lt_of_cell? wr _ e2)).trans e2, (h.cell (World.block_lt_of_cell? wr _ e3)).trans e3, (h.cell (World.block_lt_of_cell? wr _ e4)).trans e4, (h.cell (World.block_lt_of_cell? wr _ i0)).trans i0, (h.cell (World.block_lt_of_cell? wr _ i1)).trans i1, (h.cell (World.block_lt_of_cell? wr _ i2)).trans i2, (h.cell (World.block_lt_of_cell? wr _ i3)).trans i3, (h.cell (World.block_lt_of_cell? wr _ i4)).trans i4, Below.later HB.out h⟩)
        go_wp2
        refine wp_region_held_drew (S := (fun V => V.cell? ⟨W.heap.size, 4, none⟩ = some (.slice (some ⟨g1, o1, none⟩) L.length cc) ∧ V.cell? ⟨W.heap.size + 1, 4, none⟩ = some (.slice (some ⟨g2, o2, none⟩) L.length cc2) ∧ V.cell? ⟨g1, o1 + m * 5, none⟩ = some (.int .i64 lk) ∧ V.cell? ⟨g1, o1 + m * 5 + 1, none⟩ = some (.bool t5) ∧ V.cell? ⟨g1, o1 + m * 5 + 2, none⟩ = some (.slice a5 m5 c5) ∧ V.cell? ⟨g1, o1 + m * 5 + 3, none⟩ = some (.slice b5 n5 d5) ∧ V.cell? ⟨g1, o1 + m * 5 + 4, none⟩ = some (.slice g5 l5 z5) ∧ V.cell? ⟨g2, o2 + m * 5, none⟩ = some (.int .i64 lk) ∧ V.cell? ⟨g2, o2 + m * 5 + 1, none⟩ = some (.bool t6) ∧ V.cell? ⟨g2, o2 + m * 5 + 2, none⟩ = some (.slice a6 m6 c6) ∧ V.cell? ⟨g2, o2 + m * 5 + 3, none⟩ = some (.slice b6 n6 d6) ∧ V.cell? ⟨g2, o2 + m * 5 + 4, none⟩ = some (.slice g6 l6 z6) ∧ Below w0.heap.size w0 V)) (by kernel_rfl) ?_ (fun hHeld => ?_)
        · exact HSo.out _ ((Below.refl _ wr).drew)
        have HBd := hid0 ((Below.refl wr.heap.size wr).drew)
        refine tkV (i := 0) (d := some 38) (v := ?_) rfl (by kernel_rfl) (by kernel_rfl) (by kernel_rfl) rfl (fun _ _ _ h => h) (by rfl) ?_ (by assumption) ?_
        rotate_left
        · (intro w hSw; (try dsimp only at hSw); (try simp only [List.getElem_toArray, List.getElem_cons_zero]); go_simp; try with_reducible rfl)
        simp only [Act.put, List.setIfInBounds_toArray, List.set_cons_zero, List.set_cons_succ]
        refine tkV (i := 1) (d := some 39) (v := ?_) rfl (by kernel_rfl) (by kernel_rfl) (by kernel_rfl) rfl (fun _ _ _ h => h) (by rfl) ?_ (by assumption) ?_
        rotate_left
        · (intro w hSw; (try dsimp only at hSw); (try simp only [List.getElem_toArray, List.getElem_cons_zero, List.getElem_cons_succ]); go_simp; try with_reducible rfl)
        simp only [Act.put, List.setIfInBounds_toArray, List.set_cons_zero, List.set_cons_succ]
        refine tkV (i := 2) (d := some 40) (v := ?_) rfl (by kernel_rfl) (by kernel_rfl) (by kernel_rfl) rfl (fun _ _ _ h => h) (by rfl) ?_ (by assumption) ?_
        rotate_left
        · (intro w hSw; (try dsimp only at hSw); (try simp only [List.getElem_toArray, List.getElem_cons_zero, List.getElem_cons_succ]); go_simp; try with_reducible rfl)
        simp only [Act.put, List.setIfInBounds_toArray, List.set_cons_zero, List.set_cons_succ]
        refine tkV (i := 3) (d := some 41) (v := ?_) rfl (by kernel_rfl) (by kernel_rfl) (by kernel_rfl) rfl (fun _ _ _ h => h) (by rfl) ?_ (by assumption) ?_
        rotate_left
        · (intro w hSw; (try dsimp only at hSw); (try simp only [List.getElem_toArray, List.getElem_cons_zero, List.getElem_cons_succ]); go_simp; try with_reducible rfl)
        simp only [Act.put, List.setIfInBounds_toArray, List.set_cons_zero, List.set_cons_succ]
        refine tkV (i := 4) (d := some 42) (v := ?_) rfl (by kernel_rfl) (by kernel_rfl) (by kernel_rfl) rfl (fun _ _ _ h => h) (by rfl) ?_ (by assumption) ?_
        rotate_left
        · (intro w hSw; (try dsimp only at hSw); (try simp only [List.getElem_toArray, List.getElem_cons_zero, List.getElem_cons_succ]); go_simp; try with_reducible rfl)
        simp only [Act.put, List.setIfInBounds_toArray, List.set_cons_zero, List.set_cons_succ]
        refine tkV (i := 5) (d := some 43) (v := ?_) rfl (by kernel_rfl) (by kernel_rfl) (by kernel_rfl) rfl (fun _ _ _ h => h) (by rfl) ?_ (by assumption) ?_
        rotate_left
        · (intro w hSw; (try dsimp only at hSw); (try simp only [List.getElem_toArray, List.getElem_cons_zero, List.getElem_cons_succ]); go_simp; try with_reducible rfl)
        simp only [Act.put, List.setIfInBounds_toArray, List.set_cons_zero, List.set_cons_succ]
        refine tkV (i := 6) (d := some 44) (v := ?_) rfl (by kernel_rfl) (by kernel_rfl) (by kernel_rfl) rfl (fun _ _ _ h => h) (by rfl) ?_ (by assumption) ?_
        rotate_left
        · (intro w hSw; (try dsimp only at hSw); (try simp only [List.getElem_toArray, List.getElem_cons_zero, List.getElem_cons_succ]); go_simp; try with_reducible rfl)
        simp only [Act.put, List.setIfInBounds_toArray, List.set_cons_zero, List.set_cons_succ]
        refine tkV (i := 7) (d := some 45) (v := ?_) rfl (by kernel_rfl) (by kernel_rfl) (by kernel_rfl) rfl (fun _ _ _ h => h) (by rfl) ?_ (by assumption) ?_
        rotate_left
        · (intro w hSw; (try dsimp only at hSw); (try simp only [List.getElem_toArray, List.getElem_cons_zero, List.getElem_cons_succ]); go_simp; try with_reducible rfl)
        simp only [Act.put, List.setIfInBounds_toArray, List.set_cons_zero, List.set_cons_succ]
        refine tkV (i := 8) (d := some 46) (v := ?_) rfl (by kernel_rfl) (by kernel_rfl) (by kernel_rfl) rfl (fun _ _ _ h => h) (by rfl) ?_ (by assumption) ?_
        rotate_left
        · (intro w hSw; (try dsimp only at hSw); (try simp only [List.getElem_toArray, List.getElem_cons_zero, List.getElem_cons_succ]); go_simp; try with_reducible rfl)
        simp only [Act.put, List.setIfInBounds_toArray, List.set_cons_zero, List.set_cons_succ]
        refine tkV (i := 9) (d := some 47) (v := ?_) rfl (by kernel_rfl) (by kernel_rfl) (by kernel_rfl) rfl (fun _ _ _ h => h) (by rfl) ?_ (by assumption) ?_
        rotate_left
        · (intro w hSw; (try dsimp only at hSw); (try simp only [List.getElem_toArray, List.getElem_cons_zero, List.getElem_cons_succ]); go_simp; try with_reducible rfl)
        simp only [Act.put, List.setIfInBounds_toArray, List.set_cons_zero, List.set_cons_succ]
        refine wpAnyH_ready (rs := [10]) (by kernel_rfl) (by simp) (AllReadyH.cons rfl (fun K hK => ?_) AllReadyH.nil)
        try simp only [List.getElem_toArray, List.getElem_cons_zero, List.getElem_cons_succ]
        go_simp
        go_split_ands
        refine (HCa.out _ (HSo0.out _ HBd.out)).mono ?_
        rintro r w6 ⟨rfl, hb6⟩
        have HB6 := hid0 (Below.later HBd.out hb6)
        clear hb6
        go_wp2_with fail
        refine hK.out _ _ ?_ (fun hHeld2 => ?_)
        · exact HSo.out _ HB6.out
        clear hK K
        (try simp only [Act.put]); (try simp only [List.setIfInBounds_toArray]); (try simp only [List.set_cons_succ]); (try simp only [List.set_cons_zero])
        refine wpAnyH_ready (rs := [11]) (by kernel_rfl) (by simp) (AllReadyH.cons rfl (fun K hK => ?_) AllReadyH.nil)
        try simp only [List.getElem_toArray, List.getElem_cons_zero, List.getElem_cons_succ]
        go_simp
        refine hK.out _ _ ?_ (fun hHeld3 => ?_)
        · exact HSo.out _ HB6.out
        clear hK K
        (try simp only [Act.put]); (try simp only [List.setIfInBounds_toArray]); (try simp only [List.set_cons_succ]); (try simp only [List.set_cons_zero])
        refine wpAnyH_done (by kernel_rfl) ?_ _
        try clear hHeld2
        try clear hHeld3
        clear HSo HBd HCa e0 e1 e2 e3 e4 i0 i1 i2 i3 i4
        go_wp2
        go_roundw
        case rel => exact ⟨m + 1, by omega, by go_num, hid0 (Below.later HB.out HB6.out)⟩
        case measure => simp [intOf]; omega
      · have hmI : ¬ (m : Int) < (L.length : Int) := by omega
        go_wp2
        go_ret
        exact ⟨rfl, Below.later HB0.out HB.out⟩
end Go.Proofs.Ythcpalpcakjfnaa
