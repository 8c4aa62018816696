/-
  caesurakit.lent, whole; caesurakit.Expr.
-/
import Derived.Test.YthcpalpcakjfnaaMgLW
namespace Go.Proofs.Ythcpalpcakjfnaa
open Go.RowKit Go.Shelf
set_option maxRecDepth 10000 in
set_option maxHeartbeats 800000 in
theorem lent_deep (B d : Nat) (e : Ex) (x : EV) (w : World) (hBw : B ≤ w.heap.size) (hd : 5000 < d) (hd2 : d ≤ 6000) (hx : ExH w (fun g => g < B) e x) :
    Calls Try.prog 23 #[x.v, .int .i64 (d : Int)] w fun r w' => LentR w B 0 e r w' := by
  have hxi := hx.is
  obtain ⟨k, t, a, m, c, b, n, d', g, l, z, rfl⟩ := hx.is.flat
  unfold EV.v
  simp only []
  obtain ⟨W, hW⟩ : ∃ W, (w.alloc (.cells #[.int .i64 k, .bool t, .slice a m c, .slice b n d', .slice g l z] 48)).alloc (.cells #[.int .i64 0, .bool false, .slice none 0 0, .slice none 0 0, .slice none 0 0] 48) = W := ⟨_, rfl⟩
  obtain ⟨hr0, hr1, hb, hs⟩ := two_rows w _ _ _ _ _ _ _ _ _ _ _ W hW.symm
  obtain ⟨⟨x0, x1, x2, x3, x4⟩, _⟩ := rowE hr0
  obtain ⟨⟨y0, y1, y2, y3, y4⟩, f0, f1, f2, f3, f4⟩ := rowE hr1
  obtain ⟨V, hV⟩ : ∃ V, V = setE W (w.heap.size + 1) (.int .i64 k) (.bool t) (.slice a m c) (.slice b n d') (.slice g l z) := ⟨_, rfl⟩
  have hVr : V.heap[w.heap.size + 1]? = some (.cells #[.int .i64 k, .bool t, .slice a m c, .slice b n d', .slice g l z] 48 (0, 0)) := by rw [hV]; exact setE_row hr1 _ _ _ _ _
  have hR : LentR w B 0 e (.returned (.agg #[.int .i64 k, .bool t, .slice a m c, .slice b n d', .slice g l z])) V := by
    refine ⟨⟨.int .i64 k, .bool t, .slice a m c, .slice b n d', .slice g l z⟩, rfl, .deep _ _ ?_, by rw [hV]; exact setE_below hb (Nat.le_succ _) _ _ _ _ _⟩
    have hk := setE_keeps (W := W) (X := w.heap.size + 1) (.int .i64 k) (.bool t) (.slice a m c) (.slice b n d') (.slice g l z)
    rw [← hV] at hk
    exact ((hxi.past hb).keeps ⟨hk.size, fun b' o' hq hl => hk.cell b' o' (by omega) hl⟩).mono (fun b' _ hq => .inl hq)
  have HR := hid0 hR
  have HVr := hid0 hVr
  unfold setE at hV
  have HV := hid0 hV
  have hdI : 5000 < (d : Int) := by omega
  clear hr0 hr1 hb hs hx hxi hV hR hVr
  go_enter Try.func23, Try.ntmps23
  go_wp2
  rw [← HV.out]
  obtain ⟨⟨k0, k1, k2, k3, k4⟩, _⟩ := rowE HVr.out
  exact bodyPost_ret (v := .agg #[.int .i64 k, .bool t, .slice a m c, .slice b n d', .slice g l z]) (by simp [results, Try.results23, go_sem, k0, k1, k2, k3, k4]) rfl HR.out
theorem lent_any (B : Nat) : ∀ (n d : Nat), d + n = 5001 → ∀ (e : Ex) (x : EV) (w : World), B ≤ w.heap.size → ExH w (fun g => g < B) e x → Calls Try.prog 23 #[x.v, .int .i64 (d : Int)] w fun r w' => LentR w B n e r w' := by
  intro n
  induction n with
  | zero =>
    intro d hd e x w hB hx
    exact lent_deep B d e x w hB (by omega) (by omega) hx
  | succ n ih =>
    intro d hd e x w hB hx
    obtain ⟨k, nt, N, P, L⟩ := e
    obtain ⟨a, ca, b, cb, c, cc, rfl, hN, hP, lN, lP, lL, nN, nP, vs, hL, hR⟩ := hx.shape
    refine lent_node B n d k nt N P L a b c ca cb cc vs w hB (by omega) hN.sa hP.ra lN lP lL nN nP (fun i hi => ?_) (fun i hi => (hR i hi).is.flat) (fun i hi V hV => ?_)
    · obtain ⟨g, off, e, _, h5⟩ := hL i hi
      exact ⟨g, off, e, h5⟩
    · have h := ih (d + 1) (by omega) L[i] (vs i) V (Nat.le_trans hB hV.size) ((hR i hi).past hV)
      rw [show (((d + 1 : Nat)) : Int) = (d : Int) + 1 by omega] at h
      exact h
set_option maxRecDepth 10000 in
set_option maxHeartbeats 800000 in
theorem expr_any (B : Nat) (e : Ex) (x : EV) (w : World) (hB : B ≤ w.heap.size) (hx : ExH w (fun g => g < B) e x) : Calls Try.prog 13 #[x.v] w fun r w' => LentR w B 5001 e r w' := by
  have hl := fun V (hV : Below w.heap.size w V) => lent_any B 5001 0 (by omega) e x V (Nat.le_trans hB hV.size) (hx.past hV)
  obtain ⟨k, t, a, m, c, b, n, d', g, l, z, rfl⟩ := hx.is.flat
  unfold EV.v at hl ⊢
  simp only [] at hl ⊢
  obtain ⟨W, hW⟩ : ∃ W, (w.alloc (.cells #[.int .i64 k, .bool t, .slice a m c, .slice b n d', .slice g l z] 48)).alloc (.cells #[.int .i64 0, .bool false, .slice none 0 0, .slice none 0 0, .slice none 0 0] 48) = W := ⟨_, rfl⟩
  obtain ⟨hr0, hr1, hb, hs⟩ := two_rows w _ _ _ _ _ _ _ _ _ _ _ W hW.symm
  obtain ⟨⟨x0, x1, x2, x3, x4⟩, _⟩ := rowE hr0
  have HC := hid0 (hl W hb)
  have HR1 := hid0 hr1
  have HB := hid0 hb
  have HS := hid0 hs
  have HBw := hid0 hB
  clear hx hl hr0 hr1 hb hs hB
  go_enter Try.func13, Try.ntmps13
  go_wp2_with (first
    | (go_at_call 23
       refine HC.out.mono ?_
       rintro r w1 ⟨y, rfl, hy, hb1⟩
       obtain ⟨k6, t6, a6, m6, c6, b6, n6, d6, g6, l6, z6, rfl⟩ := hy.is.flat
       unfold EV.v
       simp only []
       have hr1 := kept hb1 HR1.out
       obtain ⟨⟨y0, y1, y2, y3, y4⟩, f0, f1, f2, f3, f4⟩ := rowE hr1
       obtain ⟨V, hV⟩ : ∃ V, V = setE w1 (w.heap.size + 1) (.int .i64 k6) (.bool t6) (.slice a6 m6 c6) (.slice b6 n6 d6) (.slice g6 l6 z6) := ⟨_, rfl⟩
       have HVr : Hid (V.heap[w.heap.size + 1]? = some (.cells #[.int .i64 k6, .bool t6, .slice a6 m6 c6, .slice b6 n6 d6, .slice g6 l6 z6] 48 (0, 0))) := hid0 (by rw [hV]; exact setE_row hr1 _ _ _ _ _)
       have HR : Hid (LentR w B 5001 e (.returned (.agg #[.int .i64 k6, .bool t6, .slice a6 m6 c6, .slice b6 n6 d6, .slice g6 l6 z6])) V) := hid0 (by
         have hk := setE_keeps (W := w1) (X := w.heap.size + 1) (.int .i64 k6) (.bool t6) (.slice a6 m6 c6) (.slice b6 n6 d6) (.slice g6 l6 z6)
         rw [← hV] at hk
         exact ⟨⟨.int .i64 k6, .bool t6, .slice a6 m6 c6, .slice b6 n6 d6, .slice g6 l6 z6⟩, rfl, (hy.keeps ⟨hk.size, fun b' o' hq hl => hk.cell b' o' (by have := HS.out; have := HBw.out; omega) hl⟩).mono (fun b' _ hq => hq.imp id (fun q => by have := HS.out; omega)), by rw [hV]; exact setE_below (Below.later HB.out hb1) (Nat.le_succ _) _ _ _ _ _⟩)
       unfold setE at hV
       have HV := hid0 hV
       clear hy hb1 hr1 hV)
    | fail)
  rw [← HV.out]
  obtain ⟨⟨k0, k1, k2, k3, k4⟩, _⟩ := rowE HVr.out
  exact bodyPost_ret (v := .agg #[.int .i64 k6, .bool t6, .slice a6 m6 c6, .slice b6 n6 d6, .slice g6 l6 z6]) (by simp [results, Try.results13, go_sem, k0, k1, k2, k3, k4]) rfl HR.out
end Go.Proofs.Ythcpalpcakjfnaa
