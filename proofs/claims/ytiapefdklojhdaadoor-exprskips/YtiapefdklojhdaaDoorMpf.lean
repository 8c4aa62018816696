/-
  ExTgW, ExThW, ExTqW, ExYdW, ExYeW, ExUaM, ExUbM, ShelfK, ExUcW, ExUdW, ExUeW.
-/
import Derived.Test.YtiapefdklojhdaaDoorMpe
import Derived.Shelf.Strconv.Clone
import Derived.Test.YtiapefdklojhdaaDoorProg
namespace Go.Proofs.YtiapefdklojhdaaDoor
open Go.RowKit Go.Shelf
theorem one_is {w1 w2 : World} {t : Ex} {y : EV} {B : Nat} (T : TypeId) (q : Int) (hy : ExIs w1 (fun g => B ≤ g) t y) (hB : B ≤ w1.heap.size) (h2 : w1.alloc (.cells #[y.k, y.t, y.n, y.p, y.r] T) = w2) :
    ExIs w2 (fun g => B ≤ g) (.mk q false [] [] [t]) ⟨.int .i64 q, .bool false, .slice none 0 0, .slice none 0 0, .slice (some ⟨w1.heap.size, 0, none⟩) 1 1⟩ := by
  have hr : w2.heap[w1.heap.size]? = some (.cells #[y.k, y.t, y.n, y.p, y.r] T (0, 0)) := by rw [← h2]; exact heap_alloc_new w1 _
  have hb : Below w1.heap.size w1 w2 := by rw [← h2]; exact (Below.refl _ _).alloc (Nat.le_refl _) _
  obtain ⟨⟨a0, a1, a2, a3, a4⟩, _⟩ := rowE hr
  refine .mk q false [] [] [t] none 0 none 0 (some ⟨w1.heap.size, 0, none⟩) 1 (fun _ => y) (SQ.nil _ _ _) (RQ.nil _ _ _) (by simp) (by simp) (by simp) (fun i hi => ?_) (fun i hi => ?_)
  · have : i = 0 := by simpa using hi
    subst this
    exact ⟨w1.heap.size, 0, rfl, hB, a0, a1, a2, a3, a4⟩
  · have : i = 0 := by simpa using hi
    subst this
    exact hy.past hb
/-- What is asked of tidy at a part. -/
def TidyP (n : Nat) (e : Ex) : Prop := ∀ (W : World) (y : EV), ExIn W e y → Calls Tryd.prog 5 #[y.v, .int .i64 (n : Int)] W fun r w' => ExR W (tidyE n e) r w'
/-- An expression of one part is stored. -/
theorem one_done {w W w1 : World} {t : Ex} {k5 : Int} {u5 : Bool} {a5 b5 g5 : Option Addr} {m5 c5 n5 d5 l5 z5 : Nat} (q : Int) (T : TypeId) {a0 b0 c0 d0 e0 : Value} (bel : Below w.heap.size w W) (hs : W.heap.size = w.heap.size + 2) (hr : W.heap[w.heap.size + 1]? = some (.cells #[a0, b0, c0, d0, e0] T (0, 0)))
    (hy : ExIs w1 (fun g => W.heap.size ≤ g) t ⟨.int .i64 k5, .bool u5, .slice a5 m5 c5, .slice b5 n5 d5, .slice g5 l5 z5⟩) (hb : Below W.heap.size W w1) :
    ∃ w2 V, w1.alloc (.cells #[.int .i64 k5, .bool u5, .slice a5 m5 c5, .slice b5 n5 d5, .slice g5 l5 z5] T) = w2 ∧ w2.heap[w.heap.size + 1]? = some (.cells #[a0, b0, c0, d0, e0] T (0, 0)) ∧ V = setE w2 (w.heap.size + 1) (.int .i64 q) (.bool false) (.slice none 0 0) (.slice none 0 0) (.slice (some ⟨w1.heap.size, 0, none⟩) 1 1) ∧
      V.heap[w.heap.size + 1]? = some (.cells #[.int .i64 q, .bool false, .slice none 0 0, .slice none 0 0, .slice (some ⟨w1.heap.size, 0, none⟩) 1 1] T (0, 0)) ∧ ExR w (.mk q false [] [] [t]) (.returned (.agg #[.int .i64 q, .bool false, .slice none 0 0, .slice none 0 0, .slice (some ⟨w1.heap.size, 0, none⟩) 1 1])) V := by
  have h1 := one_is (w2 := w1.alloc (.cells #[.int .i64 k5, .bool u5, .slice a5 m5 c5, .slice b5 n5 d5, .slice g5 l5 z5] T)) T q hy hb.size rfl
  have hb2 : Below w1.heap.size w1 (w1.alloc (.cells #[.int .i64 k5, .bool u5, .slice a5 m5 c5, .slice b5 n5 d5, .slice g5 l5 z5] T)) := (Below.refl _ _).alloc (Nat.le_refl _) _
  generalize w1.alloc (.cells #[.int .i64 k5, .bool u5, .slice a5 m5 c5, .slice b5 n5 d5, .slice g5 l5 z5] T) = w2 at *
  have hb3 := Below.later hb hb2
  have hr2 := (hb3.block (w.heap.size + 1) (by omega)).trans hr
  have hd := ret_done (Below.later bel hb3) (Nat.le_succ _) hr2 (show w.heap.size + 1 < W.heap.size by omega) h1
  unfold EV.v at hd
  dsimp only at hd
  obtain ⟨V, e1, e2, e3⟩ := hd
  exact ⟨w2, V, rfl, hr2, e1, e2, e3⟩
set_option maxRecDepth 10000 in
set_option maxHeartbeats 1600000 in
theorem tidy_one (n : Nat) (hn : n ≤ 100) (k : Int) (nt : Bool) (sN sP : Value) (g off m cc : Nat) (p : Ex) (y : EV) (w : World) (hm : 0 < m) (h34 : ¬ (kindT k = 3 ∨ kindT k = 4)) (h5 : Five w g off y) (hp : ExIn w p y) (ih : TidyP n p) :
    Calls Tryd.prog 5 #[.agg #[.int .i64 k, .bool nt, sN, sP, .slice (some ⟨g, off, none⟩) m cc], .int .i64 ((n + 1 : Nat) : Int)] w fun r w' => ExR w (.mk (oneK (kindT k)) false [] [] [tidyE n p]) r w' := by
  obtain ⟨W, hW⟩ : ∃ W, (w.alloc (.cells #[.int .i64 k, .bool nt, sN, sP, .slice (some ⟨g, off, none⟩) m cc] 28)).alloc (.cells #[.int .i64 0, .bool false, .slice none 0 0, .slice none 0 0, .slice none 0 0] 28) = W := ⟨_, rfl⟩
  obtain ⟨hr0, hr1, hb, hs⟩ := two_rows w _ _ _ _ _ _ _ _ _ _ _ W hW.symm
  obtain ⟨⟨x0, x1, x2, x3, x4⟩, _⟩ := rowE hr0
  obtain ⟨p0, p1, p2, p3, p4⟩ := h5.past hb
  have HR1 := hid0 hr1
  have HB := hid0 hb
  have HS := hid0 hs
  have HIH := hid0 (fun (V : World) (hV : Below W.heap.size W V) => ih V y ((hp.past hb).past hV))
  cases hp with
  | mk k1 nt1 N1 P1 L1 a1 ca1 b1 cb1 c1 cc1 vs1 hN1 hP1 hL1 hR1' =>
  unfold EV.v at HIH
  dsimp only at HIH p0 p1 p2 p3 p4
  clear hN1 hP1 hL1 hR1' ih h5
  obtain ⟨pk, hpk⟩ : ∃ pk, pk = pickN (IntKind.i64.wrap (k - 1)) 7 := ⟨_, rfl⟩
  obtain ⟨kq, hkq⟩ : ∃ kq, IntKind.i64.wrap (k - 1) = kq := ⟨_, rfl⟩
  have HPk := hid0 (fun V => pick_at kq 7 (by omega) (by omega) V)
  have hp7 : pk < 7 := by rw [hpk]; exact pickN_lt _ _ (by omega)
  rw [← hkq, ← hpk] at HPk
  rw [hkq] at HPk
  have HKT : Hid (kindT k = 1 + pk) := hid0 (by rw [hpk]; rfl)
  obtain ⟨kt, hkt⟩ : ∃ kt : Int, kt = 1 + (pk : Int) := ⟨_, rfl⟩
  have hadd : IntKind.i64.wrap (1 + (pk : Int)) = kt := by rw [hkt]; simp [IntKind.wrap, IntKind.bits, IntKind.signed]; omega
  have h3 : ¬ (kt = 3) := fun e => h34 (.inl (by have := HKT.out; omega))
  have h4 : ¬ (kt = 4) := fun e => h34 (.inr (by have := HKT.out; omega))
  have h3B : (kt != 3) = true := by simpa using h3
  have h4B : (kt != 4) = true := by simpa using h4
  have hmI : ¬ ((m : Int) = 0) := by omega
  have hm1 : (0 : Int) < (m : Int) := by omega
  have hmB : ((m : Int) == 0) = false := by simp; omega
  have hl0 : ¬ (((n + 1 : Nat) : Int) = 0) := by omega
  have hsub : IntKind.i64.wrap (((n + 1 : Nat) : Int) - 1) = (n : Int) := by simp [IntKind.wrap, IntKind.bits, IntKind.signed]; omega
  generalize ((n + 1 : Nat) : Int) = lv at *
  have hlB : (lv == 0) = false := by simpa using hl0
  have HKt := hid0 hkt
  have HH := hid0 h34
  clear hb hs hr0 hr1 hpk hkt h34
  by_cases hlt : kt < 5
  · have HOn : Hid (((oneK (kindT k) : Nat) : Int) = 5) := hid0 (by have := HKT.out; have := HKt.out; unfold oneK; rw [if_pos (by omega)]; rfl)
    go_enter Tryd.func5, Tryd.ntmps5
    go_wp2_with (first
      | (go_at_call 20; refine (HPk.out _).mono ?_; rintro r w1 ⟨rfl, rfl⟩)
      | (go_at_call 5; refine (HIH.out _ (Below.refl _ _)).mono ?_; rintro r w1 hr; obtain ⟨k5, u5, a5, m5, c5, b5, n5, d5, g5, l5, z5, rfl, q1, q2⟩ := hr.shape; obtain ⟨w2, V, e1, e2, e3, e4, e5⟩ := one_done 5 28 HB.out HS.out HR1.out q1 q2; have HR := hid0 e5; have HVr := hid0 e4; unfold setE at e3; have HV := hid0 e3; obtain ⟨⟨z0, z1, z2, z3, z4⟩, g0, g1, g2, g3, g4⟩ := rowE e2; clear q1 q2 e2 e3 e4 e5 hr)
      | fail)
    rw [← HV.out]
    obtain ⟨⟨k0, k1, k2, k3, k4⟩, _⟩ := rowE HVr.out
    exact bodyPost_ret (v := .agg #[.int .i64 5, .bool false, .slice none 0 0, .slice none 0 0, .slice (some ⟨w1.heap.size, 0, none⟩) 1 1]) (by simp [results, Tryd.results5, go_sem, k0, k1, k2, k3, k4]) rfl (by rw [HOn.out]; exact HR.out)
  · have HOn : Hid (((oneK (kindT k) : Nat) : Int) = kt) := hid0 (by have := HKT.out; have := HKt.out; unfold oneK; rw [if_neg (by omega)]; omega)
    go_enter Tryd.func5, Tryd.ntmps5
    go_wp2_with (first
      | (go_at_call 20; refine (HPk.out _).mono ?_; rintro r w1 ⟨rfl, rfl⟩)
      | (go_at_call 5; refine (HIH.out _ (Below.refl _ _)).mono ?_; rintro r w1 hr; obtain ⟨k5, u5, a5, m5, c5, b5, n5, d5, g5, l5, z5, rfl, q1, q2⟩ := hr.shape; obtain ⟨w2, V, e1, e2, e3, e4, e5⟩ := one_done kt 28 HB.out HS.out HR1.out q1 q2; have HR := hid0 e5; have HVr := hid0 e4; unfold setE at e3; have HV := hid0 e3; obtain ⟨⟨z0, z1, z2, z3, z4⟩, g0, g1, g2, g3, g4⟩ := rowE e2; clear q1 q2 e2 e3 e4 e5 hr)
      | fail)
    rw [← HV.out]
    obtain ⟨⟨k0, k1, k2, k3, k4⟩, _⟩ := rowE HVr.out
    exact bodyPost_ret (v := .agg #[.int .i64 kt, .bool false, .slice none 0 0, .slice none 0 0, .slice (some ⟨w1.heap.size, 0, none⟩) 1 1]) (by simp [results, Tryd.results5, go_sem, k0, k1, k2, k3, k4]) rfl (by rw [HOn.out]; exact HR.out)
end Go.Proofs.YtiapefdklojhdaaDoor
namespace Go.Proofs.YtiapefdklojhdaaDoor
open Go.RowKit Go.Shelf
theorem szT_le {n : Nat} (h : n ≤ 4) : szT n ≤ 121 := by
  rcases (show n = 0 ∨ n = 1 ∨ n = 2 ∨ n = 3 ∨ n = 4 by omega) with rfl | rfl | rfl | rfl | rfl <;> decide
/-- What the rounds of tidy make. -/
def flatT (n : Nat) (k : Int) (L : List Ex) (j : Nat) : List Ex := (L.take j).flatMap fun x => gl k (tidyE n x)
theorem flatT_succ (n : Nat) (k : Int) (L : List Ex) (j : Nat) (h : j < L.length) : flatT n k L (j + 1) = flatT n k L j ++ gl k (tidyE n L[j]) := by
  unfold flatT
  rw [List.take_add_one, List.getElem?_eq_getElem h, List.flatMap_append]
  simp
theorem flatT_len {n : Nat} (hn : n ≤ 4) (k : Int) (L : List Ex) (j : Nat) (h : j ≤ 3) : (flatT n k L j).length ≤ 363 := by
  have h1 := len_le_sizes (flatT n k L j)
  have h2 := flat_size k (tidyE n) (szT n) (L.take j) (fun x _ => (tidy_wf n x).2)
  have h3 : (L.take j).length * szT n ≤ 3 * 121 := Nat.mul_le_mul (by rw [List.length_take]; omega) (szT_le hn)
  unfold flatT at *
  omega
theorem parts_tidy {n : Nat} (hn : n ≤ 4) (e : Ex) : (tidyE n e).parts.length ≤ 121 := by
  have h1 := parts_le (e := tidyE n e)
  have h2 := (tidy_wf n e).2
  have h3 := szT_le hn
  omega
theorem node_many (k : Int) {l : List Ex} (h : 2 ≤ l.length) : nodeE k l = .mk k false [] [] l := by
  match l, h with
  | x :: y :: l, _ => rfl
/-- What stands between the rounds. -/
structure RowI (W wr : World) (n : Nat) (k : Int) (L : List Ex) (j : Nat) (v : Value) : Prop where
  pe : ∃ ys, PE wr W.heap.size (fun b => W.heap.size ≤ b) v (flatT n k L j) ys
  bel : Below W.heap.size W wr
theorem RowI.first (W : World) (n : Nat) (k : Int) (L : List Ex) : RowI W W n k L 0 (.slice none 0 0) := ⟨⟨[], by unfold flatT; exact PE.nil _ _ _⟩, Below.refl _ _⟩
theorem ownB_lt {W : World} {lo : Nat} {Q : Nat → Prop} {v : Value} {L : List Ex} {xs : List EV} (h : PE W lo Q v L xs) : ∀ q, v.ownBlock = some q → lo ≤ q ∧ q < W.heap.size := fun q e => World.ownsRow.lt h.own q e
/-- A part is made, laid into a block of its own, and glued. -/
theorem RowI.ask {W wr w1 w2 : World} {n : Nat} {k : Int} {L : List Ex} {j : Nat} {v : Value} (h : RowI W wr n k L j v) (hn : n ≤ 4) (hj : j < 3) {t : Ex} {y : EV} (ht : t.parts.length ≤ 121) (hy : ExIs w1 (fun g => wr.heap.size ≤ g) t y) (hb : Below wr.heap.size wr w1) (h2 : Below w1.heap.size w1 w2) :
    Calls Tryd.prog 21 #[v, y.v, .int .i64 k] w2 fun r w' => ∃ v', r = .returned v' ∧ (∃ ys, PE w' W.heap.size (fun b => W.heap.size ≤ b) v' (flatT n k L j ++ gl k t) ys) ∧ Below W.heap.size W w' := by
  obtain ⟨ys, hp⟩ := h.pe
  have hb2 := Below.later hb h2
  have hs := h.bel.size
  have hy2 : ExIs w2 (fun b => W.heap.size ≤ b ∧ v.ownBlock ≠ some b) t y := (hy.mono (fun g _ hg => ⟨by omega, fun e => by have := (ownB_lt hp g e).2; omega⟩)).past h2
  refine (glued_any k (flatT n k L j) ys v t y _ W.heap.size w2 (hp.past hb2) hy2 (Nat.le_trans hs hb2.size) (by have := flatT_len hn k L j (by omega); omega)).mono ?_
  rintro r w' ⟨v', xs, rfl, q1, q2⟩
  exact ⟨v', rfl, ⟨xs, q1⟩, q2.below (Below.later h.bel hb2) (Nat.le_trans hs hb2.size) (fun q e => (ownB_lt hp q e).1)⟩
theorem RowI.done {w W wr : World} {n : Nat} {k : Int} {L : List Ex} {v : Value} (h : RowI W wr n k L 3 v) (hn : n ≤ 4) {T : TypeId} {a0 b0 c0 d0 e0 : Value} (bel : Below w.heap.size w W) (hs : W.heap.size = w.heap.size + 2) (hr : W.heap[w.heap.size + 1]? = some (.cells #[a0, b0, c0, d0, e0] T (0, 0))) :
    wr.heap[w.heap.size + 1]? = some (.cells #[a0, b0, c0, d0, e0] T (0, 0)) ∧ ∃ a c, v = .slice a (flatT n k L 3).length c ∧
    ((flatT n k L 3).length = 0 → ∃ V, V = setE wr (w.heap.size + 1) (.int .i64 1) (.bool false) (.slice none 0 0) (.slice none 0 0) (.slice none 0 0) ∧ V.heap[w.heap.size + 1]? = some (.cells #[.int .i64 1, .bool false, .slice none 0 0, .slice none 0 0, .slice none 0 0] T (0, 0)) ∧ ExR w (nodeE k (flatT n k L 3)) (.returned (.agg #[.int .i64 1, .bool false, .slice none 0 0, .slice none 0 0, .slice none 0 0])) V) ∧
    ((flatT n k L 3).length = 1 → ∃ g k5 u5 a5 m5 c5 b5 n5 d5 g5 l5 z5, a = some ⟨g, 0, none⟩ ∧ Five wr g 0 ⟨.int .i64 k5, .bool u5, .slice a5 m5 c5, .slice b5 n5 d5, .slice g5 l5 z5⟩ ∧ ∃ V, V = setE wr (w.heap.size + 1) (.int .i64 k5) (.bool u5) (.slice a5 m5 c5) (.slice b5 n5 d5) (.slice g5 l5 z5) ∧ V.heap[w.heap.size + 1]? = some (.cells #[.int .i64 k5, .bool u5, .slice a5 m5 c5, .slice b5 n5 d5, .slice g5 l5 z5] T (0, 0)) ∧ ExR w (nodeE k (flatT n k L 3)) (.returned (.agg #[.int .i64 k5, .bool u5, .slice a5 m5 c5, .slice b5 n5 d5, .slice g5 l5 z5])) V) ∧
    (2 ≤ (flatT n k L 3).length → ∃ V, V = setE wr (w.heap.size + 1) (.int .i64 k) (.bool false) (.slice none 0 0) (.slice none 0 0) v ∧ V.heap[w.heap.size + 1]? = some (.cells #[.int .i64 k, .bool false, .slice none 0 0, .slice none 0 0, v] T (0, 0)) ∧ ExR w (nodeE k (flatT n k L 3)) (.returned (.agg #[.int .i64 k, .bool false, .slice none 0 0, .slice none 0 0, v])) V) := by
  obtain ⟨ys, hp⟩ := h.pe
  have hl := flatT_len hn k L 3 (Nat.le_refl _)
  obtain ⟨a, c, hv⟩ := hp.form
  have hr2 := (h.bel.block (w.heap.size + 1) (by omega)).trans hr
  have hb2 := Below.later bel h.bel
  have hX : w.heap.size + 1 < W.heap.size := by omega
  refine ⟨hr2, a, c, hv, fun h0 => ?_, fun h1 => ?_, fun h2 => ?_⟩
  · rw [List.length_eq_zero_iff.1 h0]
    have hd := ret_done hb2 (Nat.le_succ _) hr2 hX (empty_is wr _)
    unfold EV.v at hd
    dsimp only at hd
    exact hd
  · obtain ⟨x, hx⟩ := List.length_eq_one_iff.1 h1
    rw [hx] at hp hv h1 ⊢
    obtain ⟨g, c', e, hg, h5⟩ := hp.cells 0 (by simp) (by rw [hp.len]; simp)
    have his := (hp.is 0 (by simp) (by rw [hp.len]; simp)).mono (Q' := fun b => W.heap.size ≤ b) (fun g _ hq => hq.1)
    rw [hv] at e
    cases e
    simp only [List.getElem_cons_zero] at his
    generalize ys[0]'(by rw [hp.len]; simp) = y at *
    cases his with
    | mk k5 u5 N5 P5 L5 a5 ca5 b5 cb5 c5 cc5 vs5 hN5 hP5 lN5 lP5 lL5 hL5 hR5 =>
      have hd := ret_done hb2 (Nat.le_succ _) hr2 hX (ExIs.mk k5 u5 N5 P5 L5 a5 ca5 b5 cb5 c5 cc5 vs5 hN5 hP5 lN5 lP5 lL5 hL5 hR5)
      unfold EV.v at hd
      dsimp only at hd
      exact ⟨g, k5, u5, a5, N5.length, ca5, b5, P5.length, cb5, c5, L5.length, cc5, rfl, by simpa using h5, hd⟩
  · obtain ⟨c1, c2, e, hx⟩ := hp.ex (fun g hg => hg) (by omega) k
    rw [e]
    have hd := ret_done hb2 (Nat.le_succ _) hr2 hX hx
    unfold EV.v at hd
    dsimp only at hd
    rw [node_many k h2]
    exact hd
end Go.Proofs.YtiapefdklojhdaaDoor
namespace Go.Proofs.YtiapefdklojhdaaDoor
open Go.RowKit Go.Shelf
/-- An expression that is answered; its parts may lie where others do. -/
def ExT (w : World) (t : Ex) (r : Ending) (w' : World) : Prop := ∃ y : EV, r = .returned y.v ∧ ExIs w' (fun _ => True) t y ∧ Below w.heap.size w w'
theorem ExT.shape {w w' : World} {t : Ex} {r : Ending} (h : ExT w t r w') : ∃ k u a m c b n d g l z, r = .returned (.agg #[.int .i64 k, .bool u, .slice a m c, .slice b n d, .slice g l z]) ∧ ExIs w' (fun _ => True) t ⟨.int .i64 k, .bool u, .slice a m c, .slice b n d, .slice g l z⟩ ∧ Below w.heap.size w w' := by
  obtain ⟨y, e, h1, h2⟩ := h
  obtain ⟨k, u, a, m, c, b, n, d, g, l, z, rfl⟩ := h1.flat
  exact ⟨k, u, a, m, c, b, n, d, g, l, z, e, h1, h2⟩
theorem ret_done2 {w W : World} {X : Nat} {t : TypeId} {a0 b0 c0 d0 e0 : Value} {e : Ex} {y : EV} (bel : Below w.heap.size w W) (hX : w.heap.size ≤ X) (hr : W.heap[X]? = some (.cells #[a0, b0, c0, d0, e0] t (0, 0))) (hy : ExIs W (fun g => g ≠ X) e y) :
    ∃ V, V = setE W X y.k y.t y.n y.p y.r ∧ V.heap[X]? = some (.cells #[y.k, y.t, y.n, y.p, y.r] t (0, 0)) ∧ ExT w e (.returned y.v) V :=
  ⟨_, rfl, setE_row hr _ _ _ _ _, y, rfl, (hy.keeps (setE_keeps (W := W) (X := X) y.k y.t y.n y.p y.r)).mono (fun _ _ _ => trivial), setE_below bel hX _ _ _ _ _⟩
/-- The end of seq: no part, one, more. -/
theorem seq_done {w W wr : World} {X lo : Nat} {k : Int} {F : List Ex} {v : Value} {ys : List EV} (hp : PE wr lo (fun b => b ≠ X) v F ys) (hlo : X < lo) (hl : F.length ≤ 1000000) {T : TypeId} {a0 b0 c0 d0 e0 : Value} (bel : Below w.heap.size w W) (hX : w.heap.size ≤ X) (hXW : X < W.heap.size) (hr : W.heap[X]? = some (.cells #[a0, b0, c0, d0, e0] T (0, 0))) (hbw : Below W.heap.size W wr) :
    wr.heap[X]? = some (.cells #[a0, b0, c0, d0, e0] T (0, 0)) ∧ ∃ a c, v = .slice a F.length c ∧
    (F.length = 0 → ∃ V, V = setE wr X (.int .i64 1) (.bool false) (.slice none 0 0) (.slice none 0 0) (.slice none 0 0) ∧ V.heap[X]? = some (.cells #[.int .i64 1, .bool false, .slice none 0 0, .slice none 0 0, .slice none 0 0] T (0, 0)) ∧ ExT w (nodeE k F) (.returned (.agg #[.int .i64 1, .bool false, .slice none 0 0, .slice none 0 0, .slice none 0 0])) V) ∧
    (F.length = 1 → ∃ g k5 u5 a5 m5 c5 b5 n5 d5 g5 l5 z5, a = some ⟨g, 0, none⟩ ∧ Five wr g 0 ⟨.int .i64 k5, .bool u5, .slice a5 m5 c5, .slice b5 n5 d5, .slice g5 l5 z5⟩ ∧ ∃ V, V = setE wr X (.int .i64 k5) (.bool u5) (.slice a5 m5 c5) (.slice b5 n5 d5) (.slice g5 l5 z5) ∧ V.heap[X]? = some (.cells #[.int .i64 k5, .bool u5, .slice a5 m5 c5, .slice b5 n5 d5, .slice g5 l5 z5] T (0, 0)) ∧ ExT w (nodeE k F) (.returned (.agg #[.int .i64 k5, .bool u5, .slice a5 m5 c5, .slice b5 n5 d5, .slice g5 l5 z5])) V) ∧
    (2 ≤ F.length → ∃ V, V = setE wr X (.int .i64 k) (.bool false) (.slice none 0 0) (.slice none 0 0) v ∧ V.heap[X]? = some (.cells #[.int .i64 k, .bool false, .slice none 0 0, .slice none 0 0, v] T (0, 0)) ∧ ExT w (nodeE k F) (.returned (.agg #[.int .i64 k, .bool false, .slice none 0 0, .slice none 0 0, v])) V) := by
  obtain ⟨a, c, hv⟩ := hp.form
  have hr2 := (hbw.block X hXW).trans hr
  have hb2 := Below.later bel hbw
  refine ⟨hr2, a, c, hv, fun h0 => ?_, fun h1 => ?_, fun h2 => ?_⟩
  · rw [List.length_eq_zero_iff.1 h0]
    have hd := ret_done2 hb2 hX hr2 (empty_is wr _)
    unfold EV.v at hd
    dsimp only at hd
    exact hd
  · obtain ⟨x, hx⟩ := List.length_eq_one_iff.1 h1
    subst hx
    obtain ⟨g, c', e, hg, h5⟩ := hp.cells 0 (by simp) (by rw [hp.len]; simp)
    have his := (hp.is 0 (by simp) (by rw [hp.len]; simp)).mono (Q' := fun b => b ≠ X) (fun g _ hq => hq.1)
    rw [hv] at e
    cases e
    simp only [List.getElem_cons_zero] at his
    generalize ys[0]'(by rw [hp.len]; simp) = y at *
    obtain ⟨k5, u5, a5, m5, c5, b5, n5, d5, g5, l5, z5, rfl⟩ := his.flat
    have hd := ret_done2 hb2 hX hr2 his
    unfold EV.v at hd
    dsimp only at hd
    exact ⟨g, k5, u5, a5, m5, c5, b5, n5, d5, g5, l5, z5, rfl, by simpa using h5, hd⟩
  · obtain ⟨c1, c2, e, hx⟩ := hp.ex (fun g hg => by omega) (by omega) k
    rw [e]
    have hd := ret_done2 hb2 hX hr2 hx
    unfold EV.v at hd
    dsimp only at hd
    rw [node_many k h2]
    exact hd
/-- The three blocks that seq begins with. -/
theorem three_rows (w : World) (t : TypeId) (a b c d e a' b' c' d' e' a2 b2 c2 d2 e2 : Value) (W : World) (hW : W = ((w.alloc (.cells #[a, b, c, d, e] t)).alloc (.cells #[a', b', c', d', e'] t)).alloc (.cells #[a2, b2, c2, d2, e2] t)) :
    W.heap[w.heap.size]? = some (.cells #[a, b, c, d, e] t (0, 0)) ∧ W.heap[w.heap.size + 1]? = some (.cells #[a', b', c', d', e'] t (0, 0)) ∧ W.heap[w.heap.size + 1 + 1]? = some (.cells #[a2, b2, c2, d2, e2] t (0, 0)) ∧ Below w.heap.size w W ∧ W.heap.size = w.heap.size + 3 := by
  obtain ⟨wb, hwb⟩ : ∃ wb, wb = (w.alloc (.cells #[a, b, c, d, e] t)).alloc (.cells #[a', b', c', d', e'] t) := ⟨_, rfl⟩
  obtain ⟨r0, r1, hb, hs⟩ := two_rows w _ _ _ _ _ _ _ _ _ _ _ wb hwb
  rw [← hwb] at hW
  obtain ⟨hb2, r2, s2⟩ := laid hW.symm
  rw [hs] at r2 s2
  exact ⟨kept hb2 r0, kept hb2 r1, r2, Below.later hb hb2, s2⟩
end Go.Proofs.YtiapefdklojhdaaDoor
namespace Go.Proofs.YtiapefdklojhdaaDoor
open Go.RowKit Go.Shelf
theorem wovR_snoc (t : Ex) (L : List Ex) (k : Nat) (h : k < L.length) : wovR t (L.take (k + 1)) = wovR t (L.take k) ++ (if L[k].kind = 2 then [L[k], t] else [wovE t L[k]]) := by
  rw [wovR_flat, wovR_flat, List.take_add_one, List.getElem?_eq_getElem h, List.flatMap_append]
  simp
theorem wovR_le (t : Ex) (L : List Ex) : (wovR t L).length ≤ 2 * L.length := by
  induction L with
  | nil => exact Nat.le_refl _
  | cons e L ih =>
    rw [wovR, List.length_append, List.length_cons]
    split
    · simp only [List.length_cons, List.length_nil]; omega
    · simp only [List.length_cons, List.length_nil]; omega
theorem cell10_new (w : World) (T : TypeId) (x y : EV) : ∀ j u, (evC x ++ evC y)[j]? = some u → (w.alloc (.cells #[x.k, x.t, x.n, x.p, x.r, y.k, y.t, y.n, y.p, y.r] T)).cell? ((⟨w.heap.size, 0, none⟩ : Addr).add j) = some u := by
  intro j u h
  rw [Addr.add_mid, cell_of_row _ _ _ _ _ _ (heap_alloc_new w _)]
  simpa [evC] using h
set_option maxRecDepth 10000 in
set_option maxHeartbeats 3200000 in
theorem wovenRow_any (t : Ex) (y : EV) (D : Nat → Prop) (k0 : Int) (nt0 : Bool) (sN sP : Value) (L : List Ex) (c : Option Addr) (cc : Nat) (vs : Nat → EV) (w : World) (hD : ∀ b, D b → b < w.heap.size) (hl : L.length ≤ 100000) (ht : ExIs w D t y) (hsN : ∃ a m c, sN = .slice a m c) (hsP : ∃ a m c, sP = .slice a m c)
    (hL : ∀ i, i < L.length → ∃ g off, c = some ⟨g, off, none⟩ ∧ Five w g (off + i * 5) (vs i)) (hR : ∀ i (h : i < L.length), ExIs w D L[i] (vs i)) (ih : ∀ i (h : i < L.length) (W : World), Below w.heap.size w W → WovC t y D L[i] (vs i) W) :
    Calls Tryd.prog 46 #[.agg #[.int .i64 k0, .bool nt0, sN, sP, .slice c L.length cc], y.v] w fun r w' => ExB D w (.mk 3 false [] [] (wovR t L)) r w' := by
  obtain ⟨i0, hi, hz0, hz1, hz2⟩ := info_parts infoE
  obtain ⟨a1, m1, c1, rfl⟩ := hsN
  obtain ⟨b1, n1, d1, rfl⟩ := hsP
  obtain ⟨k2, t2, a2, m2, c2, b2, n2, d2, g2, l2, z2, rfl⟩ := ht.flatB
  have HTr := hid0 ht
  have HL := hid0 hL
  have HRr := hid0 hR
  have HIH := hid0 ih
  clear ht hL hR ih
  unfold EV.v
  simp only []
  obtain ⟨W3, hW3⟩ : ∃ W3, ((w.alloc (.cells #[.int .i64 k0, .bool nt0, .slice a1 m1 c1, .slice b1 n1 d1, .slice c L.length cc] 28)).alloc (.cells #[.int .i64 k2, .bool t2, .slice a2 m2 c2, .slice b2 n2 d2, .slice g2 l2 z2] 28)).alloc (.cells #[.int .i64 0, .bool false, .slice none 0 0, .slice none 0 0, .slice none 0 0] 28) = W3 := ⟨_, rfl⟩
  obtain ⟨hr0, hr1, hr2, hb3, hs3⟩ := three_rows w _ _ _ _ _ _ _ _ _ _ _ _ _ _ _ _ W3 hW3.symm
  obtain ⟨b4, r4, s4⟩ := laid (rfl : W3.alloc (.cells #[.int .i64 3, .bool false, .slice none 0 0, .slice none 0 0, .slice none 0 0] 28) = _)
  have HF : Hid ((W3.alloc (.cells #[.int .i64 3, .bool false, .slice none 0 0, .slice none 0 0, .slice none 0 0] 28)).heap[w.heap.size]? = some (.cells #[.int .i64 k0, .bool nt0, .slice a1 m1 c1, .slice b1 n1 d1, .slice c L.length cc] 28 (0, 0)) ∧ (W3.alloc (.cells #[.int .i64 3, .bool false, .slice none 0 0, .slice none 0 0, .slice none 0 0] 28)).heap[w.heap.size + 1]? = some (.cells #[.int .i64 k2, .bool t2, .slice a2 m2 c2, .slice b2 n2 d2, .slice g2 l2 z2] 28 (0, 0)) ∧ (W3.alloc (.cells #[.int .i64 3, .bool false, .slice none 0 0, .slice none 0 0, .slice none 0 0] 28)).heap[w.heap.size + 1 + 1]? = some (.cells #[.int .i64 0, .bool false, .slice none 0 0, .slice none 0 0, .slice none 0 0] 28 (0, 0)) ∧ (W3.alloc (.cells #[.int .i64 3, .bool false, .slice none 0 0, .slice none 0 0, .slice none 0 0] 28)).heap[w.heap.size + 3]? = some (.cells #[.int .i64 3, .bool false, .slice none 0 0, .slice none 0 0, .slice none 0 0] 28 (0, 0)) ∧ Below w.heap.size w (W3.alloc (.cells #[.int .i64 3, .bool false, .slice none 0 0, .slice none 0 0, .slice none 0 0] 28)) ∧ (W3.alloc (.cells #[.int .i64 3, .bool false, .slice none 0 0, .slice none 0 0, .slice none 0 0] 28)).heap.size = w.heap.size + 4) := hid0 ⟨kept b4 hr0, kept b4 hr1, kept b4 hr2, by rw [← hs3]; exact r4, Below.later hb3 b4, by rw [s4, hs3]⟩
  obtain ⟨⟨x0, x1, x2, x3, x4⟩, _⟩ := rowE HF.out.1
  have HS3 := hid0 hs3
  clear hr0 hr1 hr2 hb3 b4 r4 s4
  go_enter Tryd.func46, Tryd.ntmps46
  go_wp2
  clear x0 x1 x2 x3 x4
  generalize W3.alloc (.cells #[.int .i64 3, .bool false, .slice none 0 0, .slice none 0 0, .slice none 0 0] 28) = W at *
  obtain ⟨hF0, hF1, hF2, hF3, hFb, hFs⟩ := HF.out
  have HRe := hid0 hF0
  have HRt0 := hid0 hF1
  have HRz := hid0 hF2
  have HB := hid0 hFb
  have HS := hid0 hFs
  have HI0 : Hid (WR w W W D (.slice none 0 0) (wovR t (L.take 0))) := hid0 ⟨Below.refl _ _, hF3, ⟨[], PE.nil _ _ _⟩, by omega⟩
  clear HF hF0 hF1 hF2 hF3 hFb hFs hW3
  go_loopw [12, 7] (fun i _ wr => ∃ (k : Nat) (v : Value), k ≤ L.length ∧ i = .int .i64 (k : Int) ∧ Hid (WR w W wr D v (wovR t (L.take k)))) (fun i _ _ => L.length - (intOf i).toNat)
  case atStart => exact ⟨0, _, Nat.zero_le _, rfl, HI0⟩
  case round =>
    clear HI0
    obtain ⟨k, v, hk, rfl, HW⟩ := hrel
    have hBr : Below w.heap.size w wr := HB.out.trans (HW.out.bel.mono (by omega))
    have HBr := hid0 hBr
    have HRt1 : Hid (wr.heap[w.heap.size + 1]? = some (.cells #[.int .i64 k2, .bool t2, .slice a2 m2 c2, .slice b2 n2 d2, .slice g2 l2 z2] 28 (0, 0))) := hid0 ((HW.out.bel.block _ (by omega)).trans HRt0.out)
    by_cases hlt : k < L.length
    · have hkI : (k : Int) < (L.length : Int) := by omega
      have hkI0 : (0 : Int) ≤ (k : Int) := by omega
      have HTK := hid0 (wovR_snoc t L k hlt)
      have HMl : Hid ((wovR t (L.take k)).length ≤ 200000) := hid0 (by have := wovR_le t (L.take k); rw [List.length_take] at this; omega)
      obtain ⟨g, off, rfl, h5⟩ := HL.out k hlt
      obtain ⟨y0, y1, y2, y3, y4⟩ := h5.past hBr
      have hRk := HRr.out k hlt
      obtain ⟨k9, t9, a9, m9, c9, b9, n9, d9, g9, l9, z9, hfl⟩ := hRk.flatB
      have hkd := hRk.form.1
      rw [hfl] at hkd
      have HC := hid0 (fun (V : World) (hV : Below w.heap.size w V) => HIH.out k hlt V hV)
      unfold WovC EV.v at HC
      rw [hfl] at y0 y1 y2 y3 y4 HC hRk
      simp only [] at y0 y1 y2 y3 y4 HC hkd
      have HRk := hid0 hRk
      generalize L[k] = p at *
      have hk9 : k9 = p.kind := by cases hkd; rfl
      have HK9 := hid0 hk9
      generalize wovR t (L.take k) = M at *
      obtain ⟨av, cv, rfl⟩ : ∃ av cv, v = .slice av M.length cv := by
        obtain ⟨xs, hp⟩ := HW.out.pe
        exact hp.form
      obtain ⟨w1, hw1⟩ : ∃ w1, wr.alloc (.cells #[.int .i64 k9, .bool t9, .slice a9 m9 c9, .slice b9 n9 d9, .slice g9 l9 z9] 28) = w1 := ⟨_, rfl⟩
      obtain ⟨hb1, hr1, hs1⟩ := laid hw1
      obtain ⟨⟨e0, e1, e2, e3, e4⟩, _⟩ := rowE hr1
      have HW1 := hid0 (HW.out.past hb1)
      have HRp := hid0 hr1
      have HRt := hid0 (kept hb1 HRt1.out)
      have HS1 := hid0 hs1
      have HB1 := hid0 hb1
      have HC1 := hid0 (fun (V : World) (hV : Below w1.heap.size w1 V) => HC.out V (Below.later (Below.later hBr hb1) hV))
      have HSr : Hid (∀ V : World, V.heap[wr.heap.size]? = some (.cells #[.int .i64 k9, .bool t9, .slice a9 m9 c9, .slice b9 n9 d9, .slice g9 l9 z9] 28 (0, 0)) → V.heap[w.heap.size + 1]? = some (.cells #[.int .i64 k2, .bool t2, .slice a2 m2 c2, .slice b2 n2 d2, .slice g2 l2 z2] 28 (0, 0)) → (V.cell? ⟨wr.heap.size, 0, none⟩ = some (.int .i64 k9) ∧ V.cell? ⟨wr.heap.size, 1, none⟩ = some (.bool t9) ∧ V.cell? ⟨wr.heap.size, 2, none⟩ = some (.slice a9 m9 c9) ∧ V.cell? ⟨wr.heap.size, 3, none⟩ = some (.slice b9 n9 d9) ∧ V.cell? ⟨wr.heap.size, 4, none⟩ = some (.slice g9 l9 z9)) ∧ V.cell? ⟨w.heap.size + 1, 0, none⟩ = some (.int .i64 k2) ∧ V.cell? ⟨w.heap.size + 1, 1, none⟩ = some (.bool t2) ∧ V.cell? ⟨w.heap.size + 1, 2, none⟩ = some (.slice a2 m2 c2) ∧ V.cell? ⟨w.heap.size + 1, 3, none⟩ = some (.slice b2 n2 d2) ∧ V.cell? ⟨w.heap.size + 1, 4, none⟩ = some (.slice g2 l2 z2)) := hid0 (fun V h1 h2 => ⟨(rowE h1).1, (rowE h2).1⟩)
      have HSk := hid0 (fun (V : World) (hV : Below w1.heap.size w1 V) => HSr.out V (kept hV HRp.out) (kept hV HRt.out))
      obtain ⟨⟨_, _, _, _, h14⟩, _⟩ := rowE HW1.out.row
      obtain ⟨⟨q0, q1, q2, q3, q4⟩, _⟩ := rowE HRt.out
      obtain ⟨xs0, hp0⟩ := HW.out.pe
      have HP0 := hid0 hp0
      clear h5 hb1 hr1 hs1 hfl hkd hRk hp0 hBr hk9
      by_cases h2 : k9 = 2
      · subst h2
        have HIf : Hid ((if p.kind = 2 then [p, t] else [wovE t p]) = [p, t]) := hid0 (if_pos HK9.out.symm)
        obtain ⟨xs1, hp1⟩ := HW1.out.pe
        have HP1 := hid0 hp1
        have HOk := hid0 hp1.own
        have HX1 : Hid (ExIs w1 (fun b => (D b ∨ w.heap.size + 4 ≤ b) ∧ (Value.slice av M.length cv).ownBlock ≠ some b) p ⟨.int .i64 2, .bool t9, .slice a9 m9 c9, .slice b9 n9 d9, .slice g9 l9 z9⟩) := hid0 ((HRk.out.past (Below.later HBr.out HB1.out)).mono (fun b' _ hb' => ⟨.inl hb', fun e' => by have := (ownB_lt' HP1.out b' e').1; have := hD b' hb'; omega⟩))
        have HX2 : Hid (ExIs w1 (fun b => (D b ∨ w.heap.size + 4 ≤ b) ∧ (Value.slice av M.length cv).ownBlock ≠ some b) t ⟨.int .i64 k2, .bool t2, .slice a2 m2 c2, .slice b2 n2 d2, .slice g2 l2 z2⟩) := hid0 ((HTr.out.past (Below.later HBr.out HB1.out)).mono (fun b' _ hb' => ⟨.inl hb', fun e' => by have := (ownB_lt' HP1.out b' e').1; have := hD b' hb'; omega⟩))
        clear hp1
        go_wp2_with (first
          | (at_builtin; go_loud ((
               refine wpList_append_own_at _ (by rfl) _ _ 26 (by rfl) (w.heap.size + 4) 28 i0 (.agg #[.int .i64 0, .bool false, .slice none 0 0, .slice none 0 0, .slice none 0 0]) 5 88 Tryd.underlying26 hi hz0 hz1 hz2 rfl (by decide) (.slice av M.length cv) M.length (xs1.flatMap evC) (by rfl) (World.ownsRow.alloc HOk.out _) ⟨w1.heap.size, 0, none⟩ 2 2 (evC ⟨.int .i64 2, .bool t9, .slice a9 m9 c9, .slice b9 n9 d9, .slice g9 l9 z9⟩ ++ evC ⟨.int .i64 k2, .bool t2, .slice a2 m2 c2, .slice b2 n2 d2, .slice g2 l2 z2⟩) (by rfl) (by rfl) (cell10_new w1 _ _ _) (fun u hu => by rcases List.mem_append.1 hu with h | h; exact HX1.out.one u h; exact HX2.out.one u h) (by unfold maxLen; have := HMl.out; omega) (by have := HMl.out; omega) (by have := HW1.out.sz; simp; omega) ?_
               intro v4 w4 hown4 hgrow4 _ hat4
               have hg4 := Gr.append ((Below.refl _ w1).alloc (Nat.le_refl _) _) hgrow4 hat4
               have hp4 := PE.snoc2 HP1.out HX1.out HX2.out hg4 hown4
               have HSt := hid0 (HW1.out.stored hg4 ⟨_, hp4⟩ hD rfl)
               obtain ⟨h44, f44, hWn⟩ := HSt.out
               have HWn := hid0 hWn
               obtain ⟨a8, c8, rfl⟩ : ∃ a8 c8, v4 = .slice a8 (M.length + 2) c8 := by
                 obtain ⟨a8, c8, hv8⟩ := hp4.form
                 exact ⟨a8, c8, by rw [hv8]; simp⟩
               clear hown4 hgrow4 hat4 hg4 hp4 hWn)))
          | fail)
        go_roundw
        case rel => exact ⟨k + 1, _, by omega, by go_num, hid0 (by rw [HTK.out, HIf.out]; exact HWn.out)⟩
        case measure => simp [intOf]; omega
      · have h2B : (k9 == 2) = false := by simpa using h2
        have HIf : Hid ((if p.kind = 2 then [p, t] else [wovE t p]) = [wovE t p]) := hid0 (if_neg (by rw [← HK9.out]; exact h2))
        rw [HIf.out] at HTK
        have HC := HC1
        have hs1 := HSk.out _ (Below.refl w1.heap.size w1).drew
        go_wp2
        refine wp_region_noPanic ?_
        refine wp_region_held_drew (S := (fun V => (V.cell? ⟨wr.heap.size, 0, none⟩ = some (.int .i64 k9) ∧ V.cell? ⟨wr.heap.size, 1, none⟩ = some (.bool t9) ∧ V.cell? ⟨wr.heap.size, 2, none⟩ = some (.slice a9 m9 c9) ∧ V.cell? ⟨wr.heap.size, 3, none⟩ = some (.slice b9 n9 d9) ∧ V.cell? ⟨wr.heap.size, 4, none⟩ = some (.slice g9 l9 z9)) ∧ V.cell? ⟨w.heap.size + 1, 0, none⟩ = some (.int .i64 k2) ∧ V.cell? ⟨w.heap.size + 1, 1, none⟩ = some (.bool t2) ∧ V.cell? ⟨w.heap.size + 1, 2, none⟩ = some (.slice a2 m2 c2) ∧ V.cell? ⟨w.heap.size + 1, 3, none⟩ = some (.slice b2 n2 d2) ∧ V.cell? ⟨w.heap.size + 1, 4, none⟩ = some (.slice g2 l2 z2))) (by kernel_rfl) ?_ (fun hHeld => ?_)
        · exact hs1
        refine tkV (i := 0) (d := some 26) (v := ?_) rfl (by kernel_rfl) (by kernel_rfl) (by kernel_rfl) rfl (fun _ _ _ h => h) (by rfl) ?_ (by assumption) ?_
        rotate_left
        · (intro w hSw; (try dsimp only at hSw); (try simp only [List.getElem_toArray, List.getElem_cons_zero]); go_simp; try with_reducible rfl)
        try simp only [Act.put, List.setIfInBounds_toArray, List.set_cons_zero, List.set_cons_succ]
        refine tkV (i := 2) (d := some 28) (v := ?_) rfl (by kernel_rfl) (by kernel_rfl) (by kernel_rfl) rfl (fun _ _ _ h => h) (by rfl) ?_ (by assumption) ?_
        rotate_left
        · (intro w hSw; (try dsimp only at hSw); (try simp only [List.getElem_toArray, List.getElem_cons_zero, List.getElem_cons_succ]); go_simp; try with_reducible rfl)
        try simp only [Act.put, List.setIfInBounds_toArray, List.set_cons_zero, List.set_cons_succ]
        refine tkV (i := 3) (d := some 29) (v := ?_) rfl (by kernel_rfl) (by kernel_rfl) (by kernel_rfl) rfl (fun _ _ _ h => h) (by rfl) ?_ (by assumption) ?_
        rotate_left
        · (intro w hSw; (try dsimp only at hSw); (try simp only [List.getElem_toArray, List.getElem_cons_zero, List.getElem_cons_succ]); go_simp; try with_reducible rfl)
        try simp only [Act.put, List.setIfInBounds_toArray, List.set_cons_zero, List.set_cons_succ]
        refine wpAnyH_ready (rs := [1, 4]) (by kernel_rfl) (by simp) (AllReadyH.cons rfl (fun K hK => ?_) (AllReadyH.cons rfl (fun K hK => ?_) AllReadyH.nil))
        · try simp only [List.getElem_toArray, List.getElem_cons_zero, List.getElem_cons_succ]
          go_simp
          refine hK.out _ _ ?_ (fun hHeldL => ?_)
          · assumption
          clear hK K
          (try simp only [Act.put]); (try simp only [List.setIfInBounds_toArray]); (try simp only [List.set_cons_succ]); (try simp only [List.set_cons_zero])
          refine wpAnyH_ready (rs := [4]) (by kernel_rfl) (by simp) (AllReadyH.cons rfl (fun K hK => ?_) AllReadyH.nil)
          try simp only [List.getElem_toArray, List.getElem_cons_zero, List.getElem_cons_succ]
          go_simp
          refine (HC.out _ (Below.refl w1.heap.size w1).drew).mono ?_
          rintro r w2 hr
          obtain ⟨k5, t5, a5, m5, c5, b5, n5, d5, g5, l5, z5, rfl, q1, q2⟩ := hr.shape
          have hb2 : Below w1.heap.size w1 w2 := Below.later (Below.refl w1.heap.size w1).drew q2
          have HW2 := hid0 (HW1.out.past hb2)
          have hs2 := HSk.out _ hb2
          obtain ⟨⟨_, _, _, _, h24⟩, _⟩ := rowE HW2.out.row
          obtain ⟨xs2, hp2⟩ := HW2.out.pe
          have HP2 := hid0 hp2
          have HQ : Hid (ExIs w2 (fun b => (D b ∨ w.heap.size + 4 ≤ b) ∧ (Value.slice av M.length cv).ownBlock ≠ some b) (wovE t p) ⟨.int .i64 k5, .bool t5, .slice a5 m5 c5, .slice b5 n5 d5, .slice g5 l5 z5⟩) := hid0 (q1.mono (fun b' _ hb' => by
            have hsz := HS1.out
            have hsw := HW.out.sz
            have hdw : w1.drew.heap.size = w1.heap.size := rfl
            obtain ⟨xs0, hp0⟩ := HW.out.pe
            refine ⟨hb'.imp id (fun h => by omega), fun e' => ?_⟩
            have := ownB_lt' hp0 b' e'
            rcases hb' with hb' | hb'
            · have := hD b' hb'
              omega
            · omega))
          have HB2 := hid0 hb2
          have hs3 := HSk.out _ (Below.later hb2 ((Below.refl w2.heap.size w2).alloc (Nat.le_refl _) (.cells #[.int .i64 k5, .bool t5, .slice a5 m5 c5, .slice b5 n5 d5, .slice g5 l5 z5] 28)))
          have h34 : (w2.alloc (.cells #[.int .i64 k5, .bool t5, .slice a5 m5 c5, .slice b5 n5 d5, .slice g5 l5 z5] 28)).cell? ⟨w.heap.size + 3, 4, none⟩ = some (.slice av M.length cv) := (((Below.refl w2.heap.size w2).alloc (Nat.le_refl _) (.cells #[.int .i64 k5, .bool t5, .slice a5 m5 c5, .slice b5 n5 d5, .slice g5 l5 z5] 28)).cell (p := ⟨w.heap.size + 3, 4, none⟩) (by have := HW2.out.sz; show w.heap.size + 3 < w2.heap.size; omega)).trans h24
          have HOk : Hid (w2.ownsRow (w.heap.size + 4) 28 5 (.slice av M.length cv) M.length (xs2.flatMap evC)) := hid0 hp2.own
          clear hr q1 q2 hb2 hp2
          go_wp2_with fail
          refine hK.out _ _ ?_ (fun hHeldC => ?_)
          · exact hs2
          clear hK K
          (try simp only [Act.put]); (try simp only [List.setIfInBounds_toArray]); (try simp only [List.set_cons_succ]); (try simp only [List.set_cons_zero])
          refine wpAnyH_ready (rs := [5]) (by kernel_rfl) (by simp) (AllReadyH.cons rfl (fun K hK => ?_) AllReadyH.nil)
          try simp only [List.getElem_toArray, List.getElem_cons_zero, List.getElem_cons_succ]
          go_simp
          refine hK.out _ _ ?_ (fun hHeldL => ?_)
          · exact hs3
          clear hK K
          (try simp only [Act.put]); (try simp only [List.setIfInBounds_toArray]); (try simp only [List.set_cons_succ]); (try simp only [List.set_cons_zero])
          refine wpAnyH_ready (rs := [6]) (by kernel_rfl) (by simp) (AllReadyH.cons rfl (fun K hK => ?_) AllReadyH.nil)
          refine step_append_own_at (by rfl) _ _ 26 (by rfl) (w.heap.size + 4) 28 i0 (.agg #[.int .i64 0, .bool false, .slice none 0 0, .slice none 0 0, .slice none 0 0]) 5 88 Tryd.underlying26 hi hz0 hz1 hz2 rfl (by decide) (.slice av M.length cv) M.length (xs2.flatMap evC) (by rfl) (World.ownsRow.alloc HOk.out _) ⟨w2.heap.size, 0, none⟩ 1 1 (evC ⟨.int .i64 k5, .bool t5, .slice a5 m5 c5, .slice b5 n5 d5, .slice g5 l5 z5⟩) (by rfl) (by rfl) (cellE_new w2 _ _ _ _ _ _) HQ.out.one (by unfold maxLen; have := HMl.out; omega) (by have := HMl.out; omega) (by have := HW2.out.sz; simp; omega) ?_
          intro v4 w4 hown4 hgrow4 hat4
          have hg4 := Gr.append ((Below.refl _ w2).alloc (Nat.le_refl _) _) hgrow4 hat4
          have hp4 := PE.snoc HP2.out HQ.out hg4 hown4
          have HSt := hid0 (HW2.out.stored hg4 ⟨_, hp4⟩ hD rfl)
          obtain ⟨h44, f44, hWn⟩ := HSt.out
          have HWn := hid0 hWn
          obtain ⟨a8, c8, rfl⟩ : ∃ a8 c8, v4 = .slice a8 (M.length + 1) c8 := by
            obtain ⟨a8, c8, hv8⟩ := hp4.form
            exact ⟨a8, c8, by rw [hv8]; simp⟩
          have hs4 : (w4.cell? ⟨wr.heap.size, 0, none⟩ = some (.int .i64 k9) ∧ w4.cell? ⟨wr.heap.size, 1, none⟩ = some (.bool t9) ∧ w4.cell? ⟨wr.heap.size, 2, none⟩ = some (.slice a9 m9 c9) ∧ w4.cell? ⟨wr.heap.size, 3, none⟩ = some (.slice b9 n9 d9) ∧ w4.cell? ⟨wr.heap.size, 4, none⟩ = some (.slice g9 l9 z9)) ∧ w4.cell? ⟨w.heap.size + 1, 0, none⟩ = some (.int .i64 k2) ∧ w4.cell? ⟨w.heap.size + 1, 1, none⟩ = some (.bool t2) ∧ w4.cell? ⟨w.heap.size + 1, 2, none⟩ = some (.slice a2 m2 c2) ∧ w4.cell? ⟨w.heap.size + 1, 3, none⟩ = some (.slice b2 n2 d2) ∧ w4.cell? ⟨w.heap.size + 1, 4, none⟩ = some (.slice g2 l2 z2) := HSr.out w4 ((hg4.grow.block _ (by have := HB2.out.size; have := HS1.out; omega) (fun e' => by have := (ownB_lt' HP0.out _ e'.symm).2; omega)).trans ((HB2.out.block _ (by have := HS1.out; omega)).trans HRp.out)) ((hg4.grow.block _ (by have := HW2.out.sz; omega) (fun e' => by have := (ownB_lt' HP2.out _ e'.symm).1; omega)).trans ((HB2.out.block _ (by have := HW1.out.sz; omega)).trans HRt.out))
          have hs5 : ((w4.setCell ⟨w.heap.size + 3, 4, none⟩ (.slice a8 (M.length + 1) c8)).cell? ⟨wr.heap.size, 0, none⟩ = some (.int .i64 k9) ∧ (w4.setCell ⟨w.heap.size + 3, 4, none⟩ (.slice a8 (M.length + 1) c8)).cell? ⟨wr.heap.size, 1, none⟩ = some (.bool t9) ∧ (w4.setCell ⟨w.heap.size + 3, 4, none⟩ (.slice a8 (M.length + 1) c8)).cell? ⟨wr.heap.size, 2, none⟩ = some (.slice a9 m9 c9) ∧ (w4.setCell ⟨w.heap.size + 3, 4, none⟩ (.slice a8 (M.length + 1) c8)).cell? ⟨wr.heap.size, 3, none⟩ = some (.slice b9 n9 d9) ∧ (w4.setCell ⟨w.heap.size + 3, 4, none⟩ (.slice a8 (M.length + 1) c8)).cell? ⟨wr.heap.size, 4, none⟩ = some (.slice g9 l9 z9)) ∧ (w4.setCell ⟨w.heap.size + 3, 4, none⟩ (.slice a8 (M.length + 1) c8)).cell? ⟨w.heap.size + 1, 0, none⟩ = some (.int .i64 k2) ∧ (w4.setCell ⟨w.heap.size + 3, 4, none⟩ (.slice a8 (M.length + 1) c8)).cell? ⟨w.heap.size + 1, 1, none⟩ = some (.bool t2) ∧ (w4.setCell ⟨w.heap.size + 3, 4, none⟩ (.slice a8 (M.length + 1) c8)).cell? ⟨w.heap.size + 1, 2, none⟩ = some (.slice a2 m2 c2) ∧ (w4.setCell ⟨w.heap.size + 3, 4, none⟩ (.slice a8 (M.length + 1) c8)).cell? ⟨w.heap.size + 1, 3, none⟩ = some (.slice b2 n2 d2) ∧ (w4.setCell ⟨w.heap.size + 3, 4, none⟩ (.slice a8 (M.length + 1) c8)).cell? ⟨w.heap.size + 1, 4, none⟩ = some (.slice g2 l2 z2) := HSr.out _ ((Below.heap_setCell _ _ _ _ (by have := HW.out.sz; simp; omega)).trans ((hg4.grow.block _ (by have := HB2.out.size; have := HS1.out; omega) (fun e' => by have := (ownB_lt' HP0.out _ e'.symm).2; omega)).trans ((HB2.out.block _ (by have := HS1.out; omega)).trans HRp.out))) ((Below.heap_setCell _ _ _ _ (by simp)).trans ((hg4.grow.block _ (by have := HW2.out.sz; omega) (fun e' => by have := (ownB_lt' HP2.out _ e'.symm).1; omega)).trans ((HB2.out.block _ (by have := HW1.out.sz; omega)).trans HRt.out)))
          clear hown4 hgrow4 hat4 hg4 hp4 hWn
          refine hK.out _ _ ?_ (fun hHeldA => ?_)
          · exact hs4
          clear hK K
          (try simp only [Act.put]); (try simp only [List.setIfInBounds_toArray]); (try simp only [List.set_cons_succ]); (try simp only [List.set_cons_zero])
          refine tkV (i := 7) (d := some 33) (v := ?_) rfl (by kernel_rfl) (by kernel_rfl) (by kernel_rfl) rfl (fun _ _ _ h => h) (by rfl) ?_ (by assumption) ?_
          rotate_left
          · (intro w hSw; (try dsimp only at hSw); (try simp only [List.getElem_toArray, List.getElem_cons_zero, List.getElem_cons_succ]); go_simp; try with_reducible rfl)
          (try simp only [Act.put]); (try simp only [List.setIfInBounds_toArray]); (try simp only [List.set_cons_succ]); (try simp only [List.set_cons_zero])
          refine wpAnyH_ready (rs := [8]) (by kernel_rfl) (by simp) (AllReadyH.cons rfl (fun K hK => ?_) AllReadyH.nil)
          try simp only [List.getElem_toArray, List.getElem_cons_zero, List.getElem_cons_succ]
          go_simp
          refine hK.out _ _ ?_ (fun hHeldS => ?_)
          · exact hs5
          clear hK K
          (try simp only [Act.put]); (try simp only [List.setIfInBounds_toArray]); (try simp only [List.set_cons_succ]); (try simp only [List.set_cons_zero])
          refine wpAnyH_done (by kernel_rfl) ?_ _
          refine NoPanic.normal ?_
          go_wp2
          go_roundw
          case rel => exact ⟨k + 1, _, by omega, by go_num, hid0 (by rw [HTK.out]; exact HWn.out)⟩
          case measure => simp [intOf]; omega
        · try simp only [List.getElem_toArray, List.getElem_cons_zero, List.getElem_cons_succ]
          go_simp
          refine (HC.out _ (Below.refl w1.heap.size w1).drew).mono ?_
          rintro r w2 hr
          obtain ⟨k5, t5, a5, m5, c5, b5, n5, d5, g5, l5, z5, rfl, q1, q2⟩ := hr.shape
          have hb2 : Below w1.heap.size w1 w2 := Below.later (Below.refl w1.heap.size w1).drew q2
          have HW2 := hid0 (HW1.out.past hb2)
          have hs2 := HSk.out _ hb2
          obtain ⟨⟨_, _, _, _, h24⟩, _⟩ := rowE HW2.out.row
          obtain ⟨xs2, hp2⟩ := HW2.out.pe
          have HP2 := hid0 hp2
          have HQ : Hid (ExIs w2 (fun b => (D b ∨ w.heap.size + 4 ≤ b) ∧ (Value.slice av M.length cv).ownBlock ≠ some b) (wovE t p) ⟨.int .i64 k5, .bool t5, .slice a5 m5 c5, .slice b5 n5 d5, .slice g5 l5 z5⟩) := hid0 (q1.mono (fun b' _ hb' => by
            have hsz := HS1.out
            have hsw := HW.out.sz
            have hdw : w1.drew.heap.size = w1.heap.size := rfl
            obtain ⟨xs0, hp0⟩ := HW.out.pe
            refine ⟨hb'.imp id (fun h => by omega), fun e' => ?_⟩
            have := ownB_lt' hp0 b' e'
            rcases hb' with hb' | hb'
            · have := hD b' hb'
              omega
            · omega))
          have HB2 := hid0 hb2
          have hs3 := HSk.out _ (Below.later hb2 ((Below.refl w2.heap.size w2).alloc (Nat.le_refl _) (.cells #[.int .i64 k5, .bool t5, .slice a5 m5 c5, .slice b5 n5 d5, .slice g5 l5 z5] 28)))
          have h34 : (w2.alloc (.cells #[.int .i64 k5, .bool t5, .slice a5 m5 c5, .slice b5 n5 d5, .slice g5 l5 z5] 28)).cell? ⟨w.heap.size + 3, 4, none⟩ = some (.slice av M.length cv) := (((Below.refl w2.heap.size w2).alloc (Nat.le_refl _) (.cells #[.int .i64 k5, .bool t5, .slice a5 m5 c5, .slice b5 n5 d5, .slice g5 l5 z5] 28)).cell (p := ⟨w.heap.size + 3, 4, none⟩) (by have := HW2.out.sz; show w.heap.size + 3 < w2.heap.size; omega)).trans h24
          have HOk : Hid (w2.ownsRow (w.heap.size + 4) 28 5 (.slice av M.length cv) M.length (xs2.flatMap evC)) := hid0 hp2.own
          clear hr q1 q2 hb2 hp2
          go_wp2_with fail
          refine hK.out _ _ ?_ (fun hHeldC => ?_)
          · exact hs2
          clear hK K
          (try simp only [Act.put]); (try simp only [List.setIfInBounds_toArray]); (try simp only [List.set_cons_succ]); (try simp only [List.set_cons_zero])
          refine wpAnyH_ready (rs := [1, 5]) (by kernel_rfl) (by simp) (AllReadyH.cons rfl (fun K hK => ?_) (AllReadyH.cons rfl (fun K hK => ?_) AllReadyH.nil))
          · try simp only [List.getElem_toArray, List.getElem_cons_zero, List.getElem_cons_succ]
            go_simp
            refine hK.out _ _ ?_ (fun hHeldL => ?_)
            · exact hs2
            clear hK K
            (try simp only [Act.put]); (try simp only [List.setIfInBounds_toArray]); (try simp only [List.set_cons_succ]); (try simp only [List.set_cons_zero])
            refine wpAnyH_ready (rs := [5]) (by kernel_rfl) (by simp) (AllReadyH.cons rfl (fun K hK => ?_) AllReadyH.nil)
            try simp only [List.getElem_toArray, List.getElem_cons_zero, List.getElem_cons_succ]
            go_simp
            refine hK.out _ _ ?_ (fun hHeldL => ?_)
            · exact hs3
            clear hK K
            (try simp only [Act.put]); (try simp only [List.setIfInBounds_toArray]); (try simp only [List.set_cons_succ]); (try simp only [List.set_cons_zero])
            refine wpAnyH_ready (rs := [6]) (by kernel_rfl) (by simp) (AllReadyH.cons rfl (fun K hK => ?_) AllReadyH.nil)
            refine step_append_own_at (by rfl) _ _ 26 (by rfl) (w.heap.size + 4) 28 i0 (.agg #[.int .i64 0, .bool false, .slice none 0 0, .slice none 0 0, .slice none 0 0]) 5 88 Tryd.underlying26 hi hz0 hz1 hz2 rfl (by decide) (.slice av M.length cv) M.length (xs2.flatMap evC) (by rfl) (World.ownsRow.alloc HOk.out _) ⟨w2.heap.size, 0, none⟩ 1 1 (evC ⟨.int .i64 k5, .bool t5, .slice a5 m5 c5, .slice b5 n5 d5, .slice g5 l5 z5⟩) (by rfl) (by rfl) (cellE_new w2 _ _ _ _ _ _) HQ.out.one (by unfold maxLen; have := HMl.out; omega) (by have := HMl.out; omega) (by have := HW2.out.sz; simp; omega) ?_
            intro v4 w4 hown4 hgrow4 hat4
            have hg4 := Gr.append ((Below.refl _ w2).alloc (Nat.le_refl _) _) hgrow4 hat4
            have hp4 := PE.snoc HP2.out HQ.out hg4 hown4
            have HSt := hid0 (HW2.out.stored hg4 ⟨_, hp4⟩ hD rfl)
            obtain ⟨h44, f44, hWn⟩ := HSt.out
            have HWn := hid0 hWn
            obtain ⟨a8, c8, rfl⟩ : ∃ a8 c8, v4 = .slice a8 (M.length + 1) c8 := by
              obtain ⟨a8, c8, hv8⟩ := hp4.form
              exact ⟨a8, c8, by rw [hv8]; simp⟩
            have hs4 : (w4.cell? ⟨wr.heap.size, 0, none⟩ = some (.int .i64 k9) ∧ w4.cell? ⟨wr.heap.size, 1, none⟩ = some (.bool t9) ∧ w4.cell? ⟨wr.heap.size, 2, none⟩ = some (.slice a9 m9 c9) ∧ w4.cell? ⟨wr.heap.size, 3, none⟩ = some (.slice b9 n9 d9) ∧ w4.cell? ⟨wr.heap.size, 4, none⟩ = some (.slice g9 l9 z9)) ∧ w4.cell? ⟨w.heap.size + 1, 0, none⟩ = some (.int .i64 k2) ∧ w4.cell? ⟨w.heap.size + 1, 1, none⟩ = some (.bool t2) ∧ w4.cell? ⟨w.heap.size + 1, 2, none⟩ = some (.slice a2 m2 c2) ∧ w4.cell? ⟨w.heap.size + 1, 3, none⟩ = some (.slice b2 n2 d2) ∧ w4.cell? ⟨w.heap.size + 1, 4, none⟩ = some (.slice g2 l2 z2) := HSr.out w4 ((hg4.grow.block _ (by have := HB2.out.size; have := HS1.out; omega) (fun e' => by have := (ownB_lt' HP0.out _ e'.symm).2; omega)).trans ((HB2.out.block _ (by have := HS1.out; omega)).trans HRp.out)) ((hg4.grow.block _ (by have := HW2.out.sz; omega) (fun e' => by have := (ownB_lt' HP2.out _ e'.symm).1; omega)).trans ((HB2.out.block _ (by have := HW1.out.sz; omega)).trans HRt.out))
            have hs5 : ((w4.setCell ⟨w.heap.size + 3, 4, none⟩ (.slice a8 (M.length + 1) c8)).cell? ⟨wr.heap.size, 0, none⟩ = some (.int .i64 k9) ∧ (w4.setCell ⟨w.heap.size + 3, 4, none⟩ (.slice a8 (M.length + 1) c8)).cell? ⟨wr.heap.size, 1, none⟩ = some (.bool t9) ∧ (w4.setCell ⟨w.heap.size + 3, 4, none⟩ (.slice a8 (M.length + 1) c8)).cell? ⟨wr.heap.size, 2, none⟩ = some (.slice a9 m9 c9) ∧ (w4.setCell ⟨w.heap.size + 3, 4, none⟩ (.slice a8 (M.length + 1) c8)).cell? ⟨wr.heap.size, 3, none⟩ = some (.slice b9 n9 d9) ∧ (w4.setCell ⟨w.heap.size + 3, 4, none⟩ (.slice a8 (M.length + 1) c8)).cell? ⟨wr.heap.size, 4, none⟩ = some (.slice g9 l9 z9)) ∧ (w4.setCell ⟨w.heap.size + 3, 4, none⟩ (.slice a8 (M.length + 1) c8)).cell? ⟨w.heap.size + 1, 0, none⟩ = some (.int .i64 k2) ∧ (w4.setCell ⟨w.heap.size + 3, 4, none⟩ (.slice a8 (M.length + 1) c8)).cell? ⟨w.heap.size + 1, 1, none⟩ = some (.bool t2) ∧ (w4.setCell ⟨w.heap.size + 3, 4, none⟩ (.slice a8 (M.length + 1) c8)).cell? ⟨w.heap.size + 1, 2, none⟩ = some (.slice a2 m2 c2) ∧ (w4.setCell ⟨w.heap.size + 3, 4, none⟩ (.slice a8 (M.length + 1) c8)).cell? ⟨w.heap.size + 1, 3, none⟩ = some (.slice b2 n2 d2) ∧ (w4.setCell ⟨w.heap.size + 3, 4, none⟩ (.slice a8 (M.length + 1) c8)).cell? ⟨w.heap.size + 1, 4, none⟩ = some (.slice g2 l2 z2) := HSr.out _ ((Below.heap_setCell _ _ _ _ (by have := HW.out.sz; simp; omega)).trans ((hg4.grow.block _ (by have := HB2.out.size; have := HS1.out; omega) (fun e' => by have := (ownB_lt' HP0.out _ e'.symm).2; omega)).trans ((HB2.out.block _ (by have := HS1.out; omega)).trans HRp.out))) ((Below.heap_setCell _ _ _ _ (by simp)).trans ((hg4.grow.block _ (by have := HW2.out.sz; omega) (fun e' => by have := (ownB_lt' HP2.out _ e'.symm).1; omega)).trans ((HB2.out.block _ (by have := HW1.out.sz; omega)).trans HRt.out)))
            clear hown4 hgrow4 hat4 hg4 hp4 hWn
            refine hK.out _ _ ?_ (fun hHeldA => ?_)
            · exact hs4
            clear hK K
            (try simp only [Act.put]); (try simp only [List.setIfInBounds_toArray]); (try simp only [List.set_cons_succ]); (try simp only [List.set_cons_zero])
            refine tkV (i := 7) (d := some 33) (v := ?_) rfl (by kernel_rfl) (by kernel_rfl) (by kernel_rfl) rfl (fun _ _ _ h => h) (by rfl) ?_ (by assumption) ?_
            rotate_left
            · (intro w hSw; (try dsimp only at hSw); (try simp only [List.getElem_toArray, List.getElem_cons_zero, List.getElem_cons_succ]); go_simp; try with_reducible rfl)
            (try simp only [Act.put]); (try simp only [List.setIfInBounds_toArray]); (try simp only [List.set_cons_succ]); (try simp only [List.set_cons_zero])
            refine wpAnyH_ready (rs := [8]) (by kernel_rfl) (by simp) (AllReadyH.cons rfl (fun K hK => ?_) AllReadyH.nil)
            try simp only [List.getElem_toArray, List.getElem_cons_zero, List.getElem_cons_succ]
            go_simp
            refine hK.out _ _ ?_ (fun hHeldS => ?_)
            · exact hs5
            clear hK K
            (try simp only [Act.put]); (try simp only [List.setIfInBounds_toArray]); (try simp only [List.set_cons_succ]); (try simp only [List.set_cons_zero])
            refine wpAnyH_done (by kernel_rfl) ?_ _
            refine NoPanic.normal ?_
            go_wp2
            go_roundw
            case rel => exact ⟨k + 1, _, by omega, by go_num, hid0 (by rw [HTK.out]; exact HWn.out)⟩
            case measure => simp [intOf]; omega
          · try simp only [List.getElem_toArray, List.getElem_cons_zero, List.getElem_cons_succ]
            go_simp
            refine hK.out _ _ ?_ (fun hHeldL => ?_)
            · exact hs3
            clear hK K
            (try simp only [Act.put]); (try simp only [List.setIfInBounds_toArray]); (try simp only [List.set_cons_succ]); (try simp only [List.set_cons_zero])
            refine wpAnyH_ready (rs := [1]) (by kernel_rfl) (by simp) (AllReadyH.cons rfl (fun K hK => ?_) AllReadyH.nil)
            try simp only [List.getElem_toArray, List.getElem_cons_zero, List.getElem_cons_succ]
            go_simp
            refine hK.out _ _ ?_ (fun hHeldL => ?_)
            · exact hs3
            clear hK K
            (try simp only [Act.put]); (try simp only [List.setIfInBounds_toArray]); (try simp only [List.set_cons_succ]); (try simp only [List.set_cons_zero])
            refine wpAnyH_ready (rs := [6]) (by kernel_rfl) (by simp) (AllReadyH.cons rfl (fun K hK => ?_) AllReadyH.nil)
            refine step_append_own_at (by rfl) _ _ 26 (by rfl) (w.heap.size + 4) 28 i0 (.agg #[.int .i64 0, .bool false, .slice none 0 0, .slice none 0 0, .slice none 0 0]) 5 88 Tryd.underlying26 hi hz0 hz1 hz2 rfl (by decide) (.slice av M.length cv) M.length (xs2.flatMap evC) (by rfl) (World.ownsRow.alloc HOk.out _) ⟨w2.heap.size, 0, none⟩ 1 1 (evC ⟨.int .i64 k5, .bool t5, .slice a5 m5 c5, .slice b5 n5 d5, .slice g5 l5 z5⟩) (by rfl) (by rfl) (cellE_new w2 _ _ _ _ _ _) HQ.out.one (by unfold maxLen; have := HMl.out; omega) (by have := HMl.out; omega) (by have := HW2.out.sz; simp; omega) ?_
            intro v4 w4 hown4 hgrow4 hat4
            have hg4 := Gr.append ((Below.refl _ w2).alloc (Nat.le_refl _) _) hgrow4 hat4
            have hp4 := PE.snoc HP2.out HQ.out hg4 hown4
            have HSt := hid0 (HW2.out.stored hg4 ⟨_, hp4⟩ hD rfl)
            obtain ⟨h44, f44, hWn⟩ := HSt.out
            have HWn := hid0 hWn
            obtain ⟨a8, c8, rfl⟩ : ∃ a8 c8, v4 = .slice a8 (M.length + 1) c8 := by
              obtain ⟨a8, c8, hv8⟩ := hp4.form
              exact ⟨a8, c8, by rw [hv8]; simp⟩
            have hs4 : (w4.cell? ⟨wr.heap.size, 0, none⟩ = some (.int .i64 k9) ∧ w4.cell? ⟨wr.heap.size, 1, none⟩ = some (.bool t9) ∧ w4.cell? ⟨wr.heap.size, 2, none⟩ = some (.slice a9 m9 c9) ∧ w4.cell? ⟨wr.heap.size, 3, none⟩ = some (.slice b9 n9 d9) ∧ w4.cell? ⟨wr.heap.size, 4, none⟩ = some (.slice g9 l9 z9)) ∧ w4.cell? ⟨w.heap.size + 1, 0, none⟩ = some (.int .i64 k2) ∧ w4.cell? ⟨w.heap.size + 1, 1, none⟩ = some (.bool t2) ∧ w4.cell? ⟨w.heap.size + 1, 2, none⟩ = some (.slice a2 m2 c2) ∧ w4.cell? ⟨w.heap.size + 1, 3, none⟩ = some (.slice b2 n2 d2) ∧ w4.cell? ⟨w.heap.size + 1, 4, none⟩ = some (.slice g2 l2 z2) := HSr.out w4 ((hg4.grow.block _ (by have := HB2.out.size; have := HS1.out; omega) (fun e' => by have := (ownB_lt' HP0.out _ e'.symm).2; omega)).trans ((HB2.out.block _ (by have := HS1.out; omega)).trans HRp.out)) ((hg4.grow.block _ (by have := HW2.out.sz; omega) (fun e' => by have := (ownB_lt' HP2.out _ e'.symm).1; omega)).trans ((HB2.out.block _ (by have := HW1.out.sz; omega)).trans HRt.out))
            have hs5 : ((w4.setCell ⟨w.heap.size + 3, 4, none⟩ (.slice a8 (M.length + 1) c8)).cell? ⟨wr.heap.size, 0, none⟩ = some (.int .i64 k9) ∧ (w4.setCell ⟨w.heap.size + 3, 4, none⟩ (.slice a8 (M.length + 1) c8)).cell? ⟨wr.heap.size, 1, none⟩ = some (.bool t9) ∧ (w4.setCell ⟨w.heap.size + 3, 4, none⟩ (.slice a8 (M.length + 1) c8)).cell? ⟨wr.heap.size, 2, none⟩ = some (.slice a9 m9 c9) ∧ (w4.setCell ⟨w.heap.size + 3, 4, none⟩ (.slice a8 (M.length + 1) c8)).cell? ⟨wr.heap.size, 3, none⟩ = some (.slice b9 n9 d9) ∧ (w4.setCell ⟨w.heap.size + 3, 4, none⟩ (.slice a8 (M.length + 1) c8)).cell? ⟨wr.heap.size, 4, none⟩ = some (.slice g9 l9 z9)) ∧ (w4.setCell ⟨w.heap.size + 3, 4, none⟩ (.slice a8 (M.length + 1) c8)).cell? ⟨w.heap.size + 1, 0, none⟩ = some (.int .i64 k2) ∧ (w4.setCell ⟨w.heap.size + 3, 4, none⟩ (.slice a8 (M.length + 1) c8)).cell? ⟨w.heap.size + 1, 1, none⟩ = some (.bool t2) ∧ (w4.setCell ⟨w.heap.size + 3, 4, none⟩ (.slice a8 (M.length + 1) c8)).cell? ⟨w.heap.size + 1, 2, none⟩ = some (.slice a2 m2 c2) ∧ (w4.setCell ⟨w.heap.size + 3, 4, none⟩ (.slice a8 (M.length + 1) c8)).cell? ⟨w.heap.size + 1, 3, none⟩ = some (.slice b2 n2 d2) ∧ (w4.setCell ⟨w.heap.size + 3, 4, none⟩ (.slice a8 (M.length + 1) c8)).cell? ⟨w.heap.size + 1, 4, none⟩ = some (.slice g2 l2 z2) := HSr.out _ ((Below.heap_setCell _ _ _ _ (by have := HW.out.sz; simp; omega)).trans ((hg4.grow.block _ (by have := HB2.out.size; have := HS1.out; omega) (fun e' => by have := (ownB_lt' HP0.out _ e'.symm).2; omega)).trans ((HB2.out.block _ (by have := HS1.out; omega)).trans HRp.out))) ((Below.heap_setCell _ _ _ _ (by simp)).trans ((hg4.grow.block _ (by have := HW2.out.sz; omega) (fun e' => by have := (ownB_lt' HP2.out _ e'.symm).1; omega)).trans ((HB2.out.block _ (by have := HW1.out.sz; omega)).trans HRt.out)))
            clear hown4 hgrow4 hat4 hg4 hp4 hWn
            refine hK.out _ _ ?_ (fun hHeldA => ?_)
            · exact hs4
            clear hK K
            (try simp only [Act.put]); (try simp only [List.setIfInBounds_toArray]); (try simp only [List.set_cons_succ]); (try simp only [List.set_cons_zero])
            refine tkV (i := 7) (d := some 33) (v := ?_) rfl (by kernel_rfl) (by kernel_rfl) (by kernel_rfl) rfl (fun _ _ _ h => h) (by rfl) ?_ (by assumption) ?_
            rotate_left
            · (intro w hSw; (try dsimp only at hSw); (try simp only [List.getElem_toArray, List.getElem_cons_zero, List.getElem_cons_succ]); go_simp; try with_reducible rfl)
            (try simp only [Act.put]); (try simp only [List.setIfInBounds_toArray]); (try simp only [List.set_cons_succ]); (try simp only [List.set_cons_zero])
            refine wpAnyH_ready (rs := [8]) (by kernel_rfl) (by simp) (AllReadyH.cons rfl (fun K hK => ?_) AllReadyH.nil)
            try simp only [List.getElem_toArray, List.getElem_cons_zero, List.getElem_cons_succ]
            go_simp
            refine hK.out _ _ ?_ (fun hHeldS => ?_)
            · exact hs5
            clear hK K
            (try simp only [Act.put]); (try simp only [List.setIfInBounds_toArray]); (try simp only [List.set_cons_succ]); (try simp only [List.set_cons_zero])
            refine wpAnyH_done (by kernel_rfl) ?_ _
            refine NoPanic.normal ?_
            go_wp2
            go_roundw
            case rel => exact ⟨k + 1, _, by omega, by go_num, hid0 (by rw [HTK.out]; exact HWn.out)⟩
            case measure => simp [intOf]; omega
    · have hkI : ¬ (k : Int) < (L.length : Int) := by omega
      have HWl : Hid (WR w W wr D v (wovR t L)) := hid0 (by have h := HW.out; rw [List.take_of_length_le (by omega)] at h; exact h)
      obtain ⟨xs, hp⟩ := HWl.out.pe
      obtain ⟨c8, z8, hv, hx⟩ := hp.ex (fun g' hg' => .inr hg') (by have := wovR_le t L; omega) 3
      subst hv
      have hrz := (HW.out.bel.block (w.heap.size + 1 + 1) (by omega)).trans HRz.out
      have hd := ret_doneB (D := D) HBr.out (show w.heap.size ≤ w.heap.size + 1 + 1 by omega) (fun b' h' => by have := hD b' h'; omega) (show w.heap.size + 1 + 1 < w.heap.size + 4 by omega) hrz hx
      unfold EV.v at hd
      dsimp only at hd
      obtain ⟨V, hV, hVr, _, hR⟩ := hd
      obtain ⟨⟨v0, v1, v2, v3, v4⟩, f0, f1, f2, f3, f4⟩ := rowE hrz
      obtain ⟨⟨u0, u1, u2, u3, u4⟩, _⟩ := rowE HWl.out.row
      have HR := hid0 hR
      have HVr := hid0 hVr
      unfold setE at hV
      have HV := hid0 hV
      clear hV hVr hR hx hp hrz
      go_wp2
      rw [← HV.out]
      obtain ⟨⟨kk0, kk1, kk2, kk3, kk4⟩, _⟩ := rowE HVr.out
      exact bodyPost_ret (v := .agg #[.int .i64 3, .bool false, .slice none 0 0, .slice none 0 0, .slice c8 (wovR t L).length z8]) (by simp [results, Tryd.results46, go_sem, kk0, kk1, kk2, kk3, kk4]) rfl HR.out
end Go.Proofs.YtiapefdklojhdaaDoor
namespace Go.Proofs.YtiapefdklojhdaaDoor
open Go.RowKit Go.Shelf
/-- A set and the trail behind it. -/
theorem pair_is {W w1 : World} {D : Nat → Prop} {e t : Ex} {x y : EV} (hx : ExIs W D e x) (hy : ExIs W D t y) (h1 : W.alloc (.cells #[x.k, x.t, x.n, x.p, x.r, y.k, y.t, y.n, y.p, y.r] 28) = w1) :
    ExIs w1 (fun b => D b ∨ W.heap.size ≤ b) (.mk 3 false [] [] [e, t]) ⟨.int .i64 3, .bool false, .slice none 0 0, .slice none 0 0, .slice (some ⟨W.heap.size, 0, none⟩) 2 2⟩ := by
  obtain ⟨hb, hr, _⟩ := laid h1
  have hc : ∀ j, w1.cell? ⟨W.heap.size, j, none⟩ = _ := fun j => cell_of_row _ _ _ _ _ _ hr
  refine .mk 3 false [] [] [e, t] none 0 none 0 (some ⟨W.heap.size, 0, none⟩) 2 (fun i => if i = 0 then x else y) (SQ.nil _ _ _) (RQ.nil _ _ _) (by simp) (by simp) (by simp) (fun i hi => ?_) (fun i hi => ?_)
  · have : i = 0 ∨ i = 1 := by simp at hi; omega
    rcases this with rfl | rfl
    · exact ⟨_, 0, rfl, .inr (Nat.le_refl _), by rw [hc]; rfl, by rw [hc]; rfl, by rw [hc]; rfl, by rw [hc]; rfl, by rw [hc]; rfl⟩
    · exact ⟨_, 0, rfl, .inr (Nat.le_refl _), by rw [hc]; rfl, by rw [hc]; rfl, by rw [hc]; rfl, by rw [hc]; rfl, by rw [hc]; rfl⟩
  · have : i = 0 ∨ i = 1 := by simp at hi; omega
    rcases this with rfl | rfl
    · exact (hx.past hb).mono (fun _ _ h => .inl h)
    · exact (hy.past hb).mono (fun _ _ h => .inl h)
set_option maxRecDepth 10000 in
set_option maxHeartbeats 1600000 in
theorem woven_node (t : Ex) (y : EV) (D : Nat → Prop) (k : Int) (nt : Bool) (N : List ByteArray) (P : List (Int × Int)) (L : List Ex) (a b c : Option Addr) (ca cb cc : Nat) (vs : Nat → EV) (w : World) (hD : ∀ b, D b → b < w.heap.size) (hl : L.length ≤ 100000) (ht : ExIs w D t y) (hx : ExIs w D (.mk k nt N P L) ⟨.int .i64 k, .bool nt, .slice a N.length ca, .slice b P.length cb, .slice c L.length cc⟩)
    (hL : ∀ i, i < L.length → ∃ g off, c = some ⟨g, off, none⟩ ∧ Five w g (off + i * 5) (vs i)) (hR : ∀ i (h : i < L.length), ExIs w D L[i] (vs i)) (ih : ∀ i (h : i < L.length) (W : World), Below w.heap.size w W → WovC t y D L[i] (vs i) W) :
    WovC t y D (.mk k nt N P L) ⟨.int .i64 k, .bool nt, .slice a N.length ca, .slice b P.length cb, .slice c L.length cc⟩ w := by
  unfold WovC
  have hFl : ∀ i, i < L.length → ∃ k t a m c b n d g l z, vs i = ⟨.int .i64 k, .bool t, .slice a m c, .slice b n d, .slice g l z⟩ := fun i hi => (hR i hi).flatB
  have HRow := hid0 (fun (V : World) (hV : Below w.heap.size w V) => wovenRow_any t y D k nt (.slice a N.length ca) (.slice b P.length cb) L c cc vs V (fun b' h' => Nat.lt_of_lt_of_le (hD b' h') hV.size) hl (ht.past hV) ⟨_, _, _, rfl⟩ ⟨_, _, _, rfl⟩ (fun i hi => by
    obtain ⟨g, off, e, h5⟩ := hL i hi
    exact ⟨g, off, e, h5.past hV⟩) (fun i hi => (hR i hi).past hV) (fun i hi W hW => ih i hi W (Below.later hV hW)))
  have HEb := hid0 (fun (V : World) (hV : Below w.heap.size w V) (X : Nat) (hy : V.heap[X]? = some (.cells #[y.k, y.t, y.n, y.p, y.r] 28 (0, 0))) => eachW_any t D X L c cc vs V (fun b' h' => Nat.lt_of_lt_of_le (hD b' h') hV.size) (by omega) (fun i hi => by
    obtain ⟨g, off, e, h5⟩ := hL i hi
    exact ⟨g, off, e, h5.past hV⟩) hFl (fun i hi W hW => inner_any t y D X L[i] (vs i) W (fun b' h' => Nat.lt_of_lt_of_le (hD b' h') (Nat.le_trans hV.size hW.size)) (kept hW hy) (hFl i hi) ht.flatB (fun U hU => ih i hi U (Below.later (Below.later hV hW) hU))))
  have HPr := hid0 (fun (V w1 : World) (hV : Below w.heap.size w V) => pair_is (w1 := w1) (hx.past hV) (ht.past hV))
  obtain ⟨k2, t2, a2, m2, c2, b2, n2, d2, g2, l2, z2, rfl⟩ := ht.flatB
  unfold EV.v at HRow ⊢
  simp only [] at HRow HEb HPr ⊢
  clear ht hx hL hR ih hFl
  obtain ⟨W, hW⟩ : ∃ W, ((w.alloc (.cells #[.int .i64 k, .bool nt, .slice a N.length ca, .slice b P.length cb, .slice c L.length cc] 28)).alloc (.cells #[.int .i64 k2, .bool t2, .slice a2 m2 c2, .slice b2 n2 d2, .slice g2 l2 z2] 28)).alloc (.cells #[.int .i64 0, .bool false, .slice none 0 0, .slice none 0 0, .slice none 0 0] 28) = W := ⟨_, rfl⟩
  obtain ⟨hr0, hr1, hr2, hb, hs⟩ := three_rows w _ _ _ _ _ _ _ _ _ _ _ _ _ _ _ _ W hW.symm
  obtain ⟨⟨x0, x1, x2, x3, x4⟩, _⟩ := rowE hr0
  obtain ⟨⟨y0, y1, y2, y3, y4⟩, _⟩ := rowE hr1
  have HB := hid0 hb
  have HS := hid0 hs
  have HRz := hid0 hr2
  by_cases h2 : k = 2
  · subst h2
    obtain ⟨w1, hw1⟩ : ∃ w1, W.alloc (.cells #[.int .i64 2, .bool nt, .slice a N.length ca, .slice b P.length cb, .slice c L.length cc, .int .i64 k2, .bool t2, .slice a2 m2 c2, .slice b2 n2 d2, .slice g2 l2 z2] 28) = w1 := ⟨_, rfl⟩
    have hx1 := HPr.out W w1 hb hw1
    obtain ⟨hb1, _, _⟩ := laid hw1
    have hd := ret_doneB (D := D) (Below.later HB.out hb1) (show w.heap.size ≤ w.heap.size + 1 + 1 by omega) (fun b' h' => by have := hD b' h'; omega) (show w.heap.size + 1 + 1 < W.heap.size by have := HS.out; omega) (kept hb1 HRz.out) hx1
    unfold EV.v at hd
    dsimp only at hd
    obtain ⟨V, hV, hVr, hVo, hR⟩ := hd
    obtain ⟨⟨v0, v1, v2, v3, v4⟩, f0, f1, f2, f3, f4⟩ := rowE (kept hb1 HRz.out)
    have HR := hid0 hR
    have HVr := hid0 hVr
    unfold setE at hV
    have HV := hid0 hV
    have HE : Hid (wovE t (.mk 2 nt N P L) = .mk 3 false [] [] [.mk 2 nt N P L, t]) := hid0 (by rw [wovE, if_pos rfl])
    clear hr0 hr1 hr2 hb hs hV hVr hVo hR hb1 hx1
    go_enter Tryd.func24, Tryd.ntmps24
    go_wp2
    rw [← HV.out]
    obtain ⟨⟨kk0, kk1, kk2, kk3, kk4⟩, _⟩ := rowE HVr.out
    exact bodyPost_ret (v := .agg #[.int .i64 3, .bool false, .slice none 0 0, .slice none 0 0, .slice (some ⟨W.heap.size, 0, none⟩) 2 2]) (by simp [results, Tryd.results24, go_sem, kk0, kk1, kk2, kk3, kk4]) rfl (by rw [HE.out]; exact HR.out)
  · have h2B : (k == 2) = false := by simpa using h2
    by_cases h3 : k = 3
    · subst h3
      have HE : Hid (wovE t (.mk 3 nt N P L) = .mk 3 false [] [] (wovR t L)) := hid0 (by rw [wovE, if_neg (by decide), if_pos rfl])
      have HC := hid0 (HRow.out W hb)
      clear hr0 hr1 hr2 hb hs
      go_enter Tryd.func24, Tryd.ntmps24
      go_wp2_with (first
        | (go_at_call 46
           refine HC.out.mono ?_
           rintro r w1 hr
           obtain ⟨k5, t5, a5, m5, c5, b5, n5, d5, g5, l5, z5, rfl, q1, hb1⟩ := hr.shape
           have hd := ret_doneB (D := D) (Below.later HB.out hb1) (show w.heap.size ≤ w.heap.size + 1 + 1 by omega) (fun b' h' => by have := hD b' h'; omega) (show w.heap.size + 1 + 1 < W.heap.size by have := HS.out; omega) (kept hb1 HRz.out) q1
           unfold EV.v at hd
           dsimp only at hd
           obtain ⟨V, hV, hVr, hVo, hR⟩ := hd
           obtain ⟨⟨v0, v1, v2, v3, v4⟩, f0, f1, f2, f3, f4⟩ := rowE (kept hb1 HRz.out)
           have HR := hid0 hR
           have HVr := hid0 hVr
           unfold setE at hV
           have HV := hid0 hV
           clear hr q1 hb1 hV hVr hVo hR)
        | fail)
      rw [← HV.out]
      obtain ⟨⟨kk0, kk1, kk2, kk3, kk4⟩, _⟩ := rowE HVr.out
      exact bodyPost_ret (v := .agg #[.int .i64 k5, .bool t5, .slice a5 m5 c5, .slice b5 n5 d5, .slice g5 l5 z5]) (by simp [results, Tryd.results24, go_sem, kk0, kk1, kk2, kk3, kk4]) rfl (by rw [HE.out]; exact HR.out)
    · have h3B : (k == 3) = false := by simpa using h3
      have HE : Hid (wovE t (.mk k nt N P L) = .mk k false [] [] (wovL t L)) := hid0 (by rw [wovE, if_neg h2, if_neg h3])
      have HEa := hid0 (fun (V : World) (hV : Below W.heap.size W V) => HEb.out V (Below.later hb hV) (w.heap.size + 1) (kept hV hr1))
      have HSk : Hid (∀ V, Below W.heap.size W V → V.cell? ⟨w.heap.size, 0, none⟩ = some (.int .i64 k) ∧ V.cell? ⟨w.heap.size, 4, none⟩ = some (.slice c L.length cc)) := hid0 (fun V hV => ⟨(rowE (kept hV hr0)).1.1, (rowE (kept hV hr0)).1.2.2.2.2⟩)
      have hs0 := HSk.out _ (Below.refl W.heap.size W).drew
      clear hr0 hr1 hr2 hb hs
      go_enter Tryd.func24, Tryd.ntmps24
      go_wp2
      refine wp_region_noPanic ?_
      refine wp_region_held_drew (S := (fun V => V.cell? ⟨w.heap.size, 0, none⟩ = some (.int .i64 k) ∧ V.cell? ⟨w.heap.size, 4, none⟩ = some (.slice c L.length cc))) (by kernel_rfl) ?_ (fun hHeld => ?_)
      · exact hs0
      refine tkV (i := 0) (d := some 20) (v := ?_) rfl (by kernel_rfl) (by kernel_rfl) (by kernel_rfl) rfl (fun _ _ _ h => h) (by rfl) ?_ (by assumption) ?_
      rotate_left
      · (intro w hSw; (try dsimp only at hSw); (try simp only [List.getElem_toArray, List.getElem_cons_zero]); go_simp; try with_reducible rfl)
      try simp only [Act.put, List.setIfInBounds_toArray, List.set_cons_zero, List.set_cons_succ]
      refine tkV (i := 1) (d := some 21) (v := ?_) rfl (by kernel_rfl) (by kernel_rfl) (by kernel_rfl) rfl (fun _ _ _ h => h) (by rfl) ?_ (by assumption) ?_
      rotate_left
      · (intro w hSw; (try dsimp only at hSw); (try simp only [List.getElem_toArray, List.getElem_cons_zero, List.getElem_cons_succ]); go_simp; try with_reducible rfl)
      try simp only [Act.put, List.setIfInBounds_toArray, List.set_cons_zero, List.set_cons_succ]
      refine tkV (i := 2) (d := some 22) (v := ?_) rfl (by kernel_rfl) (by kernel_rfl) (by kernel_rfl) rfl (fun _ _ _ h => h) (by rfl) ?_ (by assumption) ?_
      rotate_left
      · (intro w hSw; (try dsimp only at hSw); (try simp only [List.getElem_toArray, List.getElem_cons_zero, List.getElem_cons_succ]); go_simp; try with_reducible rfl)
      try simp only [Act.put, List.setIfInBounds_toArray, List.set_cons_zero, List.set_cons_succ]
      refine tkV (i := 3) (d := some 23) (v := ?_) rfl (by kernel_rfl) (by kernel_rfl) (by kernel_rfl) rfl (fun _ _ _ h => h) (by rfl) ?_ (by assumption) ?_
      rotate_left
      · (intro w hSw; (try dsimp only at hSw); (try simp only [List.getElem_toArray, List.getElem_cons_zero, List.getElem_cons_succ]); go_simp; try with_reducible rfl)
      try simp only [Act.put, List.setIfInBounds_toArray, List.set_cons_zero, List.set_cons_succ]
      refine tkV (i := 4) (d := some 24) (v := ?_) rfl (by kernel_rfl) (by kernel_rfl) (by kernel_rfl) rfl (fun _ _ _ h => h) (by rfl) ?_ (by assumption) ?_
      rotate_left
      · (intro w hSw; (try dsimp only at hSw); (try simp only [List.getElem_toArray, List.getElem_cons_zero, List.getElem_cons_succ]); go_simp; try with_reducible rfl)
      try simp only [Act.put, List.setIfInBounds_toArray, List.set_cons_zero, List.set_cons_succ]
      refine wpAnyH_ready (rs := [5]) (by kernel_rfl) (by simp) (AllReadyH.cons rfl (fun K hK => ?_) AllReadyH.nil)
      try simp only [List.getElem_toArray, List.getElem_cons_zero, List.getElem_cons_succ]
      go_simp
      refine (HEa.out _ (Below.refl W.heap.size W).drew).mono ?_
      rintro r w1 ⟨v5, xs5, rfl, q1, q2⟩
      have hb1 : Below W.heap.size W w1 := Below.later (Below.refl W.heap.size W).drew q2
      have hs1 := HSk.out _ hb1
      obtain ⟨c8, z8, hv8, hx8⟩ := q1.ex (fun g' hg' => .inr hg') (by rw [wovL_map, List.length_map]; omega) k
      have hln : (wovL t L).length = L.length := by rw [wovL_map, List.length_map]
      rw [hln] at hv8 hx8
      clear hln
      subst hv8
      have hd := ret_doneB (D := D) (Below.later HB.out hb1) (show w.heap.size ≤ w.heap.size + 1 + 1 by omega) (fun b' h' => by have := hD b' h'; omega) (show w.heap.size + 1 + 1 < W.heap.size by have := HS.out; omega) (kept hb1 HRz.out) hx8
      unfold EV.v at hd
      dsimp only at hd
      obtain ⟨V, hV, hVr, hVo, hR⟩ := hd
      obtain ⟨⟨v0, v1, v2, v3, v4⟩, f0, f1, f2, f3, f4⟩ := rowE (kept hb1 HRz.out)
      have HR := hid0 hR
      have HVr := hid0 hVr
      have HSz : Hid (V.cell? ⟨w.heap.size, 0, none⟩ = some (.int .i64 k) ∧ V.cell? ⟨w.heap.size, 4, none⟩ = some (.slice c L.length cc)) := hid0 ⟨(hVo _ _ (by omega)).trans hs1.1, (hVo _ _ (by omega)).trans hs1.2⟩
      unfold setE at hV
      have HV := hid0 hV
      rw [HV.out] at HSz
      clear hV hVr hVo hR q1 q2 hb1 hx8
      go_wp2_with fail
      refine hK.out _ _ ?_ (fun hHeld5 => ?_)
      · exact hs1
      clear hK K
      (try simp only [Act.put]); (try simp only [List.setIfInBounds_toArray]); (try simp only [List.set_cons_succ]); (try simp only [List.set_cons_zero])
      refine tkV (i := 6) (d := some 26) (v := ?_) rfl (by kernel_rfl) (by kernel_rfl) (by kernel_rfl) rfl (fun _ _ _ h => h) (by rfl) ?_ (by assumption) ?_
      rotate_left
      · (intro w hSw; (try dsimp only at hSw); (try simp only [List.getElem_toArray, List.getElem_cons_zero, List.getElem_cons_succ]); go_simp; try with_reducible rfl)
      try simp only [Act.put, List.setIfInBounds_toArray, List.set_cons_zero, List.set_cons_succ]
      refine wpAnyH_ready (rs := [7]) (by kernel_rfl) (by simp) (AllReadyH.cons rfl (fun K hK => ?_) AllReadyH.nil)
      try simp only [List.getElem_toArray, List.getElem_cons_zero, List.getElem_cons_succ]
      go_simp
      refine hK.out _ _ ?_ (fun hHeld7 => ?_)
      · exact HSz.out
      clear hK K
      (try simp only [Act.put]); (try simp only [List.setIfInBounds_toArray]); (try simp only [List.set_cons_succ]); (try simp only [List.set_cons_zero])
      refine wpAnyH_done (by kernel_rfl) ?_ _
      refine NoPanic.normal ?_
      go_wp2
      rw [← HV.out]
      obtain ⟨⟨kk0, kk1, kk2, kk3, kk4⟩, _⟩ := rowE HVr.out
      exact bodyPost_ret (v := .agg #[.int .i64 k, .bool false, .slice none 0 0, .slice none 0 0, .slice c8 L.length z8]) (by simp [results, Tryd.results24, go_sem, kk0, kk1, kk2, kk3, kk4]) rfl (by rw [HE.out]; exact HR.out)
theorem size_part {L : List Ex} {p : Ex} (h : p ∈ L) : p.size ≤ Ex.size.sizes L := by
  induction L with
  | nil => cases h
  | cons e L ih =>
    rw [sizes_cons]
    rcases List.mem_cons.1 h with rfl | h
    · omega
    · have := ih h
      omega
theorem woven_any {w : World} {Q : Nat → Prop} {e : Ex} {x : EV} (h : ExIs w Q e x) (t : Ex) (y : EV) (ht : ExIs w Q t y) : e.size ≤ 4000 → ∀ W, Below w.heap.size w W → WovC t y (fun b => Q b ∧ b < w.heap.size) e x W := by
  have ht' : ExIs w (fun b => Q b ∧ b < w.heap.size) t y := ht.mono (fun _ hb hq => ⟨hq, hb⟩)
  induction h with
  | mk k nt N P L a ca b cb c cc vs hN hP lN lP lL hL hR ih =>
    intro hs W hW
    rw [Ex.size_mk] at hs
    have hl := len_le_sizes L
    have hx : ExIs w (fun b => Q b ∧ b < w.heap.size) (.mk k nt N P L) ⟨.int .i64 k, .bool nt, .slice a N.length ca, .slice b P.length cb, .slice c L.length cc⟩ := (ExIs.mk k nt N P L a ca b cb c cc vs hN hP lN lP lL hL hR).mono (fun _ hb hq => ⟨hq, hb⟩)
    exact woven_node t y (fun b => Q b ∧ b < w.heap.size) k nt N P L a b c ca cb cc vs W (fun b' h' => Nat.lt_of_lt_of_le h'.2 hW.size) (by omega) (ht'.past hW) (hx.past hW) (fun i hi => by
      obtain ⟨g, off, e, _, h5⟩ := hL i hi
      exact ⟨g, off, e, h5.past hW⟩) (fun i hi => ((hR i hi).mono (fun _ hb hq => ⟨hq, hb⟩)).past hW) (fun i hi V hV => ih i hi (by have := size_part (List.getElem_mem hi); omega) V (Below.later hW hV))
end Go.Proofs.YtiapefdklojhdaaDoor
namespace Go.Proofs.YtiapefdklojhdaaDoor
open Go.RowKit Go.Shelf
mutual
/-- An expression turned round. -/
def revE : Ex → Ex
  | .mk k nt N P L => .mk k nt N P (if k = 3 then (revL L).reverse else revL L)
def revL : List Ex → List Ex
  | [] => []
  | e :: L => revE e :: revL L
end
theorem revL_map (L : List Ex) : revL L = L.map revE := by
  induction L with
  | nil => rfl
  | cons e L ih => rw [revL, ih, List.map_cons]
theorem revL_len (L : List Ex) : (revL L).length = L.length := by rw [revL_map, List.length_map]
theorem revL_get (L : List Ex) (i : Nat) (h : i < L.length) : (revL L)[i]'(by rw [revL_len]; exact h) = revE L[i] := by
  simp only [revL_map, List.getElem_map]
theorem revE_kind (e : Ex) : (revE e).kind = e.kind := by
  cases e with
  | mk k nt N P L => rfl
mutual
theorem rev_rev : ∀ (e : Ex), revE (revE e) = e
  | .mk k nt N P L => by
    have h := rev_revL L
    rw [revE, revE]
    by_cases hk : k = 3
    · rw [if_pos hk, if_pos hk, revL_map (revL L).reverse, ← List.map_reverse, List.reverse_reverse, ← revL_map, h]
    · rw [if_neg hk, if_neg hk, h]
theorem rev_revL : ∀ (L : List Ex), revL (revL L) = L
  | [] => rfl
  | e :: L => by rw [revL, revL, rev_rev e, rev_revL L]
end
theorem sizes_reverse (L : List Ex) : Ex.size.sizes L.reverse = Ex.size.sizes L := by
  induction L with
  | nil => rfl
  | cons e L ih =>
    rw [List.reverse_cons, sizes_app, ih, sizes_cons, sizes_cons]
    show _ + (e.size + 0) = _
    omega
mutual
theorem rev_size : ∀ (e : Ex), (revE e).size = e.size
  | .mk k nt N P L => by
    have h := rev_sizes L
    rw [revE, Ex.size_mk, Ex.size_mk]
    by_cases hk : k = 3
    · rw [if_pos hk, sizes_reverse, h]
    · rw [if_neg hk, h]
theorem rev_sizes : ∀ (L : List Ex), Ex.size.sizes (revL L) = Ex.size.sizes L
  | [] => rfl
  | e :: L => by rw [revL, sizes_cons, sizes_cons, rev_size e, rev_sizes L]
end
theorem hasK_rev (L : List Ex) (q : Int) : hasK (revL L) q = hasK L q := by
  unfold hasK
  rw [revL_map, List.any_map]
  congr 1
  funext e
  simp [revE_kind]
theorem hasK_reverse (L : List Ex) (q : Int) : hasK L.reverse q = hasK L q := by
  unfold hasK
  rw [List.any_reverse]
theorem form_rev (k : Int) (L : List Ex) : formF k (if k = 3 then (revL L).reverse else revL L) = formF k L := by
  unfold formF
  by_cases hk : k = 3
  · rw [if_pos hk, if_pos hk, if_pos hk, hasK_reverse, hasK_reverse, hasK_rev, hasK_rev, List.length_reverse, revL_len]
  · rw [if_neg hk, if_neg hk, if_neg hk, hasK_rev, revL_len]
theorem wf_rev : ∀ (d : Nat) (e : Ex), WfE d e → WfE d (revE e)
  | 0, _, h => h.elim
  | d + 1, .mk k nt N P L, h => by
    rw [revE]
    have hl : (if k = 3 then (revL L).reverse else revL L).length = L.length := by
      by_cases hk : k = 3
      · rw [if_pos hk, List.length_reverse, revL_len]
      · rw [if_neg hk, revL_len]
    refine ⟨by rw [hl]; exact h.1, by rw [form_rev]; exact h.2.1, h.2.2.1, fun p hp => ?_⟩
    have hp2 : p ∈ L.map revE := by
      rw [← revL_map]
      by_cases hk : k = 3
      · rw [if_pos hk] at hp
        exact List.mem_reverse.1 hp
      · rw [if_neg hk] at hp
        exact hp
    obtain ⟨x, hx, rfl⟩ := List.mem_map.1 hp2
    exact wf_rev d x (h.2.2.2 x hx)
/-- Once more at the end of a row. -/
theorem star_put {x : Ex} {u : List Kd} (h : Mt x u) : ∀ (nt : Bool) (N : List ByteArray) (P : List (Int × Int)) (e : Ex) (v : List Kd), x = .mk 5 nt N P [e] → Mt e v → Mt (.mk 5 nt N P [e]) (u ++ v) := by
  induction h with
  | star0 nt N P L =>
    intro nt' N' P' e v q hv
    cases q
    have := Mt.star1 nt N P e v [] hv (.star0 nt N P [e])
    rwa [List.append_nil] at this
  | star1 nt N P e u1 u2 h1 h2 _ ih =>
    intro nt' N' P' e' v q hv
    cases q
    rw [List.append_assoc]
    exact .star1 nt N P e u1 _ h1 (ih nt N P e v rfl hv)
  | none => intro _ _ _ _ _ q; cases q
  | set => intro _ _ _ _ _ q; cases q
  | seq0 => intro _ _ _ _ _ q; cases q
  | seq1 => intro _ _ _ _ _ q; cases q
  | alt => intro _ _ _ _ _ q; cases q
  | plus => intro _ _ _ _ _ q; cases q
  | opt0 => intro _ _ _ _ _ q; cases q
  | opt1 => intro _ _ _ _ _ q; cases q
theorem star_snoc {nt : Bool} {N : List ByteArray} {P : List (Int × Int)} {L : List Ex} {e : Ex} {u v : List Kd} (h : Mt (.mk 5 nt N P L) u) (hL : L = [e]) (hv : Mt e v) : Mt (.mk 5 nt N P L) (u ++ v) := by
  subst hL
  exact star_put h nt N P e v rfl hv
theorem plus_snoc {nt : Bool} {N : List ByteArray} {P : List (Int × Int)} {e : Ex} {u v : List Kd} (h : Mt (.mk 5 nt N P [e]) u) (hv : Mt e v) : Mt (.mk 6 nt N P [e]) (u ++ v) := by
  have key : ∀ (x : Ex) (u : List Kd), Mt x u → x = .mk 5 nt N P [e] → Mt (.mk 6 nt N P [e]) (u ++ v) := fun x u h q => by
    cases h with
    | star0 nt N P L =>
      cases q
      have := Mt.plus nt N P e v [] hv (.star0 nt N P [e])
      rwa [List.append_nil] at this
    | star1 nt N P e u1 u2 h1 h2 =>
      cases q
      rw [List.append_assoc]
      exact .plus nt N P e u1 _ h1 (star_put h2 nt N P e v rfl hv)
    | none => cases q
    | set => cases q
    | seq0 => cases q
    | seq1 => cases q
    | alt => cases q
    | plus => cases q
    | opt0 => cases q
    | opt1 => cases q
  exact key _ u h rfl
/-- What is met, turned round. -/
theorem mt_rev {e : Ex} {w : List Kd} (h : Mt e w) : Mt (revE e) w.reverse := by
  induction h with
  | none nt N P L => rw [revE]; exact .none nt N P _
  | set nt N P L u hu => rw [revE]; exact .set nt N P _ u hu
  | seq0 nt N P => rw [revE]; exact .seq0 nt N P
  | seq1 nt N P e L u v h1 h2 ih1 ih2 =>
    rw [revE, if_pos rfl] at ih2 ⊢
    rw [revL, List.reverse_cons, List.reverse_append]
    exact (mt_seq_app nt N P _ _ _).2 ⟨_, _, rfl, ih2, (mt_seq_one nt N P _ _).2 ih1⟩
  | alt nt N P e L u hm h1 ih =>
    rw [revE, if_neg (by decide)]
    exact .alt nt N P (revE e) _ _ (by rw [revL_map]; exact List.mem_map_of_mem hm) ih
  | star0 nt N P L => rw [revE]; exact .star0 nt N P _
  | star1 nt N P e u v h1 h2 ih1 ih2 =>
    rw [revE, if_neg (by decide)] at ih2 ⊢
    rw [List.reverse_append]
    exact star_snoc ih2 rfl ih1
  | plus nt N P e u v h1 h2 ih1 ih2 =>
    rw [revE, if_neg (by decide)] at ih2 ⊢
    rw [List.reverse_append]
    exact plus_snoc ih2 ih1
  | opt0 nt N P L => rw [revE]; exact .opt0 nt N P _
  | opt1 nt N P e u h1 ih => rw [revE, if_neg (by decide)]; exact .opt1 nt N P _ _ ih
theorem mt_rev_iff (e : Ex) (w : List Kd) : Mt (revE e) w.reverse ↔ Mt e w :=
  ⟨fun h => by have := mt_rev h; rwa [rev_rev, List.reverse_reverse] at this, mt_rev⟩
end Go.Proofs.YtiapefdklojhdaaDoor
namespace Go.Proofs.YtiapefdklojhdaaDoor
open Go.RowKit Go.Shelf
/-- An expression whose lists lie in blocks from lo to hi, each in one of its own. -/
inductive RvIs (w : World) : Nat → Nat → Ex → EV → Prop
  | mk (lo m hi : Nat) (k : Int) (nt : Bool) (N : List ByteArray) (P : List (Int × Int)) (L : List Ex) (a : Option Addr) (ca : Nat) (b : Option Addr) (cb : Nat) (c : Option Addr) (cc : Nat) (xs : List EV) (los his : Nat → Nat)
    (h1 : lo ≤ m) (h2 : m ≤ hi) (hN : SQ w (fun q => lo ≤ q ∧ q < m) a N) (hP : RQ w (fun q => lo ≤ q ∧ q < m) b P) (lN : N.length ≤ 1000000000) (lP : P.length ≤ 1000000000) (lL : L.length ≤ 1000000000)
    (len : xs.length = L.length) (own : w.ownsRow m 28 5 (.slice c L.length cc) L.length (xs.flatMap evC))
    (gin : ∀ g, (Value.slice c L.length cc).ownBlock = some g → g < hi ∧ ∀ i, i < L.length → g < los i ∨ his i ≤ g)
    (pin : ∀ i, i < L.length → m ≤ los i ∧ los i ≤ his i ∧ his i ≤ hi)
    (dis : ∀ i j, i < L.length → j < L.length → i ≠ j → his i ≤ los j ∨ his j ≤ los i)
    (is : ∀ i (h : i < L.length) (h' : i < xs.length), RvIs w (los i) (his i) L[i] xs[i]) :
    RvIs w lo hi (.mk k nt N P L) ⟨.int .i64 k, .bool nt, .slice a N.length ca, .slice b P.length cb, .slice c L.length cc⟩
/-- A list of such expressions. -/
structure PR (w : World) (m hi : Nat) (v : Value) (L : List Ex) (xs : List EV) (los his : Nat → Nat) : Prop where
  len : xs.length = L.length
  own : w.ownsRow m 28 5 v L.length (xs.flatMap evC)
  gin : ∀ g, v.ownBlock = some g → g < hi ∧ ∀ i, i < L.length → g < los i ∨ his i ≤ g
  pin : ∀ i, i < L.length → m ≤ los i ∧ los i ≤ his i ∧ his i ≤ hi
  dis : ∀ i j, i < L.length → j < L.length → i ≠ j → his i ≤ los j ∨ his j ≤ los i
  is : ∀ i (h : i < L.length) (h' : i < xs.length), RvIs w (los i) (his i) L[i] xs[i]
theorem RvIs.shape {w : World} {lo hi : Nat} {k : Int} {nt : Bool} {N : List ByteArray} {P : List (Int × Int)} {L : List Ex} {x : EV} (h : RvIs w lo hi (.mk k nt N P L) x) : ∃ m a ca b cb c cc xs los his, x = ⟨.int .i64 k, .bool nt, .slice a N.length ca, .slice b P.length cb, .slice c L.length cc⟩ ∧ lo ≤ m ∧ m ≤ hi ∧
    SQ w (fun q => lo ≤ q ∧ q < m) a N ∧ RQ w (fun q => lo ≤ q ∧ q < m) b P ∧ N.length ≤ 1000000000 ∧ P.length ≤ 1000000000 ∧ L.length ≤ 1000000000 ∧ PR w m hi (.slice c L.length cc) L xs los his := by
  cases h with
  | mk _ m _ _ _ _ _ _ a ca b cb c cc xs los his h1 h2 hN hP lN lP lL len own gin pin dis is => exact ⟨m, a, ca, b, cb, c, cc, xs, los, his, rfl, h1, h2, hN, hP, lN, lP, lL, len, own, gin, pin, dis, is⟩
theorem PR.rv {w : World} {lo m hi : Nat} {k : Int} {nt : Bool} {N : List ByteArray} {P : List (Int × Int)} {L : List Ex} {a b c : Option Addr} {ca cb cc : Nat} {xs : List EV} {los his : Nat → Nat} (h : PR w m hi (.slice c L.length cc) L xs los his) (h1 : lo ≤ m) (h2 : m ≤ hi) (hN : SQ w (fun q => lo ≤ q ∧ q < m) a N) (hP : RQ w (fun q => lo ≤ q ∧ q < m) b P) (lN : N.length ≤ 1000000000) (lP : P.length ≤ 1000000000) (lL : L.length ≤ 1000000000) :
    RvIs w lo hi (.mk k nt N P L) ⟨.int .i64 k, .bool nt, .slice a N.length ca, .slice b P.length cb, .slice c L.length cc⟩ :=
  .mk lo m hi k nt N P L a ca b cb c cc xs los his h1 h2 hN hP lN lP lL h.len h.own h.gin h.pin h.dis h.is
/-- It stays where its blocks stay. -/
theorem RvIs.keeps {w w' : World} {lo hi : Nat} {e : Ex} {x : EV} (h : RvIs w lo hi e x) (hs : w.heap.size ≤ w'.heap.size) (hk : ∀ b, lo ≤ b → b < hi → b < w.heap.size → w'.heap[b]? = w.heap[b]?) : RvIs w' lo hi e x := by
  induction h with
  | mk lo m hi k nt N P L a ca b cb c cc xs los his h1 h2 hN hP lN lP lL len own gin pin dis is ih =>
    have kq : Keeps (fun q => lo ≤ q ∧ q < m) w w' := ⟨hs, fun g o hq hl => World.cell?_of_block (w := w) (hk g hq.1 (by omega) hl)⟩
    exact .mk lo m hi k nt N P L a ca b cb c cc xs los his h1 h2 (hN.keeps kq) (hP.keeps kq) lN lP lL len
      (own_blk own (fun g hg => hk g (by have := (World.ownsRow.lt own g hg).1; omega) (gin g hg).1 (World.ownsRow.lt own g hg).2)) gin pin dis
      (fun i h h' => ih i h h' (fun b p1 p2 p3 => hk b (by have := (pin i h).1; omega) (by have := (pin i h).2.2; omega) p3))
theorem RvIs.past {w w' : World} {lo hi : Nat} {e : Ex} {x : EV} (h : RvIs w lo hi e x) (k : Below w.heap.size w w') : RvIs w' lo hi e x := h.keeps k.size (fun b _ _ hl => k.block b hl)
theorem RvIs.mono {w : World} {lo hi lo' hi' : Nat} {e : Ex} {x : EV} (h : RvIs w lo hi e x) (h1 : lo' ≤ lo) (h2 : hi ≤ hi') : RvIs w lo' hi' e x := by
  cases h with
  | mk _ m _ k nt N P L a ca b cb c cc xs los his p1 p2 hN hP lN lP lL len own gin pin dis is =>
    exact .mk lo' m hi' k nt N P L a ca b cb c cc xs los his (by omega) (by omega) (by
      exact ⟨fun k hk => by
        obtain ⟨b, off, e, hq, r⟩ := hN.at' k hk
        exact ⟨b, off, e, ⟨by omega, hq.2⟩, r⟩⟩) (by
      exact ⟨fun k hk => by
        obtain ⟨b, off, e, hq, r⟩ := hP.at' k hk
        exact ⟨b, off, e, ⟨by omega, hq.2⟩, r⟩⟩) lN lP lL len own (fun g hg => ⟨by have := (gin g hg).1; omega, (gin g hg).2⟩) (fun i hi => by have := pin i hi; omega) dis is
theorem PR.past {w w' : World} {m hi : Nat} {v : Value} {L : List Ex} {xs : List EV} {los his : Nat → Nat} (h : PR w m hi v L xs los his) (k : Below w.heap.size w w') : PR w' m hi v L xs los his :=
  ⟨h.len, own_blk h.own (fun g hg => k.block g (World.ownsRow.lt h.own g hg).2), h.gin, h.pin, h.dis, fun i p q => (h.is i p q).past k⟩
theorem PR.cells {W : World} {m hi : Nat} {v : Value} {L : List Ex} {xs : List EV} {los his : Nat → Nat} (h : PR W m hi v L xs los his) (i : Nat) (hi' : i < L.length) (hx : i < xs.length) : ∃ g c, v = .slice (some ⟨g, 0, none⟩) L.length c ∧ m ≤ g ∧ Five W g (i * 5) xs[i] := by
  have ho := h.own
  rcases ho.2 with ⟨rfl, hn⟩ | ⟨g, cap, cur, rfl, hg, hrow, _⟩
  · omega
  · refine ⟨g, cap, rfl, hg, ?_⟩
    have hc : ∀ j, j < 5 → W.cell? ⟨g, i * 5 + j, none⟩ = (evC xs[i])[j]? := fun j hj => by
      have h1 := World.ownsRow.cellAt ho (i * 5 + j) (by have : i * 5 + 5 ≤ L.length * 5 := by { have := Nat.mul_le_mul_right 5 (Nat.succ_le_of_lt hi'); omega }; omega)
      rw [h1, flatE xs i j hx hj]
    exact ⟨hc 0 (by omega), hc 1 (by omega), hc 2 (by omega), hc 3 (by omega), hc 4 (by omega)⟩
/-- It is an expression in memory. -/
theorem RvIs.ex {w : World} {lo hi : Nat} {e : Ex} {x : EV} (h : RvIs w lo hi e x) : ExIs w (fun _ => True) e x := by
  induction h with
  | mk lo m hi k nt N P L a ca b cb c cc xs los his h1 h2 hN hP lN lP lL len own gin pin dis is ih =>
    have hp : PR w m hi (.slice c L.length cc) L xs los his := ⟨len, own, gin, pin, dis, is⟩
    refine .mk k nt N P L a ca b cb c cc (fun i => xs.getD i ⟨.nilIface, .nilIface, .nilIface, .nilIface, .nilIface⟩) ⟨fun k hk => by
        obtain ⟨b, off, e, _, r⟩ := hN.at' k hk
        exact ⟨b, off, e, trivial, r⟩⟩ ⟨fun k hk => by
        obtain ⟨b, off, e, _, r⟩ := hP.at' k hk
        exact ⟨b, off, e, trivial, r⟩⟩ lN lP lL (fun i hi => ?_) (fun i hi => ?_)
    · have hi' : i < xs.length := by rw [len]; exact hi
      obtain ⟨g, c', e, _, h5⟩ := hp.cells i hi hi'
      cases e
      exact ⟨g, 0, rfl, trivial, by rw [List.getD_eq_getElem?_getD, List.getElem?_eq_getElem hi', Nat.zero_add]; exact h5⟩
    · have hi' : i < xs.length := by rw [len]; exact hi
      rw [List.getD_eq_getElem?_getD, List.getElem?_eq_getElem hi']
      exact ih i hi hi'
/-- One part is turned. -/
theorem PR.set {w w' : World} {m hi : Nat} {v : Value} {L : List Ex} {xs : List EV} {los his : Nat → Nat} (h : PR w m hi v L xs los his) (j : Nat) (hj : j < L.length) (hx : j < xs.length) (e : Ex) (ho : Only w w' (fun b => los j ≤ b ∧ b < his j)) (he : RvIs w' (los j) (his j) e xs[j]) : PR w' m hi v (L.set j e) xs los his := by
  have hl : (L.set j e).length = L.length := List.length_set
  refine ⟨by rw [hl]; exact h.len, ?_, fun g hg => ?_, fun i hi => ?_, fun i i' p q => ?_, fun i p q => ?_⟩
  · rw [hl]
    exact own_blk h.own (fun g hg => ho.block g (World.ownsRow.lt h.own g hg).2 (fun c => by have := (h.gin g hg).2 j hj; omega))
  · rw [hl]
    exact h.gin g hg
  · rw [hl] at hi
    exact h.pin i hi
  · rw [hl] at p q
    exact h.dis i i' p q
  · have p' : i < L.length := by rw [hl] at p; exact p
    by_cases hij : j = i
    · subst hij
      rw [List.getElem_set_self]
      exact he
    · rw [List.getElem_set_ne hij]
      exact (h.is i p' q).keeps ho.size (fun b q1 q2 q3 => ho.block b q3 (fun c => by have := h.dis j i hj p' hij; omega))
/-- A part is put behind the others. -/
theorem PR.snoc {W w3 w4 : World} {m hi lo2 hi2 : Nat} {v v4 : Value} {L : List Ex} {xs : List EV} {los his : Nat → Nat} {e : Ex} {x : EV} (h : PR W m hi v L xs los his) (hm : m ≤ hi) (hx : RvIs W lo2 hi2 e x) (h2 : hi ≤ lo2) (h22 : lo2 ≤ hi2) (h3 : Below W.heap.size W w3) (hs2 : hi2 ≤ w3.heap.size) (hg : w3.grownBy w4 v.ownBlock)
    (ho : w4.ownsRow m 28 5 v4 (L.length + 1) (xs.flatMap evC ++ evC x)) (hat : v4.ownBlock = v.ownBlock ∨ v4.ownBlock = some w3.heap.size) :
    PR w4 m w4.heap.size v4 (L ++ [e]) (xs ++ [x]) (fun i => if i < L.length then los i else lo2) (fun i => if i < L.length then his i else hi2) := by
  have hsz : w3.heap.size ≤ w4.heap.size := hg.size
  have hlt4 : ∀ g, v4.ownBlock = some g → g < w4.heap.size := fun g e => (World.ownsRow.lt ho g e).2
  have blk : ∀ b, b < W.heap.size → v.ownBlock ≠ some b → w4.heap[b]? = W.heap[b]? := fun b hb hne => (hg.block b (Nat.lt_of_lt_of_le hb h3.size) (fun q => hne q.symm)).trans (h3.block b hb)
  have hhi : hi ≤ w4.heap.size := by omega
  refine ⟨by simp [h.len], ?_, fun g hgv => ⟨hlt4 g hgv, fun i hi' => ?_⟩, fun i hi' => ?_, fun i j p q hne => ?_, fun i p q => ?_⟩
  · rw [List.length_append, List.length_singleton, List.flatMap_append, List.flatMap_singleton]; exact ho
  · rw [List.length_append, List.length_singleton] at hi'
    rcases hat with q | q
    · have hg' := h.gin g (q ▸ hgv)
      split
      · rename_i hl
        exact hg'.2 i hl
      · exact .inl (by omega)
    · rw [q] at hgv
      cases hgv
      split
      · rename_i hl
        have := (h.pin i hl).2.2
        exact .inr (by omega)
      · exact .inr hs2
  · split
    · rename_i hl
      have := h.pin i hl
      omega
    · omega
  · rw [List.length_append, List.length_singleton] at p q
    split
    · rename_i hl
      split
      · rename_i hl2
        exact h.dis i j hl hl2 hne
      · have := (h.pin i hl).2.2
        exact .inl (by omega)
    · split
      · rename_i hl2
        have := (h.pin j hl2).2.2
        exact .inr (by omega)
      · omega
  · rw [List.length_append, List.length_singleton] at p
    rcases Nat.lt_or_ge i L.length with hl | hl
    · have hl2 : i < xs.length := by rw [h.len]; exact hl
      simp only [List.getElem_append_left hl, List.getElem_append_left hl2, if_pos hl]
      exact (h.is i hl hl2).keeps (Nat.le_trans h3.size hsz) (fun b q1 q2 q3 => blk b q3 (fun e => by have := (h.gin b e).2 i hl; omega))
    · have : i = L.length := by omega
      subst this
      have hq : ∀ (hx : L.length < (xs ++ [x]).length), (xs ++ [x])[L.length]'hx = x := fun hx => by
        rw [List.getElem_append_right (by rw [h.len]; exact Nat.le_refl _)]; simp [h.len]
      rw [hq]
      simp only [List.getElem_concat_length, Nat.lt_irrefl, if_false]
      exact hx.keeps (Nat.le_trans h3.size hsz) (fun b q1 q2 q3 => blk b q3 (fun e => by have := (h.gin b e).1; omega))
theorem PR.nil (W : World) (m : Nat) : PR W m m (.slice none 0 0) [] [] (fun _ => 0) (fun _ => 0) :=
  ⟨rfl, World.ownsRow_nil _ _ _ _, fun g e => (by simp [Value.ownBlock] at e), fun i h => absurd h (Nat.not_lt_zero _), fun i _ h => absurd h (Nat.not_lt_zero _), fun i h => absurd h (Nat.not_lt_zero _)⟩
end Go.Proofs.YtiapefdklojhdaaDoor
namespace Go.Proofs
open Go.Shelf
def Tryd.laysM316_ren : Go.Shelf.Ren := ⟨fun | 316 => 75 | n => n, fun | 9 => 9 | 3 => 3 | 4 => 4 | 37 => 96 | 0 => 0 | 127 => 128 | 5 => 5 | n => n, fun | n => n⟩
theorem Tryd.laysM316 : Go.Proofs.LaysM.n316 Tryd.prog Tryd.laysM316_ren := {
  mixed := by kernel_rfl
  f316 := Tryd.func75.trans (congrArg some (by kernel_rfl))
  t0 := Tryd.underlying0
  a0 := Tryd.isAgg0
  z0 := Tryd.sizeOf0
  v0 := Tryd.zeroValue0
  t3 := Tryd.underlying3
  a3 := Tryd.isAgg3
  z3 := Tryd.sizeOf3
  v3 := Tryd.zeroValue3
  t4 := Tryd.underlying4
  a4 := Tryd.isAgg4
  z4 := Tryd.sizeOf4
  v4 := Tryd.zeroValue4
  t9 := Tryd.underlying9
  a9 := Tryd.isAgg9
  z9 := Tryd.sizeOf9
  v9 := Tryd.zeroValue9
  t37 := Tryd.underlying96
  a37 := Tryd.isAgg96
  z37 := Tryd.sizeOf96
  v37 := Tryd.zeroValue96
  t127 := Tryd.underlying128
  a127 := Tryd.isAgg128
  z127 := Tryd.sizeOf128
  v127 := Tryd.zeroValue128
  t5 := Tryd.underlying5
  a5 := Tryd.isAgg5
  z5 := Tryd.sizeOf5
  v5 := Tryd.zeroValue5
  i0 := by kernel_rfl
  i3 := by kernel_rfl
  i4 := by kernel_rfl
  i5 := by kernel_rfl
  i9 := by kernel_rfl
  i37 := by kernel_rfl
  i127 := by kernel_rfl }
end Go.Proofs
namespace Go.Proofs.YtiapefdklojhdaaDoor
open Go.RowKit Go.Shelf
set_option maxRecDepth 10000 in
set_option maxHeartbeats 800000 in
theorem clone_one (s : ByteArray) (w : World) (hs : s.size ≤ 1000) :
    Calls Tryd.prog 62 #[.string s] w fun e w' => e = .returned (.string s) ∧ Below w.heap.size w w' := by
  have HC := hid0 (fun V => Any.stringslite_Clone Tryd.laysM316 s V (by omega))
  go_enter Tryd.func62, Tryd.ntmps62
  go_wp2_with (first
    | (go_at_call 75; refine (HC.out _).mono ?_; rintro r w1 ⟨rfl, hb⟩; have HB := hid0 hb; clear hb)
    | fail)
  go_ret
  exact ⟨rfl, HB.out⟩
theorem OwnS.more {w : World} {lo : Nat} {v : Value} {l : List ByteArray} {s : ByteArray} (h : w.ownsRow lo 9 1 v (l.length + 1) (cellsS l ++ [.string s])) : OwnS w lo v (l ++ [s]) := by
  unfold OwnS
  have : cellsS (l ++ [s]) = cellsS l ++ [.string s] := by unfold cellsS; rw [List.map_append]; rfl
  rw [List.length_append, List.length_singleton, this]
  exact h
def EachS (w : World) (L : List ByteArray) (r : Ending) (w' : World) : Prop := ∃ v, r = .returned v ∧ OwnS w' w.heap.size v L ∧ Below w.heap.size w w'
set_option maxRecDepth 10000 in
set_option maxHeartbeats 1600000 in
theorem eachS_any (L : List ByteArray) (a : Option Addr) (cap : Nat) (w : World) (hl : L.length ≤ 1000000000) (hs : ∀ s, s ∈ L → s.size ≤ 1000) (ha : SA w a L) :
    Calls Tryd.prog 61 #[.slice a L.length cap, .func (.func 62) #[] #[]] w fun r w' => EachS w L r w' := by
  obtain ⟨i0, hi, hz0, hz1, hz2⟩ := info_parts infoStr
  have HA := hid0 ha
  have HSz := hid0 hs
  clear ha hs
  go_enter Tryd.func61, Tryd.ntmps61
  go_wp2
  go_loopw [5, 7, 10] (fun v _ i wr => ∃ (k : Nat), k ≤ L.length ∧ i = .int .i64 (k : Int) ∧ Hid (OwnS wr w.heap.size v (L.take k)) ∧ Hid (Below w.heap.size w wr)) (fun _ _ i _ => L.length - (intOf i).toNat)
  case atStart => exact ⟨0, Nat.zero_le _, rfl, hid0 (World.ownsRow_nil _ _ _ _), hid0 (Below.refl _ _)⟩
  case round =>
    obtain ⟨k, hk, rfl, HO, HB⟩ := hrel
    by_cases hlt : k < L.length
    · have hkI : (k : Int) < (L.length : Int) := by omega
      have hkI0 : (0 : Int) ≤ (k : Int) := by omega
      obtain ⟨b, off, rfl, hbw, hc⟩ := HA.out.at' k hlt
      have hc' := (HB.out.cell (p := ⟨b, off + k, none⟩) hbw).trans hc
      have HTK : Hid (L.take (k + 1) = L.take k ++ [L[k]]) := hid0 (by rw [List.take_add_one, List.getElem?_eq_getElem hlt]; rfl)
      have HTL : Hid ((L.take k).length = k) := hid0 (by rw [List.length_take]; omega)
      have hvs : ∃ av cv, u5 = .slice av k cv := by
        obtain ⟨av, cv, e, _⟩ := HO.out.sq
        rw [HTL.out] at e
        exact ⟨av, cv, e⟩
      obtain ⟨av, cv, rfl⟩ := hvs
      have HOne := hid0 (clone_one L[k] wr (HSz.out _ (List.getElem_mem hlt)))
      have hbs := HB.out.size
      generalize L[k] = s at *
      clear hc
      go_wp2_with (first
        | (go_at_call 62; refine HOne.out.mono ?_; rintro r w1 ⟨rfl, hb1⟩; have HOk : Hid (w1.ownsRow w.heap.size 9 1 (.slice av k cv) k (cellsS (L.take k))) := hid0 (by have ho := own_blk HO.out (fun g hg => hb1.block g (World.ownsRow.lt HO.out g hg).2); rw [HTL.out] at ho; exact ho); have HB1 := hid0 hb1; clear hb1)
        | (at_builtin; go_loud ((
             refine wpList_append_own _ (by rfl) _ _ 22 (by rfl) w.heap.size 9 i0 (.string ⟨#[]⟩) 1 16 Tryd.underlying22 hi hz0 hz1 hz2 rfl (by decide) (.slice av k cv) k (cellsS (L.take k)) (by rfl) (World.ownsRow.alloc HOk.out _) ⟨w1.heap.size, 0, none⟩ 1 1 [.string s] (by rfl) (by rfl) (cell_one_new w1 _ _) (fun u hu => by rw [List.mem_singleton.1 hu]; rfl) (by unfold maxLen; omega) (by omega) (by have := HB1.out.size; simp; omega) ?_
             intro v2 w2 hown2 hgrow2 _
             have HO2 : Hid (OwnS w2 w.heap.size v2 (L.take (k + 1))) := hid0 (by rw [HTK.out]; exact OwnS.more (by rw [HTL.out]; exact hown2))
             have HB2 := hid0 (((HB.out.trans (HB1.out.mono hbs)).alloc (by have := HB1.out.size; omega) _).grown hgrow2 (by have := HB1.out.size; simp; omega) (fun q hq => (World.ownsRow.lt HOk.out q hq).1))
             clear hown2 hgrow2)))
        | fail)
      go_roundw
      case rel => exact ⟨k + 1, by omega, by go_num, HO2, HB2⟩
      case measure => simp [intOf]; omega
    · have hkI : ¬ (k : Int) < (L.length : Int) := by omega
      have HE : Hid (OwnS wr w.heap.size u5 L) := hid0 (by have h := HO.out; rw [List.take_of_length_le (by omega)] at h; exact h)
      go_wp2
      go_ret
      exact ⟨u5, rfl, HE.out, HB.out⟩
end Go.Proofs.YtiapefdklojhdaaDoor
namespace Go.Proofs.YtiapefdklojhdaaDoor
open Go.RowKit Go.Shelf
theorem OwnR.rq {w : World} {lo : Nat} {v : Value} {L : List (Int × Int)} (h : OwnR w lo v L) : ∃ a cap, v = .slice a L.length cap ∧ RQ w (fun g => lo ≤ g) a L := by
  have h0 := h
  rcases h.2 with ⟨rfl, hn⟩ | ⟨g, cap, cur, rfl, hg, hr, _⟩
  · exact ⟨none, 0, by rw [hn], ⟨fun k hk => by omega⟩⟩
  · refine ⟨_, cap, rfl, ⟨fun k hk => ⟨g, 0, rfl, hg, ?_, ?_⟩⟩⟩
    · have := World.ownsRow.cellAt h0 (k * 2) (by omega)
      rw [Nat.zero_add, this]
      exact (cellsR_at L k hk).1
    · have := World.ownsRow.cellAt h0 (k * 2 + 1) (by omega)
      rw [Nat.zero_add, this]
      exact (cellsR_at L k hk).2
/-- A set that is answered, in memory of its own. -/
def CopS (w : World) (nt : Bool) (N : List ByteArray) (P : List (Int × Int)) (e : Ending) (w' : World) : Prop := ∃ g ce h cf, e = .returned (.agg #[.bool nt, .slice g N.length ce, .slice h P.length cf]) ∧ SQ w' (fun b => w.heap.size ≤ b) g N ∧ RQ w' (fun b => w.heap.size ≤ b) h P ∧ Below w.heap.size w w'
theorem two_rows3 (w : World) (t : TypeId) (a b c a' b' c' : Value) (W : World) (hW : W = (w.alloc (.cells #[a, b, c] t)).alloc (.cells #[a', b', c'] t)) :
    W.heap[w.heap.size]? = some (.cells #[a, b, c] t (0, 0)) ∧ W.heap[w.heap.size + 1]? = some (.cells #[a', b', c'] t (0, 0)) ∧ Below w.heap.size w W ∧ W.heap.size = w.heap.size + 2 := by
  obtain ⟨wa, hwa⟩ : ∃ wa, wa = w.alloc (.cells #[a, b, c] t) := ⟨_, rfl⟩
  have sa : wa.heap.size = w.heap.size + 1 := by rw [hwa]; simp
  have hW2 : W = wa.alloc (.cells #[a', b', c'] t) := by rw [hW, hwa]
  refine ⟨?_, ?_, ?_, ?_⟩
  · rw [hW2, Below.heap_alloc wa _ _ (by omega), hwa]; exact heap_alloc_new w _
  · rw [hW2, ← sa]; exact heap_alloc_new wa _
  · rw [hW]; exact ((Below.refl _ _).alloc (Nat.le_refl _) _).alloc (by simp) _
  · rw [hW2]; simp [sa]
theorem cops_done {w W w2 : World} {nt : Bool} {N : List ByteArray} {P : List (Int × Int)} {a h : Option Addr} {ca cf : Nat} {z0 z1 z2 : Value} (bel : Below w.heap.size w W) (hs : W.heap.size = w.heap.size + 2) (r1 : W.heap[w.heap.size + 1]? = some (.cells #[z0, z1, z2] 25 (0, 0))) (hb : Below W.heap.size W w2) (hN : SQ w2 (fun g => W.heap.size ≤ g) a N) (hP : RQ w2 (fun g => W.heap.size ≤ g) h P) :
    ∃ V, V = set3 w2 (w.heap.size + 1) (.bool nt) (.slice a N.length ca) (.slice h P.length cf) ∧ V.heap[w.heap.size + 1]? = some (.cells #[.bool nt, .slice a N.length ca, .slice h P.length cf] 25 (0, 0)) ∧ (∀ b o, b ≠ w.heap.size + 1 → V.cell? ⟨b, o, none⟩ = w2.cell? ⟨b, o, none⟩) ∧ CopS w nt N P (.returned (.agg #[.bool nt, .slice a N.length ca, .slice h P.length cf])) V := by
  have ho : ∀ g, g ≠ w.heap.size + 1 → (set3 w2 (w.heap.size + 1) (.bool nt) (.slice a N.length ca) (.slice h P.length cf)).heap[g]? = w2.heap[g]? := fun g hg => set3_other hg _ _ _
  have hr := set3_row ((hb.block _ (by omega)).trans r1) (.bool nt) (.slice a N.length ca) (.slice h P.length cf)
  have hsz : w2.heap.size ≤ (set3 w2 (w.heap.size + 1) (.bool nt) (.slice a N.length ca) (.slice h P.length cf)).heap.size := by unfold set3; simp
  have hbb : Below w.heap.size w (set3 w2 (w.heap.size + 1) (.bool nt) (.slice a N.length ca) (.slice h P.length cf)) := by
    unfold set3
    exact (((Below.later bel hb).setCell (p := ⟨w.heap.size + 1, 0, none⟩) (by simp) _).setCell (p := ⟨w.heap.size + 1, 1, none⟩) (by simp) _).setCell (p := ⟨w.heap.size + 1, 2, none⟩) (by simp) _
  refine ⟨_, rfl, hr, fun b o hne => World.cell?_of_block (w := w2) (a := ⟨b, o, none⟩) (ho b hne), a, ca, h, cf, rfl, ?_, ?_, hbb⟩
  · generalize set3 w2 (w.heap.size + 1) (.bool nt) (.slice a N.length ca) (.slice h P.length cf) = V at *
    have hk : Keeps (fun g => W.heap.size ≤ g) w2 V := ⟨hsz, fun g o hg _ => World.cell?_of_block (w := w2) (ho g (by omega))⟩
    have h2 := hN.keeps hk
    exact ⟨fun k hk => by
      obtain ⟨b, off, e, hq, h3, h4⟩ := h2.at' k hk
      exact ⟨b, off, e, by omega, h3, h4⟩⟩
  · generalize set3 w2 (w.heap.size + 1) (.bool nt) (.slice a N.length ca) (.slice h P.length cf) = V at *
    have hk : Keeps (fun g => W.heap.size ≤ g) w2 V := ⟨hsz, fun g o hg _ => World.cell?_of_block (w := w2) (ho g (by omega))⟩
    have h2 := hP.keeps hk
    exact ⟨fun k hk => by
      obtain ⟨b, off, e, hq, h3, h4⟩ := h2.at' k hk
      exact ⟨b, off, e, by omega, h3, h4⟩⟩
theorem app_nilRc (w : World) (ty : TypeId) (c : Nat) : (Builtin.append_ #[23, 23] ty #[.slice none 0 0, .slice none 0 c]).run Tryd.prog w = .ok (.slice none 0 0) w := by
  go_simp
theorem wpList_spreadRc {ops : Array Oper} {rest : List Oper} {op : Oper} {a : Act} {w : World} {Q : Exit → Act → World → Prop} (hgd : op.guard = none) (s x : Operand) (ho : op.op = .call { callee := .builtin .append, args := #[s, x], argTypes := #[23, 23] })
    (aN : Option Addr) (L : List (Int × Int)) (cN base : Nat) (hs : a.eval s = .slice none 0 0) (hx : a.eval x = .slice aN L.length cN) (ha : RA w aN L) (hl : L.length ≤ 8796093022208) (hb : base ≤ w.heap.size)
    (h : ∀ v' w', OwnR w' base v' L → w.grownBy w' none → wpList Tryd.prog ops Q rest (a.put op.dst v') w') : wpList Tryd.prog ops Q (op :: rest) a w := by
  cases aN with
  | none =>
    have hL : L = [] := by
      cases L with
      | nil => rfl
      | cons y r => obtain ⟨b, off, e, _⟩ := ha.at' 0 (by simp); cases e
    subst hL
    refine wpList_plain hgd fun K hK => ?_
    have hr := app_nilRc w op.type cN
    unfold Oper.wp execOp
    simp only [ho, resolve, invoke, builtin, Sem.run_bind, Sem.run_pure, Result.andThen_ok, List.map_toArray, List.map_cons, List.map_nil, hs, hx, List.length_nil, hr]
    exact hK _ _ (h _ _ (World.ownsRow_nil _ _ _ _) ⟨rfl, rfl, rfl, Nat.le_refl _, fun _ _ _ => rfl⟩)
  | some ad => exact wpList_spreadR hgd s x ho (some ad) L cN base hs hx (fun e => nomatch e) ha hl hb h
set_option maxRecDepth 10000 in
set_option maxHeartbeats 1600000 in
theorem copiedSet_any (nt : Bool) (N : List ByteArray) (P : List (Int × Int)) (a b : Option Addr) (ca cb : Nat) (w : World) (hl : N.length ≤ 1000000000) (hs : ∀ s, s ∈ N → s.size ≤ 1000) (hlP : P.length ≤ 1000000000) (ha : SA w a N) (hb : RA w b P) :
    Calls Tryd.prog 49 #[.agg #[.bool nt, .slice a N.length ca, .slice b P.length cb]] w fun e w' => CopS w nt N P e w' := by
  obtain ⟨W, hW⟩ : ∃ W, (w.alloc (.cells #[.bool nt, .slice a N.length ca, .slice b P.length cb] 25)).alloc (.cells #[.bool false, .slice none 0 0, .slice none 0 0] 25) = W := ⟨_, rfl⟩
  obtain ⟨hr0, hr1, hbw, hsw⟩ := two_rows3 w _ _ _ _ _ _ _ W hW.symm
  obtain ⟨⟨x0, x1, x2⟩, _⟩ := row3 hr0
  have HR0 := hid0 hr0
  have HR1 := hid0 hr1
  have HB := hid0 hbw
  have HS := hid0 hsw
  have HRA := hid0 (hb.below hbw)
  have HEa := hid0 (fun (V : World) (hV : Below w.heap.size w V) => eachS_any N a ca V hl hs (ha.below hV))
  have HSk : Hid (∀ V, Below W.heap.size W V → V.cell? ⟨w.heap.size, 0, none⟩ = some (.bool nt) ∧ V.cell? ⟨w.heap.size, 1, none⟩ = some (.slice a N.length ca)) := hid0 (fun V hV => by
    obtain ⟨⟨q0, q1, _⟩, _⟩ := row3 ((hV.block _ (by omega)).trans hr0)
    exact ⟨q0, q1⟩)
  clear hr0 hr1 hbw hsw ha hb hs
  go_enter Tryd.func49, Tryd.ntmps49
  go_wp2_with (first
    | (at_builtin
       refine wpList_spreadRc (by rfl) _ _ (by rfl) b P cb W.heap.size (by rfl) (by rfl) HRA.out (by omega) (Nat.le_refl _) ?_
       intro vC w1 hoC hgC
       obtain ⟨h, cf, rfl, hrq⟩ := hoC.rq
       have hb1 : Below W.heap.size W w1 := (Below.refl _ _).grown hgC (Nat.le_refl _) (fun q e => (by cases e))
       have HQ := hid0 hrq
       have HB1 := hid0 hb1
       have hs1 := HSk.out _ (Below.later hb1 (Below.refl w1.heap.size w1).drew)
       clear hoC hgC hb1 hrq)
    | fail)
  go_region_held3 (fun V => V.cell? ⟨w.heap.size, 0, none⟩ = some (.bool nt) ∧ V.cell? ⟨w.heap.size, 1, none⟩ = some (.slice a N.length ca))
    (first | assumption | exact HSz.out)
    (first
      | (go_at_call 61
         refine (HEa.out _ (Below.later (Below.later HB.out HB1.out) (Below.refl w1.heap.size w1).drew)).mono ?_
         rintro r w2 ⟨v2, rfl, q1, q2⟩
         obtain ⟨g, ce, rfl, hsq⟩ := q1.sq
         have hb2 : Below W.heap.size W w2 := Below.later (Below.later HB1.out (Below.refl w1.heap.size w1).drew) q2
         have hs2 := HSk.out _ hb2
         have hq1 : Below w1.heap.size w1 w2 := Below.later (Below.refl w1.heap.size w1).drew q2
         obtain ⟨V, hV, hVr, hVo, hR⟩ := cops_done (nt := nt) (ca := ce) (cf := cf) HB.out HS.out HR1.out hb2 ⟨fun k hk => by
           obtain ⟨b', off', e', p1, p2⟩ := hsq.at' k hk
           exact ⟨b', off', e', Nat.le_trans HB1.out.size p1, p2⟩⟩ (HQ.out.keeps ⟨hq1.size, fun g' o' _ hl' => hq1.cell (p := ⟨g', o', none⟩) hl'⟩)
         have HR := hid0 hR
         have HVr := hid0 hVr
         obtain ⟨⟨z0, z1, z2⟩, f0, f1, f2⟩ := row3 ((hb2.block _ (by have := HS.out; omega)).trans HR1.out)
         have HSz : Hid (V.cell? ⟨w.heap.size, 0, none⟩ = some (.bool nt) ∧ V.cell? ⟨w.heap.size, 1, none⟩ = some (.slice a N.length ca)) := hid0 ⟨(hVo _ _ (by omega)).trans hs2.1, (hVo _ _ (by omega)).trans hs2.2⟩
         unfold set3 at hV
         have HV := hid0 hV
         rw [HV.out] at HSz
         clear hV hVr hVo hR q1 q2 hsq hb2 hq1))
  go_wp2
  rw [← HV.out]
  obtain ⟨⟨k0, k1, k2⟩, _⟩ := row3 HVr.out
  exact bodyPost_ret (v := .agg #[.bool nt, .slice g N.length ce, .slice h P.length cf]) (by simp [results, Tryd.results49, go_sem, k0, k1, k2]) rfl HR.out
end Go.Proofs.YtiapefdklojhdaaDoor
namespace Go.Proofs.YtiapefdklojhdaaDoor
open Go.RowKit Go.Shelf
/-- Names of no more than a thousand bytes. -/
inductive SmallN : Ex → Prop
  | mk (k : Int) (nt : Bool) (N : List ByteArray) (P : List (Int × Int)) (L : List Ex) (hN : ∀ s, s ∈ N → s.size ≤ 1000) (hL : ∀ e, e ∈ L → SmallN e) : SmallN (.mk k nt N P L)
theorem SmallN.inv {k : Int} {nt : Bool} {N : List ByteArray} {P : List (Int × Int)} {L : List Ex} (h : SmallN (.mk k nt N P L)) : (∀ s, s ∈ N → s.size ≤ 1000) ∧ ∀ e, e ∈ L → SmallN e := by
  cases h with
  | mk _ _ _ _ _ hN hL => exact ⟨hN, hL⟩
/-- What copied leaves. -/
def CopR (w : World) (e : Ex) (r : Ending) (w' : World) : Prop := ∃ y : EV, r = .returned y.v ∧ RvIs w' w.heap.size w'.heap.size e y ∧ Below w.heap.size w w'
theorem RvIs.flat {w : World} {lo hi : Nat} {e : Ex} {x : EV} (h : RvIs w lo hi e x) : ∃ k t a m c b n d g l z, x = ⟨.int .i64 k, .bool t, .slice a m c, .slice b n d, .slice g l z⟩ := by
  cases h with
  | mk => exact ⟨_, _, _, _, _, _, _, _, _, _, _, rfl⟩
theorem CopR.shape {w w' : World} {t : Ex} {r : Ending} (h : CopR w t r w') : ∃ k u a m c b n d g l z, r = .returned (.agg #[.int .i64 k, .bool u, .slice a m c, .slice b n d, .slice g l z]) ∧ RvIs w' w.heap.size w'.heap.size t ⟨.int .i64 k, .bool u, .slice a m c, .slice b n d, .slice g l z⟩ ∧ Below w.heap.size w w' := by
  obtain ⟨y, e, h1, h2⟩ := h
  obtain ⟨k, u, a, m, c, b, n, d, g, l, z, rfl⟩ := h1.flat
  exact ⟨k, u, a, m, c, b, n, d, g, l, z, e, h1, h2⟩
theorem PR.up {w : World} {m hi hi' : Nat} {v : Value} {L : List Ex} {xs : List EV} {los his : Nat → Nat} (h : PR w m hi v L xs los his) (hh : hi ≤ hi') : PR w m hi' v L xs los his :=
  ⟨h.len, h.own, fun g e => ⟨by have := (h.gin g e).1; omega, (h.gin g e).2⟩, fun i p => by have := h.pin i p; omega, h.dis, h.is⟩
theorem PR.form {W : World} {m hi : Nat} {v : Value} {L : List Ex} {xs : List EV} {los his : Nat → Nat} (h : PR W m hi v L xs los his) : ∃ a c, v = .slice a L.length c := by
  rcases h.own.2 with ⟨rfl, e⟩ | ⟨g, cap', cur, rfl, _⟩
  · exact ⟨none, 0, by rw [e]⟩
  · exact ⟨_, _, rfl⟩
/-- What stands between the rounds. -/
structure EachI (w wr : World) (v : Value) (L : List Ex) : Prop where
  pr : ∃ hi xs los his, w.heap.size ≤ hi ∧ hi ≤ wr.heap.size ∧ PR wr w.heap.size hi v L xs los his
  bel : Below w.heap.size w wr
theorem EachI.first (w : World) : EachI w w (.slice none 0 0) [] := ⟨⟨w.heap.size, [], _, _, Nat.le_refl _, Nat.le_refl _, PR.nil _ _⟩, Below.refl _ _⟩
theorem EachI.form {w wr : World} {v : Value} {L : List Ex} (h : EachI w wr v L) : ∃ a c, v = .slice a L.length c := by
  obtain ⟨_, _, _, _, _, _, hp⟩ := h.pr
  exact hp.form
/-- The row as it is when a part was copied. -/
theorem EachI.row {w wr w2 : World} {v : Value} {L : List Ex} (h : EachI w wr v L) (h2 : Below wr.heap.size wr w2) : ∃ xs : List EV, w2.ownsRow w.heap.size 28 5 v L.length (xs.flatMap evC) ∧ ∀ (w1 w4 : World) (v4 : Value) (e : Ex) (x : EV) (T : TypeId), wr.heap.size ≤ w1.heap.size → w1.heap.size ≤ w2.heap.size → RvIs w2 w1.heap.size w2.heap.size e x → (w2.alloc (.cells #[x.k, x.t, x.n, x.p, x.r] T)).grownBy w4 v.ownBlock → w4.ownsRow w.heap.size 28 5 v4 (L.length + 1) (xs.flatMap evC ++ evC x) →
    (v4.ownBlock = v.ownBlock ∨ v4.ownBlock = some (w2.alloc (.cells #[x.k, x.t, x.n, x.p, x.r] T)).heap.size) → EachI w w4 v4 (L ++ [e]) := by
  obtain ⟨hi, xs, los, his, p1, p2, hp⟩ := h.pr
  have hp2 := hp.past h2
  refine ⟨xs, hp2.own, fun w1 w4 v4 e x T q1 q2 hx hg ho hat => ?_⟩
  have h3 : Below w2.heap.size w2 (w2.alloc (.cells #[x.k, x.t, x.n, x.p, x.r] T)) := (Below.refl _ _).alloc (Nat.le_refl _) _
  have hs := h.bel.size
  refine ⟨⟨_, _, _, _, ?_, Nat.le_refl _, PR.snoc hp2 p1 hx (by omega) q2 h3 h3.size hg ho hat⟩, ?_⟩
  · have := hg.size
    have := h3.size
    have := h2.size
    omega
  · exact (Below.later (Below.later h.bel h2) h3).grown hg (by have := h3.size; have := h2.size; omega) (fun q e => (World.ownsRow.lt hp.own q e).1)
def EachR (w : World) (L : List Ex) (r : Ending) (w' : World) : Prop := ∃ v xs los his, r = .returned v ∧ PR w' w.heap.size w'.heap.size v L xs los his ∧ Below w.heap.size w w'
set_option maxRecDepth 10000 in
set_option maxHeartbeats 1600000 in
theorem eachE_any (L : List Ex) (c : Option Addr) (cc : Nat) (vs : Nat → EV) (w : World) (hl : L.length ≤ 1000000000) (hL : ∀ i, i < L.length → ∃ g off, c = some ⟨g, off, none⟩ ∧ Five w g (off + i * 5) (vs i))
    (hF : ∀ i, i < L.length → ∃ k t a m c b n d g l z, vs i = ⟨.int .i64 k, .bool t, .slice a m c, .slice b n d, .slice g l z⟩)
    (ih : ∀ i (h : i < L.length) (W : World), Below w.heap.size w W → Calls Tryd.prog 26 #[(vs i).v] W fun r w' => CopR W L[i] r w') :
    Calls Tryd.prog 48 #[.slice c L.length cc, .func (.func 26) #[] #[]] w fun r w' => EachR w L r w' := by
  obtain ⟨i0, hi, hz0, hz1, hz2⟩ := info_parts infoE
  have HL := hid0 hL
  have HIH := hid0 ih
  have HFl := hid0 hF
  clear hL ih hF
  go_enter Tryd.func48, Tryd.ntmps48
  go_wp2
  go_loopw [5, 7, 10] (fun v _ i wr => ∃ (k : Nat), k ≤ L.length ∧ i = .int .i64 (k : Int) ∧ Hid (EachI w wr v (L.take k))) (fun _ _ i _ => L.length - (intOf i).toNat)
  case atStart => exact ⟨0, Nat.zero_le _, rfl, hid0 (EachI.first w)⟩
  case round =>
    obtain ⟨k, hk, rfl, HI⟩ := hrel
    by_cases hlt : k < L.length
    · have hkI : (k : Int) < (L.length : Int) := by omega
      have hkI0 : (0 : Int) ≤ (k : Int) := by omega
      obtain ⟨g, off, rfl, h5⟩ := HL.out k hlt
      obtain ⟨y0, y1, y2, y3, y4⟩ := h5.past HI.out.bel
      have HTK : Hid (L.take (k + 1) = L.take k ++ [L[k]]) := hid0 (by rw [List.take_add_one, List.getElem?_eq_getElem hlt]; rfl)
      have HTL : Hid ((L.take k).length = k) := hid0 (by rw [List.length_take]; omega)
      have hvs : ∃ av cv, u5 = .slice av k cv := by
        obtain ⟨av, cv, e⟩ := HI.out.form
        rw [HTL.out] at e
        exact ⟨av, cv, e⟩
      obtain ⟨av, cv, rfl⟩ := hvs
      have HC := hid0 (HIH.out k hlt)
      have hbs := HI.out.bel.size
      obtain ⟨k9, t9, a9, m9, c9, b9, n9, d9, g9, l9, z9, hfl⟩ := HFl.out k hlt
      rw [hfl] at y0 y1 y2 y3 y4 HC
      unfold EV.v at HC
      generalize L[k] = p at *
      simp only [] at y0 y1 y2 y3 y4 HC
      clear hfl
      obtain ⟨w1, hw1⟩ : ∃ w1, wr.alloc (.cells #[.int .i64 k9, .bool t9, .slice a9 m9 c9, .slice b9 n9 d9, .slice g9 l9 z9] 28) = w1 := ⟨_, rfl⟩
      obtain ⟨hb1, hr1, hs1⟩ := laid hw1
      obtain ⟨⟨c0, c1, c2, c3, c4⟩, _⟩ := rowE hr1
      have HB1 := hid0 hb1
      have HS1 := hid0 hs1
      clear h5 hb1 hr1 hs1
      go_wp2_with (first
        | (go_at_call 26
           refine (HC.out w1 (Below.later HI.out.bel HB1.out)).mono ?_
           rintro r w2 hr
           obtain ⟨k5, u5', a5, m5, c5, b5, n5, d5, g5, l5, z5, rfl, q1, q2⟩ := hr.shape
           obtain ⟨xs, hown, hnext⟩ := HI.out.row (Below.later HB1.out q2)
           rw [HTL.out] at hown hnext
           have HOk := hid0 hown
           have HNx := hid0 hnext
           have HQ := hid0 q1
           have HB2 := hid0 q2
           clear hr q1 q2 hown hnext)
        | (at_builtin; go_loud ((
             refine wpList_append_own_at _ (by rfl) _ _ 26 (by rfl) w.heap.size 28 i0 (.agg #[.int .i64 0, .bool false, .slice none 0 0, .slice none 0 0, .slice none 0 0]) 5 88 Tryd.underlying26 hi hz0 hz1 hz2 rfl (by decide) (.slice av k cv) k (xs.flatMap evC) (by rfl) (World.ownsRow.alloc HOk.out _) ⟨w2.heap.size, 0, none⟩ 1 1 (evC ⟨.int .i64 k5, .bool u5', .slice a5 m5 c5, .slice b5 n5 d5, .slice g5 l5 z5⟩) (by rfl) (by rfl) (cellE_new w2 _ _ _ _ _ _) HQ.out.ex.one (by unfold maxLen; omega) (by omega) (by have := HB2.out.size; have := HS1.out; simp; omega) ?_
             intro v4 w4 hown4 hgrow4 _ hat4
             have HI4 := hid0 (HNx.out w1 w4 v4 p _ 28 (by have := HS1.out; omega) HB2.out.size HQ.out hgrow4 hown4 hat4)
             clear hown4 hgrow4 hat4)))
        | fail)
      go_roundw
      case rel => exact ⟨k + 1, by omega, by go_num, hid0 (by rw [HTK.out]; exact HI4.out)⟩
      case measure => simp [intOf]; omega
    · have hkI : ¬ (k : Int) < (L.length : Int) := by omega
      have HE : Hid (EachI w wr u5 L) := hid0 (by have h := HI.out; rw [List.take_of_length_le (by omega)] at h; exact h)
      go_wp2
      go_ret
      obtain ⟨hi', xs, los, his, p1, p2, hp⟩ := HE.out.pr
      exact ⟨u5, xs, los, his, rfl, hp.up p2, HE.out.bel⟩
end Go.Proofs.YtiapefdklojhdaaDoor
