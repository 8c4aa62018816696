/-
  caesurakit.left, ExprLeft.
-/
import Derived.Test.YthcpalpcakjfnaaMgEM
namespace Go.Proofs.Ythcpalpcakjfnaa
open Go.RowKit Go.Shelf
theorem ExL.shape {w : World} {Q : Nat → Prop} {n : Nat} {e : Ex} {x : EV} (h : ExL w Q (n + 1) e x) : ∃ (k : Int) (nt : Bool) (N : List ByteArray) (P : List (Int × Int)) (L : List Ex) (gN cN gP cP gL cL : Nat) (vs : Nat → EV), e = .mk k nt N P L ∧ x = ⟨.int .i64 k, .bool nt, .slice (some ⟨gN, 0, none⟩) N.length cN, .slice (some ⟨gP, 0, none⟩) P.length cP, .slice (some ⟨gL, 0, none⟩) L.length cL⟩ ∧
    SQ w Q (some ⟨gN, 0, none⟩) (N ++ [markB]) ∧ RQ w Q (some ⟨gP, 0, none⟩) (P ++ [(-77, 0)]) ∧ N.length ≤ 100000000 ∧ P.length ≤ 100000000 ∧ L.length ≤ 100000000 ∧ N.length + 1 ≤ cN ∧ P.length + 1 ≤ cP ∧ L.length + 1 ≤ cL ∧ (∀ i, i < L.length → Five w gL (i * 5) (vs i)) ∧ w.cell? ⟨gL, L.length * 5, none⟩ = some (.int .i64 (-77)) ∧ ∀ i (h : i < L.length), ExL w Q n L[i] (vs i) := by
  cases h with
  | mk n k nt N P L gN cN gP cP gL cL vs hN hP lN lP lL kN kP kL hL hQ hM hR => exact ⟨k, nt, N, P, L, gN, cN, gP, cP, gL, cL, vs, rfl, rfl, hN, hP, lN, lP, lL, kN, kP, kL, hL, hM, hR⟩
theorem marks_at {w : World} {Q : Nat → Prop} {N : List ByteArray} {P : List (Int × Int)} {gN gP : Nat} (hN : SQ w Q (some ⟨gN, 0, none⟩) (N ++ [markB])) (hP : RQ w Q (some ⟨gP, 0, none⟩) (P ++ [(-77, 0)])) :
    w.cell? ⟨gN, N.length, none⟩ = some (.string ⟨#[109, 97, 114, 107]⟩) ∧ w.cell? ⟨gP, P.length * 2, none⟩ = some (.int .i64 (-77)) := by
  obtain ⟨b, off, e, _, _, h⟩ := hN.at' N.length (by simp)
  cases e
  obtain ⟨b, off, e, _, h', _⟩ := hP.at' P.length (by simp)
  cases e
  rw [Nat.zero_add] at h h'
  constructor
  · rw [h, List.getElem_append_right (Nat.le_refl _)]; simp [markB]
  · rw [h', List.getElem_append_right (Nat.le_refl _)]; simp
set_option maxRecDepth 10000 in
set_option maxHeartbeats 1600000 in
theorem left_node (d : Nat) (k : Int) (nt : Bool) (lN lP : Nat) (L : List Ex) (gN cN gP cP gL cL : Nat) (vs : Nat → EV) (w : World) (hd : d ≤ 5000) (hlN : lN ≤ 100000000) (hlP : lP ≤ 100000000) (lL : L.length ≤ 100000000) (kN : lN + 1 ≤ cN) (kP : lP + 1 ≤ cP) (kL : L.length + 1 ≤ cL)
    (mN : w.cell? ⟨gN, lN, none⟩ = some (.string ⟨#[109, 97, 114, 107]⟩)) (mP : w.cell? ⟨gP, lP * 2, none⟩ = some (.int .i64 (-77))) (hM : w.cell? ⟨gL, L.length * 5, none⟩ = some (.int .i64 (-77)))
    (hL : ∀ i, i < L.length → Five w gL (i * 5) (vs i)) (hF : ∀ i, i < L.length → ∃ k t a m c b n d g l z, vs i = ⟨.int .i64 k, .bool t, .slice a m c, .slice b n d, .slice g l z⟩)
    (ih : ∀ i (_ : i < L.length) (V : World), Below w.heap.size w V → Calls Try.prog 28 #[(vs i).v, .int .i64 ((d : Int) + 1)] V fun r w' => r = .returned (.bool true) ∧ Below V.heap.size V w') :
    Calls Try.prog 28 #[.agg #[.int .i64 k, .bool nt, .slice (some ⟨gN, 0, none⟩) lN cN, .slice (some ⟨gP, 0, none⟩) lP cP, .slice (some ⟨gL, 0, none⟩) L.length cL], .int .i64 (d : Int)] w fun r w' => r = .returned (.bool true) ∧ Below w.heap.size w w' := by
  obtain ⟨W, hW⟩ : ∃ W, w.alloc (.cells #[.int .i64 k, .bool nt, .slice (some ⟨gN, 0, none⟩) lN cN, .slice (some ⟨gP, 0, none⟩) lP cP, .slice (some ⟨gL, 0, none⟩) L.length cL] 48) = W := ⟨_, rfl⟩
  obtain ⟨hb, hr, _⟩ := laid hW
  have pc : ∀ {V : World} {p : Addr} {u : Value}, w.cell? p = some u → Below W.heap.size W V → V.cell? p = some u := fun h hV => ((Below.later hb hV).cell (World.block_lt_of_cell? w _ h)).trans h
  have HC := hid0 (fun (V : World) (hV : Below W.heap.size W V) => setLeft_any nt lN lP gN gP cN cP V (by omega) (by omega) kN kP (pc mN hV) (pc mP hV))
  have HSk : Hid (∀ V, Below W.heap.size W V → (V.cell? ⟨w.heap.size, 0, none⟩ = some (.int .i64 k) ∧ V.cell? ⟨w.heap.size, 1, none⟩ = some (.bool nt) ∧ V.cell? ⟨w.heap.size, 2, none⟩ = some (.slice (some ⟨gN, 0, none⟩) lN cN) ∧ V.cell? ⟨w.heap.size, 3, none⟩ = some (.slice (some ⟨gP, 0, none⟩) lP cP) ∧ V.cell? ⟨w.heap.size, 4, none⟩ = some (.slice (some ⟨gL, 0, none⟩) L.length cL)) ∧ V.cell? ⟨gL, L.length * 5, none⟩ = some (.int .i64 (-77))) := hid0 (fun V hV => ⟨(rowE (kept hV hr)).1, pc hM hV⟩)
  have HB := hid0 hb
  have HL := hid0 hL
  have HF := hid0 hF
  have HIH := hid0 ih
  obtain ⟨⟨x0, x1, x2, x3, x4⟩, x5⟩ := HSk.out W (Below.refl _ _)
  have hd5 : ¬ (5000 < (d : Int)) := by omega
  have hdw : IntKind.i64.wrap ((d : Int) + 1) = (d : Int) + 1 := by simp [IntKind.wrap, IntKind.bits, IntKind.signed]; omega
  have hlw : IntKind.i64.wrap ((L.length : Int) + 1) = (L.length : Int) + 1 := by simp [IntKind.wrap, IntKind.bits, IntKind.signed]; omega
  have z0 : (0 : Int) ≤ (L.length : Int) := by omega
  have z1 : (L.length : Int) + 1 ≤ (cL : Int) := by omega
  have z2 : (L.length : Int) < (L.length : Int) + 1 := by omega
  clear hb hr mN mP hM hL hF ih kN kP
  go_enter Try.func28, Try.ntmps28
  go_wp2_with (first
    | (go_at_call 20; refine (HC.out _ (Below.refl _ _)).mono ?_; rintro r w1 ⟨rfl, hb1⟩; obtain ⟨⟨u0, u1, u2, u3, u4⟩, u5⟩ := HSk.out w1 hb1; have HB1 := hid0 hb1; clear hb1)
    | fail)
  clear x0 x1 x2 x3 x4 x5 u0 u1 u2 u3 u4 u5 hW HC
  go_loopw [6, 7] (fun _ i wr => ∃ m : Nat, m ≤ L.length ∧ i = .int .i64 (m : Int) ∧ Hid (Below W.heap.size W wr)) (fun _ i _ => L.length - (intOf i).toNat)
  case atStart => exact ⟨0, Nat.zero_le _, rfl, HB1⟩
  case round =>
    clear HB1
    obtain ⟨m, hm, rfl, HBr⟩ := hrel
    obtain ⟨⟨u0, u1, u2, u3, u4⟩, u5⟩ := HSk.out wr HBr.out
    clear u0 u1 u2 u3 u5
    by_cases hlt : m < L.length
    · have hmI : (m : Int) < (L.length : Int) := by omega
      have hm0 : (0 : Int) ≤ (m : Int) := by omega
      obtain ⟨p0, p1, p2, p3, p4⟩ := (HL.out m hlt).past (Below.later HB.out HBr.out)
      obtain ⟨yk, yt, ya, ym, yc, yb, yn, yd, yg, yl, yz, ey⟩ := HF.out m hlt
      have HCa : Hid (∀ V, Below W.heap.size W V → Calls Try.prog 28 #[.agg #[.int .i64 yk, .bool yt, .slice ya ym yc, .slice yb yn yd, .slice yg yl yz], .int .i64 ((d : Int) + 1)] V fun r w' => r = .returned (.bool true) ∧ Below V.heap.size V w') := hid0 (fun V hV => by
        have h := HIH.out m hlt V (Below.later HB.out hV)
        unfold EV.v at h
        rw [ey] at h
        exact h)
      rw [ey] at p0 p1 p2 p3 p4
      simp only [] at p0 p1 p2 p3 p4
      clear ey
      go_wp2_with (first
        | (go_at_call 28; refine (HCa.out _ HBr.out).mono ?_; rintro r w1 ⟨rfl, hb1⟩; have HB2 := hid0 (Below.later HBr.out hb1); clear hb1)
        | fail)
      go_roundw
      case rel => exact ⟨m + 1, by omega, by go_num, HB2⟩
      case measure => simp [intOf]; omega
    · have hmI : ¬ (m : Int) < (L.length : Int) := by omega
      go_wp2
      go_ret
      exact ⟨rfl, Below.later HB.out HBr.out⟩
set_option maxRecDepth 10000 in
set_option maxHeartbeats 800000 in
theorem left_deep (d : Nat) (x : EV) (w : World) (hd : 5000 < d) (hd2 : d ≤ 6000) (hx : ∃ k t a m c b n d g l z, x = ⟨.int .i64 k, .bool t, .slice a m c, .slice b n d, .slice g l z⟩) :
    Calls Try.prog 28 #[x.v, .int .i64 (d : Int)] w fun r w' => r = .returned (.bool true) ∧ Below w.heap.size w w' := by
  obtain ⟨k, t, a, m, c, b, n, d', g, l, z, rfl⟩ := hx
  unfold EV.v
  simp only []
  obtain ⟨W, hW⟩ : ∃ W, w.alloc (.cells #[.int .i64 k, .bool t, .slice a m c, .slice b n d', .slice g l z] 48) = W := ⟨_, rfl⟩
  obtain ⟨hb, _, _⟩ := laid hW
  have HB := hid0 hb
  clear hb
  have hdI : 5000 < (d : Int) := by omega
  go_enter Try.func28, Try.ntmps28
  go_wp2
  go_ret
  exact ⟨rfl, HB.out⟩
theorem left_any : ∀ (n d : Nat), d + n = 5001 → ∀ (e : Ex) (x : EV) (Q : Nat → Prop) (w : World), ExL w Q n e x → Calls Try.prog 28 #[x.v, .int .i64 (d : Int)] w fun r w' => r = .returned (.bool true) ∧ Below w.heap.size w w' := by
  intro n
  induction n with
  | zero =>
    intro d hd e x Q w hx
    exact left_deep d x w (by omega) (by omega) hx.is.flat
  | succ n ih =>
    intro d hd e x Q w hx
    obtain ⟨k, nt, N, P, L, gN, cN, gP, cP, gL, cL, vs, rfl, rfl, hN, hP, lN, lP, lL, kN, kP, kL, hL, hM, hR⟩ := hx.shape
    obtain ⟨m1, m2⟩ := marks_at hN hP
    refine left_node d k nt N.length P.length L gN cN gP cP gL cL vs w (by omega) lN lP lL kN kP kL m1 m2 hM hL (fun i hi => (hR i hi).is.flat) (fun i hi V hV => ?_)
    have h := ih (d + 1) (by omega) L[i] (vs i) Q V ((hR i hi).past hV)
    rw [show (((d + 1 : Nat)) : Int) = (d : Int) + 1 by omega] at h
    exact h
set_option maxRecDepth 10000 in
set_option maxHeartbeats 800000 in
theorem exprLeft_any (e : Ex) (x : EV) (Q : Nat → Prop) (w : World) (hx : ExL w Q 5001 e x) : Calls Try.prog 21 #[x.v] w fun r w' => r = .returned (.bool true) ∧ Below w.heap.size w w' := by
  have hl := fun V (hV : Below w.heap.size w V) => left_any 5001 0 (by omega) e x Q V (hx.past hV)
  obtain ⟨k, t, a, m, c, b, n, d', g, l, z, rfl⟩ := hx.is.flat
  unfold EV.v at hl ⊢
  simp only [] at hl ⊢
  obtain ⟨W, hW⟩ : ∃ W, w.alloc (.cells #[.int .i64 k, .bool t, .slice a m c, .slice b n d', .slice g l z] 48) = W := ⟨_, rfl⟩
  obtain ⟨hb, hr, _⟩ := laid hW
  obtain ⟨⟨x0, x1, x2, x3, x4⟩, _⟩ := rowE hr
  have HB := hid0 hb
  have HC := hid0 (hl W hb)
  clear hb hr hx hl
  go_enter Try.func21, Try.ntmps21
  go_wp2_with (first
    | (go_at_call 28; refine HC.out.mono ?_; rintro r w1 ⟨rfl, hb1⟩; have HB1 := hid0 hb1; clear hb1)
    | fail)
  go_ret
  exact ⟨rfl, Below.later HB.out HB1.out⟩
end Go.Proofs.Ythcpalpcakjfnaa
