/-
  caesurakit.RulesLeft.
-/
import Derived.Test.YthcpalpcakjfnaaMgRW
import Derived.Test.YthcpalpcakjfnaaMgFW
namespace Go.Proofs.Ythcpalpcakjfnaa
open Go.RowKit Go.Shelf
set_option maxRecDepth 10000 in
set_option maxHeartbeats 1600000 in
theorem rulesLeft_any (s : Int) (nt el : Bool) (N : List ByteArray) (P : List (Int × Int)) (R : List Ru) (g c gN cN gP cP : Nat) (xs ys : Nat → EV) (Q : Nat → Prop) (w : World) (lN : N.length ≤ 100000000) (lP : P.length ≤ 100000000) (lR : R.length ≤ 100000000) (h : RuLe w Q R N P g c gN cN gP cP xs ys) :
    Calls Try.prog 10 #[.agg #[.slice (some ⟨g, 0, none⟩) R.length c, .int .i64 s, .bool nt, .slice (some ⟨gN, 0, none⟩) N.length cN, .slice (some ⟨gP, 0, none⟩) P.length cP, .bool el]] w fun r w' => r = .returned (.bool true) ∧ Below w.heap.size w w' := by
  obtain ⟨W, hW⟩ : ∃ W, w.alloc (.cells #[.slice (some ⟨g, 0, none⟩) R.length c, .int .i64 s, .bool nt, .slice (some ⟨gN, 0, none⟩) N.length cN, .slice (some ⟨gP, 0, none⟩) P.length cP, .bool el] 31) = W := ⟨_, rfl⟩
  obtain ⟨hb, hr, _⟩ := laid hW
  have hmk := fun (V : World) (hV : Below W.heap.size W V) => marks_at (h.past (Below.later hb hV)).hN (h.past (Below.later hb hV)).hP
  have HC := hid0 (fun (V : World) (hV : Below W.heap.size W V) => setLeft_any nt N.length P.length gN gP cN cP V (by omega) (by omega) h.kN h.kP (hmk V hV).1 (hmk V hV).2)
  have HSk : Hid (∀ V, Below W.heap.size W V → (V.cell? ⟨w.heap.size, 0, none⟩ = some (.slice (some ⟨g, 0, none⟩) R.length c) ∧ V.cell? ⟨w.heap.size, 1, none⟩ = some (.int .i64 s) ∧ V.cell? ⟨w.heap.size, 2, none⟩ = some (.bool nt) ∧ V.cell? ⟨w.heap.size, 3, none⟩ = some (.slice (some ⟨gN, 0, none⟩) N.length cN) ∧ V.cell? ⟨w.heap.size, 4, none⟩ = some (.slice (some ⟨gP, 0, none⟩) P.length cP) ∧ V.cell? ⟨w.heap.size, 5, none⟩ = some (.bool el)) ∧ V.cell? ⟨g, R.length * 14, none⟩ = some (.string ⟨#[109, 97, 114, 107]⟩)) := hid0 (fun V hV => ⟨(row6 (kept hV hr)).1, (h.past (Below.later hb hV)).ru.mark⟩)
  have HB := hid0 hb
  have HR := hid0 h.ru
  obtain ⟨⟨x0, x1, x2, x3, x4, x6⟩, x5⟩ := HSk.out W (Below.refl _ _)
  have hlw : IntKind.i64.wrap ((R.length : Int) + 1) = (R.length : Int) + 1 := by simp [IntKind.wrap, IntKind.bits, IntKind.signed]; omega
  have z0 : (0 : Int) ≤ (R.length : Int) := by omega
  have z1 : (R.length : Int) + 1 ≤ (c : Int) := by have := h.ru.cap; omega
  have z2 : (R.length : Int) < (R.length : Int) + 1 := by omega
  clear hb hr hmk h
  go_enter Try.func10, Try.ntmps10
  go_wp2_with (first
    | (go_at_call 20; refine (HC.out _ (Below.refl _ _)).mono ?_; rintro r w1 ⟨rfl, hb1⟩; obtain ⟨⟨u0, u1, u2, u3, u4, u6⟩, u5⟩ := HSk.out w1 hb1; have HB1 := hid0 hb1; clear hb1)
    | fail)
  clear x0 x1 x2 x3 x4 x5 x6 u0 u1 u2 u3 u4 u5 u6 hW HC
  go_loopw [5, 6, 7] (fun i _ _ wr => ∃ m : Nat, m ≤ R.length ∧ i = .int .i64 (m : Int) ∧ Hid (Below W.heap.size W wr)) (fun i _ _ _ => R.length - (intOf i).toNat)
  case atStart => exact ⟨0, Nat.zero_le _, rfl, HB1⟩
  case round =>
    clear HB1
    obtain ⟨m, hm, rfl, HBr⟩ := hrel
    obtain ⟨⟨u0, _⟩, _⟩ := HSk.out wr HBr.out
    by_cases hlt : m < R.length
    · have hmI : (m : Int) < (R.length : Int) := by omega
      have hm0 : (0 : Int) ≤ (m : Int) := by omega
      have hru := HR.out.past (Below.later HB.out HBr.out)
      have HFt := hid0 (hru.at' m hlt)
      obtain ⟨k1, t1, a1, m1, c1, b1, n1, d1, g1, l1, z1', ex1⟩ := (hru.l m hlt).is.flat
      obtain ⟨k2, t2, a2, m2, c2, b2, n2, d2, g2, l2, z2', ex2⟩ := (hru.r m hlt).is.flat
      have HC1 : Hid (∀ V, Below wr.heap.size wr V → Calls Try.prog 21 #[.agg #[.int .i64 k1, .bool t1, .slice a1 m1 c1, .slice b1 n1 d1, .slice g1 l1 z1']] V fun r w' => r = .returned (.bool true) ∧ Below V.heap.size V w') := hid0 (fun V hV => by
        have h := exprLeft_any R[m].l (xs m) Q V ((hru.l m hlt).past hV)
        unfold EV.v at h
        rw [ex1] at h
        exact h)
      have HC2 : Hid (∀ V, Below wr.heap.size wr V → Calls Try.prog 21 #[.agg #[.int .i64 k2, .bool t2, .slice a2 m2 c2, .slice b2 n2 d2, .slice g2 l2 z2']] V fun r w' => r = .returned (.bool true) ∧ Below V.heap.size V w') := hid0 (fun V hV => by
        have h := exprLeft_any R[m].r (ys m) Q V ((hru.r m hlt).past hV)
        unfold EV.v at h
        rw [ex2] at h
        exact h)
      rw [ex1, ex2] at HFt
      obtain ⟨p0, p1, p2, p3, p4, p5, _⟩ := HFt.out
      simp only [] at p1 p2 p3 p4 p5
      have M1 : Hid True := trivial
      clear hru ex1 ex2 p0
      go_wp2_with (first
        | (go_at_call 21; clear M1; refine (HC1.out _ (Below.refl _ _)).mono ?_; rintro r w1 ⟨rfl, hb1⟩; have HB2 := hid0 hb1; obtain ⟨⟨v0, _⟩, _⟩ := HSk.out w1 (Below.later HBr.out hb1); obtain ⟨_, _, _, _, _, _, p6, p7, p8, p9, p10, _, _, _⟩ := HFt.out.past hb1; simp only [] at p6 p7 p8 p9 p10; clear hb1; have M2 : Hid True := trivial)
        | (go_at_call 21; clear M2; refine (HC2.out _ HB2.out).mono ?_; rintro r w2 ⟨rfl, hb2⟩; have HB3 := hid0 (Below.later HBr.out (Below.later HB2.out hb2)); clear hb2)
        | fail)
      go_roundw
      case rel => exact ⟨m + 1, by omega, by go_num, HB3⟩
      case measure => simp [intOf]; omega
    · have hmI : ¬ (m : Int) < (R.length : Int) := by omega
      go_wp2
      go_ret
      exact ⟨rfl, Below.later HB.out HBr.out⟩
end Go.Proofs.Ythcpalpcakjfnaa
