/-
  caesuraref0.SameRules of rules that lie in memory twice.
-/
import Derived.Test.YthcpalpcakjfnaaMgRW
import Derived.Test.YthcpalpcakjfnaaMgSW
namespace Go.Proofs.Ythcpalpcakjfnaa
open Go.RowKit Go.Shelf
set_option maxRecDepth 10000 in
set_option maxHeartbeats 3200000 in
theorem sameRules_any (s : Int) (nt el : Bool) (N : List ByteArray) (P : List (Int × Int)) (R : List Ru) (a b c a' b' c' : Option Addr) (ca cb cc ca' cb' cc' : Nat) (xs ys xs' ys' : Nat → EV) (w : World) (lN : N.length ≤ 100000000) (lP : P.length ≤ 100000000) (lR : R.length ≤ 100000000)
    (hN : SA w a N) (hP : RA w b P) (hR : RuI w c R xs ys) (hN' : SA w a' N) (hP' : RA w b' P) (hR' : RuI w c' R xs' ys') :
    Calls Try.prog 8 #[.agg #[.slice c R.length cc, .int .i64 s, .bool nt, .slice a N.length ca, .slice b P.length cb, .bool el], .agg #[.slice c' R.length cc', .int .i64 s, .bool nt, .slice a' N.length ca', .slice b' P.length cb', .bool el]] w fun r w' => r = .returned (.bool true) ∧ Below w.heap.size w w' := by
  obtain ⟨W, hW⟩ : ∃ W, (w.alloc (.cells #[.slice c R.length cc, .int .i64 s, .bool nt, .slice a N.length ca, .slice b P.length cb, .bool el] 31)).alloc (.cells #[.slice c' R.length cc', .int .i64 s, .bool nt, .slice a' N.length ca', .slice b' P.length cb', .bool el] 31) = W := ⟨_, rfl⟩
  obtain ⟨hr0, hr1, hb, hs⟩ := two_rows6 w _ _ _ _ _ _ _ _ _ _ _ _ _ W hW.symm
  have HC := hid0 (sameSet nt N P a b a' b' ca cb ca' cb' W (by omega) (by omega) (hN.below hb) (hP.below hb) (hN'.below hb) (hP'.below hb))
  have HSk : Hid (∀ V, Below W.heap.size W V → (V.cell? ⟨w.heap.size, 0, none⟩ = some (.slice c R.length cc) ∧ V.cell? ⟨w.heap.size, 1, none⟩ = some (.int .i64 s) ∧ V.cell? ⟨w.heap.size, 2, none⟩ = some (.bool nt) ∧ V.cell? ⟨w.heap.size, 3, none⟩ = some (.slice a N.length ca) ∧ V.cell? ⟨w.heap.size, 4, none⟩ = some (.slice b P.length cb) ∧ V.cell? ⟨w.heap.size, 5, none⟩ = some (.bool el)) ∧ (V.cell? ⟨w.heap.size + 1, 0, none⟩ = some (.slice c' R.length cc') ∧ V.cell? ⟨w.heap.size + 1, 1, none⟩ = some (.int .i64 s) ∧ V.cell? ⟨w.heap.size + 1, 2, none⟩ = some (.bool nt) ∧ V.cell? ⟨w.heap.size + 1, 3, none⟩ = some (.slice a' N.length ca') ∧ V.cell? ⟨w.heap.size + 1, 4, none⟩ = some (.slice b' P.length cb') ∧ V.cell? ⟨w.heap.size + 1, 5, none⟩ = some (.bool el))) := hid0 (fun V hV => ⟨(row6 (kept hV hr0)).1, (row6 (kept hV hr1)).1⟩)
  have HB := hid0 hb
  have HR := hid0 (hR.past hb)
  have HR' := hid0 (hR'.past hb)
  obtain ⟨⟨x0, x1, x2, x3, x4, x5⟩, y0, y1, y2, y3, y4, y5⟩ := HSk.out W (Below.refl _ _)
  have hss : (s != s) = false := by simp
  have hee : (el != el) = false := by simp
  have hll : ((R.length : Int) != (R.length : Int)) = false := by simp
  clear hr0 hr1 hb hs hN hP hR hN' hP' hR'
  go_enter Try.func8, Try.ntmps8
  go_wp2_with (first
    | (go_at_call 17; refine HC.out.mono ?_; rintro r w1 ⟨rfl, hb1⟩; obtain ⟨⟨u0, u1, u2, u3, u4, u5⟩, v0, v1, v2, v3, v4, v5⟩ := HSk.out w1 hb1; have HB1 := hid0 hb1; clear hb1)
    | fail)
  clear x0 x1 x2 x3 x4 x5 y0 y1 y2 y3 y4 y5 u0 u1 u2 u3 u4 u5 v0 v1 v2 v3 v4 v5 hW HC hss hee hll
  go_loopw [6, 7, 8, 9, 10] (fun i _ _ _ _ wr => ∃ m : Nat, m ≤ R.length ∧ i = .int .i64 (m : Int) ∧ Hid (Below W.heap.size W wr)) (fun i _ _ _ _ _ => R.length - (intOf i).toNat)
  case atStart => exact ⟨0, Nat.zero_le _, rfl, HB1⟩
  case round =>
    clear HB1
    obtain ⟨m, hm, rfl, HBr⟩ := hrel
    obtain ⟨⟨u0, _⟩, _⟩ := HSk.out wr HBr.out
    by_cases hlt : m < R.length
    · have hmI : (m : Int) < (R.length : Int) := by omega
      have hm0 : (0 : Int) ≤ (m : Int) := by omega
      have hru := HR.out.past HBr.out
      have hru' := HR'.out.past HBr.out
      obtain ⟨g0, o0, rfl, hft⟩ := hru.at' m hlt
      obtain ⟨g0', o0', rfl, hft'⟩ := hru'.at' m hlt
      obtain ⟨k1, t1, a1, m1, c1, b1, n1, d1, g1, l1, z1, ex1⟩ := (hru.l m hlt).flat
      obtain ⟨k2, t2, a2, m2, c2, b2, n2, d2, g2, l2, z2, ex2⟩ := (hru.r m hlt).flat
      obtain ⟨k3, t3, a3, m3, c3, b3, n3, d3, g3, l3, z3, ex3⟩ := (hru'.l m hlt).flat
      obtain ⟨k4, t4, a4, m4, c4, b4, n4, d4, g4, l4, z4, ex4⟩ := (hru'.r m hlt).flat
      have HC1 : Hid (∀ V, Below wr.heap.size wr V → Calls Try.prog 18 #[.agg #[.int .i64 k1, .bool t1, .slice a1 m1 c1, .slice b1 n1 d1, .slice g1 l1 z1], .agg #[.int .i64 k3, .bool t3, .slice a3 m3 c3, .slice b3 n3 d3, .slice g3 l3 z3]] V fun r w' => r = .returned (.bool true) ∧ Below V.heap.size V w') := hid0 (fun V hV => by
        have h := sameE (hru.l m hlt) V (xs' m) _ hV ((hru'.l m hlt).past hV)
        unfold EV.v at h
        rw [ex1, ex3] at h
        exact h)
      have HC2 : Hid (∀ V, Below wr.heap.size wr V → Calls Try.prog 18 #[.agg #[.int .i64 k2, .bool t2, .slice a2 m2 c2, .slice b2 n2 d2, .slice g2 l2 z2], .agg #[.int .i64 k4, .bool t4, .slice a4 m4 c4, .slice b4 n4 d4, .slice g4 l4 z4]] V fun r w' => r = .returned (.bool true) ∧ Below V.heap.size V w') := hid0 (fun V hV => by
        have h := sameE (hru.r m hlt) V (ys' m) _ hV ((hru'.r m hlt).past hV)
        unfold EV.v at h
        rw [ex2, ex4] at h
        exact h)
      rw [ex1, ex2] at hft
      rw [ex3, ex4] at hft'
      generalize R[m] = u at *
      obtain ⟨nm, ul, ur, bs, bt, bb⟩ := u
      obtain ⟨wa, hwa⟩ : ∃ wa, wr.alloc (.cells #[.string nm, .int .i64 k1, .bool t1, .slice a1 m1 c1, .slice b1 n1 d1, .slice g1 l1 z1, .int .i64 k2, .bool t2, .slice a2 m2 c2, .slice b2 n2 d2, .slice g2 l2 z2, .bool bs, .bool bt, .bool bb] 50) = wa := ⟨_, rfl⟩
      obtain ⟨wb, hwb⟩ : ∃ wb, wa.alloc (.cells #[.string nm, .int .i64 k3, .bool t3, .slice a3 m3 c3, .slice b3 n3 d3, .slice g3 l3 z3, .int .i64 k4, .bool t4, .slice a4 m4 c4, .slice b4 n4 d4, .slice g4 l4 z4, .bool bs, .bool bt, .bool bb] 50) = wb := ⟨_, rfl⟩
      obtain ⟨ba, ra, sa⟩ := laid hwa
      obtain ⟨bb', rb, sb⟩ := laid hwb
      obtain ⟨p0, p1, p2, p3, p4, p5, p6, p7, p8, p9, p10, p11, p12, p13⟩ := hft
      obtain ⟨_, v0, _⟩ := HSk.out wa (Below.later HBr.out ba)
      obtain ⟨q0, q1, q2, q3, q4, q5, q6, q7, q8, q9, q10, q11, q12, q13⟩ := hft'.past ba
      simp only [] at p0 p1 p2 p3 p4 p5 p6 p7 p8 p9 p10 p11 p12 p13 q0 q1 q2 q3 q4 q5 q6 q7 q8 q9 q10 q11 q12 q13
      have HRo : Hid (∀ V, Below wb.heap.size wb V → V.heap[wr.heap.size]? = some (.cells #[.string nm, .int .i64 k1, .bool t1, .slice a1 m1 c1, .slice b1 n1 d1, .slice g1 l1 z1, .int .i64 k2, .bool t2, .slice a2 m2 c2, .slice b2 n2 d2, .slice g2 l2 z2, .bool bs, .bool bt, .bool bb] 50 (0, 0)) ∧ V.heap[wa.heap.size]? = some (.cells #[.string nm, .int .i64 k3, .bool t3, .slice a3 m3 c3, .slice b3 n3 d3, .slice g3 l3 z3, .int .i64 k4, .bool t4, .slice a4 m4 c4, .slice b4 n4 d4, .slice g4 l4 z4, .bool bs, .bool bt, .bool bb] 50 (0, 0))) := hid0 (fun V hV => ⟨kept hV (kept bb' ra), kept hV rb⟩)
      have HBb := hid0 (Below.later ba bb')
      obtain ⟨⟨_, i1, i2, i3, i4, i5, _⟩, _⟩ := row14 (HRo.out wb (Below.refl _ _)).1
      obtain ⟨⟨_, j1, j2, j3, j4, j5, _⟩, _⟩ := row14 (HRo.out wb (Below.refl _ _)).2
      have hnn : (nm.toList != nm.toList) = false := by simp
      have hs1 : (bs != bs) = false := by simp
      have hs2 : (bt != bt) = false := by simp
      have hs3 : (bb != bb) = false := by simp
      have M1 : Hid True := trivial
      clear hru hru' ex1 ex2 ex3 ex4 hft' ba ra sa bb' rb sb
      go_wp2_with (first
        | (go_at_call 18; clear M1; refine (HC1.out _ HBb.out).mono ?_; rintro r w1 ⟨rfl, hb1⟩; have HB2 := hid0 hb1; obtain ⟨⟨_, _, _, _, _, _, i6, i7, i8, i9, i10, _⟩, _⟩ := row14 (HRo.out w1 hb1).1; obtain ⟨⟨_, _, _, _, _, _, j6, j7, j8, j9, j10, _⟩, _⟩ := row14 (HRo.out w1 hb1).2; clear hb1; have M2 : Hid True := trivial)
        | (go_at_call 18; clear M2; refine (HC2.out _ (Below.later HBb.out HB2.out)).mono ?_; rintro r w2 ⟨rfl, hb2⟩; have HB3 := hid0 (Below.later HBr.out (Below.later HBb.out (Below.later HB2.out hb2))); obtain ⟨⟨r0, _, _, _, _, _, _, _, _, _, _, r11, r12, r13⟩, _⟩ := row14 (HRo.out w2 (Below.later HB2.out hb2)).1; obtain ⟨⟨t0, _, _, _, _, _, _, _, _, _, _, t11, t12, t13⟩, _⟩ := row14 (HRo.out w2 (Below.later HB2.out hb2)).2; clear hb2)
        | fail)
      go_roundw
      case rel => exact ⟨m + 1, by omega, by go_num, HB3⟩
      case measure => simp [intOf]; omega
    · have hmI : ¬ (m : Int) < (R.length : Int) := by omega
      go_wp2
      go_ret
      exact ⟨rfl, Below.later HB.out HBr.out⟩
end Go.Proofs.Ythcpalpcakjfnaa
