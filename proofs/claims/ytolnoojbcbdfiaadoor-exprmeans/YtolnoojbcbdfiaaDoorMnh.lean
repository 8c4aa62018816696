/-
  ExTt10W.
-/
import Derived.Test.YtolnoojbcbdfiaaDoorMnf
namespace Go.Proofs.YtolnoojbcbdfiaaDoor
open Go.RowKit Go.Shelf
set_option maxRecDepth 10000 in
set_option maxHeartbeats 6400000 in
theorem means_10 (eA eB : Ex) (xA xB : EV) (lw : List Kd) (aw : Option Addr) (cw : Nat) (A : Nat → Addr) (w : World) (hA : ExIn w eA xA) (hB : ExIn w eB xB) (hw : KA w w.heap.size aw lw) (hE : E3 w A) (hz : ¬ (wordK lw).length = 0) (hin : mtB (tidyE 3 eA) (wordK lw) = false) :
    Calls Tryd.prog 3 #[.agg #[xA.k, xA.t, xA.n, xA.p, xA.r, xB.k, xB.t, xB.n, xB.p, xB.r, .slice aw lw.length cw]] w fun r w' => r = .returned (.bool true) ∧ Below w.heap.size w w' := by
  have HTA := hid0 (fun (V : World) (hV : Below w.heap.size w V) => tidy_any 3 (by omega) eA V xA (hA.past hV))
  have HTB := hid0 (fun (V : World) (hV : Below w.heap.size w V) => tidy_any 3 (by omega) eB V xB (hB.past hV))
  have HWd := hid0 (fun (V : World) (hV : Below w.heap.size w V) => wordOf_any lw aw cw V ((hw.below hV).up hV.size))
  have HFi := hid0 (fun (V : World) (hV : Below w.heap.size w V) => first_any A V (hE.below hV))
  have HE := hid0 hE
  have HWa := hid0 (tidy3 eA)
  have HWb := hid0 (tidy3 eB)
  have HLe : Hid ((wordK lw).length ≤ 12) := hid0 (by unfold wordK; rw [List.length_map, List.length_take]; omega)
  unfold WordP at HWd
  generalize tidyE 3 eA = a at *
  generalize tidyE 3 eB = b at *
  generalize wordK lw = l at *
  obtain ⟨kA, tA, NA, PA, LA⟩ := eA
  obtain ⟨aA, cA, bA, dA, gA, zA, rfl, hNA, hPA, _⟩ := hA.shape
  obtain ⟨kB, tB, aB, mB, cB, bB, nB, dB, gB, lB, zB, rfl⟩ : ∃ k t a m c b n d g l z, xB = ⟨.int .i64 k, .bool t, .slice a m c, .slice b n d, .slice g l z⟩ := by
    cases hB with
    | mk k nt N P L a ca b cb c cc vs hN hP hL hR => exact ⟨_, _, _, _, _, _, _, _, _, _, _, rfl⟩
  have HSet := hid0 (fun (V : World) (hV : Below w.heap.size w V) => setOf_any tA NA PA aA bA cA dA V (hNA.below hV) (hPA.below hV))
  unfold EV.v at HTA HTB
  simp only [] at HTA HTB ⊢
  clear hA hB hw hE hNA hPA
  obtain ⟨wb, hwb⟩ : ∃ wb, w.alloc (.cells #[.int .i64 kA, .bool tA, .slice aA NA.length cA, .slice bA PA.length dA, .slice gA LA.length zA, .int .i64 kB, .bool tB, .slice aB mB cB, .slice bB nB dB, .slice gB lB zB, .slice aw lw.length cw] 31) = wb := ⟨_, rfl⟩
  obtain ⟨hbb, hrb, hsb⟩ := laid hwb
  have HBb := hid0 hbb
  have HBox : Hid (∀ V, Below wb.heap.size wb V → V.cell? ⟨w.heap.size, 0, none⟩ = some (.int .i64 kA) ∧ V.cell? ⟨w.heap.size, 1, none⟩ = some (.bool tA) ∧ V.cell? ⟨w.heap.size, 2, none⟩ = some (.slice aA NA.length cA) ∧ V.cell? ⟨w.heap.size, 3, none⟩ = some (.slice bA PA.length dA) ∧ V.cell? ⟨w.heap.size, 4, none⟩ = some (.slice gA LA.length zA) ∧ V.cell? ⟨w.heap.size, 5, none⟩ = some (.int .i64 kB) ∧ V.cell? ⟨w.heap.size, 6, none⟩ = some (.bool tB) ∧ V.cell? ⟨w.heap.size, 7, none⟩ = some (.slice aB mB cB) ∧ V.cell? ⟨w.heap.size, 8, none⟩ = some (.slice bB nB dB) ∧ V.cell? ⟨w.heap.size, 9, none⟩ = some (.slice gB lB zB) ∧ V.cell? ⟨w.heap.size, 10, none⟩ = some (.slice aw lw.length cw)) := hid0 (fun V hV => by
    have hr := kept hV hrb
    refine ⟨?_, ?_, ?_, ?_, ?_, ?_, ?_, ?_, ?_, ?_, ?_⟩ <;> (rw [cell_of_row _ _ _ _ _ _ hr]; rfl))
  have hc0 := HBox.out wb (Below.refl _ _)
  clear hbb hrb hsb
  have HL4 : Hid ((gl 4 a ++ gl 4 b).length ≤ 1000000) := hid0 (by
    have h1 := len_le_sizes (gl 4 a)
    have h2 := len_le_sizes (gl 4 b)
    have h3 := gl_size 4 a
    have h4 := gl_size 4 b
    have h5 := HWa.out.2
    have h6 := HWb.out.2
    rw [List.length_append]
    omega)
  have HG1 := hid0 (fun (V : World) (x : EV) (hx : ExIs V tt a x) => glued_any 4 [] [] (.slice none 0 0) a x tt V.heap.size V (PE.nil _ _ _) (hx.mono (fun g _ h => ⟨h, by simp [Value.ownBlock]⟩)) (Nat.le_refl _) (by have := parts_le (e := a); have := HWa.out.2; simp; omega))
  have HG2 := hid0 (fun (W V : World) (v : Value) (xs : List EV) (y : EV) (hy : ExIs W tt b y) (hg : Gr W V (.slice none 0 0) v) (hp : PE V W.heap.size tt v (gl 4 a) xs) => glued_any 4 (gl 4 a) xs v b y tt W.heap.size V hp ((hy.mono (fun g _ h => ⟨h, by simp [Value.ownBlock]⟩)).grow hg) hg.grow.size (by
    have h1 := len_le_sizes (gl 4 a)
    have h3 := gl_size 4 a
    have h5 := HWa.out.2
    have := parts_le (e := b)
    have := HWb.out.2
    omega))
  simp only [List.nil_append] at HG1
  have HZ := hid0 hz
  clear hz
  go_enter Tryd.func3, Tryd.ntmps3
  go_wp2_with (first
    | (go_at_call 8
       refine (HG2.out w4 w5 _ xs5 _ HIb4.out HGr5.out HP5.out).mono ?_
       rintro r w6 ⟨v6, xs6, rfl, q1, q2⟩
       have hg6 := HGr5.out.trans q2
       have hb6 : Below w4.heap.size w4 w6 := hg6.below (Below.refl _ _) (Nat.le_refl _) (fun q e => (by simp [Value.ownBlock] at e))
       obtain ⟨gT, zT, rfl, hT⟩ := q1.ex (fun _ _ => trivial) (by have := HL4.out; omega) 4
       generalize hlT : (gl 4 a ++ gl 4 b).length = lT at *
       obtain ⟨w7, hw7⟩ : ∃ w7, w6.alloc (.cells #[.int .i64 4, .bool false, .slice none 0 0, .slice none 0 0, .slice gT lT zT] 28) = w7 := ⟨_, rfl⟩
       obtain ⟨w8, hw8⟩ : ∃ w8, w7.alloc (.cells #[.int .i64 k1, .bool t1, .slice a1 m1 c1, .slice b1 n1 d1, .slice g1 l1 z1] 28) = w8 := ⟨_, rfl⟩
       obtain ⟨w9, hw9⟩ : ∃ w9, w8.alloc (.cells #[.int .i64 5, .bool false, .slice none 0 0, .slice none 0 0, .slice (some ⟨w7.heap.size, 0, none⟩) 1 1] 28) = w9 := ⟨_, rfl⟩
       obtain ⟨w10, hw10⟩ : ∃ w10, w9.alloc (.cells #[.int .i64 k1, .bool t1, .slice a1 m1 c1, .slice b1 n1 d1, .slice g1 l1 z1] 28) = w10 := ⟨_, rfl⟩
       obtain ⟨w11, hw11⟩ : ∃ w11, w10.alloc (.cells #[.int .i64 6, .bool false, .slice none 0 0, .slice none 0 0, .slice (some ⟨w9.heap.size, 0, none⟩) 1 1] 28) = w11 := ⟨_, rfl⟩
       obtain ⟨w12, hw12⟩ : ∃ w12, w11.alloc (.cells #[.int .i64 k1, .bool t1, .slice a1 m1 c1, .slice b1 n1 d1, .slice g1 l1 z1] 28) = w12 := ⟨_, rfl⟩
       obtain ⟨w13, hw13⟩ : ∃ w13, w12.alloc (.cells #[.int .i64 7, .bool false, .slice none 0 0, .slice none 0 0, .slice (some ⟨w11.heap.size, 0, none⟩) 1 1] 28) = w13 := ⟨_, rfl⟩
       obtain ⟨ra7, ra9, ra11, hb13, hM13⟩ := means_world wb w6 w7 w8 w9 w10 w11 w12 w13 (Below.later HB4.out hb6) (HE4.out.below hb6) (HWv4.out.past hb6) (HIa4.out.past hb6) (HIb4.out.past hb6) hT (HRa4.out.past hb6) (HRb4.out.past hb6) hw7 hw8 hw9 hw10 hw11 hw12 hw13
       have HM13 := hid0 hM13
       obtain ⟨⟨e0, e1, e2, e3, e4⟩, _⟩ := rowE ra7
       obtain ⟨⟨f0, f1, f2, f3, f4⟩, _⟩ := rowE ra9
       obtain ⟨⟨i0, i1, i2, i3, i4⟩, _⟩ := rowE ra11
       obtain ⟨⟨j0, j1, j2, j3, j4⟩, _⟩ := rowE hM13.ra
       have HMa := hid0 (fun (V : World) (h : MW wb V A a b l (.slice av l.length cv) w1.heap.size w2.heap.size w6.heap.size w8.heap.size w10.heap.size w12.heap.size ⟨.int .i64 k1, .bool t1, .slice a1 m1 c1, .slice b1 n1 d1, .slice g1 l1 z1⟩ ⟨.int .i64 k2, .bool t2, .slice a2 m2 c2, .slice b2 n2 d2, .slice g2 l2 z2⟩ ⟨.int .i64 4, .bool false, .slice none 0 0, .slice none 0 0, .slice gT lT zT⟩ (onV 5 w7.heap.size) (onV 6 w9.heap.size) (onV 7 w11.heap.size)) => match_at a _ tt l av cv A V (by have := HLe.out; omega) h.ia h.e3 h.wv.ka)
       unfold EV.v at HMa
       simp only [] at HMa
       rw [hin] at HMa
       clear hg6 hb6 hT hb13 hM13 ra7 ra9 ra11 q1 q2)
    | (go_at_call 8
       refine (HG1.out w4 _ HIa4.out).mono ?_
       rintro r w5 ⟨v5, xs5, rfl, q1, q2⟩
       have HP5 := hid0 q1
       have HGr5 := hid0 q2
       have hb5 : Below w4.heap.size w4 w5 := q2.below (Below.refl _ _) (Nat.le_refl _) (fun q e => (by simp [Value.ownBlock] at e))
       obtain ⟨⟨e0, e1, e2, e3, e4⟩, _⟩ := rowE (HRb4.out.past hb5)
       clear q1 q2 hb5)
    | (go_at_call 7
       refine (HFi.out w3 (Below.later HBb.out HB3.out)).mono ?_
       rintro r w4 ⟨rfl, hb4⟩
       have HB4 := hid0 (Below.later HB3.out hb4)
       have HE4 := hid0 (HE.out.below (Below.later HBb.out HB4.out))
       have HIa4 := hid0 (HIa3.out.past hb4)
       have HIb4 := hid0 (HIb3.out.past hb4)
       have HRa4 := hid0 (HRa3.out.past hb4)
       have HRb4 := hid0 (HRb3.out.past hb4)
       have HWv4 := hid0 (HWv3.out.past hb4)
       obtain ⟨⟨s0, s1, s2, s3, s4⟩, _⟩ := rowE HRa4.out
       clear hb4)
    | (go_at_call 6
       refine (HWd.out _ (Below.later HBb.out HB2.out)).mono ?_
       rintro r w3 ⟨vw, rfl, q1, q2⟩
       have HB3 := hid0 (Below.later HB2.out q2)
       have hwv := q1.wv
       obtain ⟨av, cv, rfl, _⟩ := hwv.form
       have HWv3 := hid0 hwv
       have HIa3 := hid0 (HIa2.out.past q2)
       have HIb3 := hid0 (HIb2.out.past q2)
       have HRa3 := hid0 (HRa2.out.past q2)
       have HRb3 := hid0 (HRb2.out.past q2)
       clear q1 q2 hwv)
    | (go_at_call 5
       refine (HTB.out _ (Below.later HBb.out HB1.out)).mono ?_
       rintro r w2 hr
       obtain ⟨k2, t2, a2, m2, c2, b2, n2, d2, g2, l2, z2, rfl, q1, q2⟩ := hr.shape
       obtain ⟨v2, hv2⟩ : ∃ v2, w2.alloc (.cells #[.int .i64 k2, .bool t2, .slice a2 m2 c2, .slice b2 n2 d2, .slice g2 l2 z2] 28) = v2 := ⟨_, rfl⟩
       obtain ⟨b2', r2', _⟩ := laid hv2
       have HB2 := hid0 (Below.later (Below.later HB1.out q2) b2')
       have HIb2 := hid0 ((q1.past b2').tt)
       have HRb2 : Hid (R5 v2 w2.heap.size ⟨.int .i64 k2, .bool t2, .slice a2 m2 c2, .slice b2 n2 d2, .slice g2 l2 z2⟩) := hid0 r2'
       have HIa2 := hid0 ((HIa1.out.past q2).past b2')
       have HRa2 := hid0 ((HRa1.out.past q2).past b2')
       have hc2 := HBox.out v2 HB2.out
       clear hr q1 q2 b2' r2')
    | (go_at_call 5
       refine (HTA.out _ HBb.out).mono ?_
       rintro r w1 hr
       obtain ⟨k1, t1, a1, m1, c1, b1, n1, d1, g1, l1, z1, rfl, q1, q2⟩ := hr.shape
       obtain ⟨v1, hv1⟩ : ∃ v1, w1.alloc (.cells #[.int .i64 k1, .bool t1, .slice a1 m1 c1, .slice b1 n1 d1, .slice g1 l1 z1] 28) = v1 := ⟨_, rfl⟩
       obtain ⟨b1', r1', _⟩ := laid hv1
       have HB1 := hid0 (Below.later q2 b1')
       have HIa1 := hid0 ((q1.past b1').tt)
       have HRa1 : Hid (R5 v1 w1.heap.size ⟨.int .i64 k1, .bool t1, .slice a1 m1 c1, .slice b1 n1 d1, .slice g1 l1 z1⟩) := hid0 r1'
       have hc1 := HBox.out v1 HB1.out
       clear hr q1 q2 b1' r1')
    | (go_at_call 9
       refine (HMa.out w13 HM13.out).mono ?_
       rintro r w14 ⟨rfl, hb14⟩
       have HM14 := hid0 (HM13.out.past hb14)
       clear hb14)
    | fail)
  obtain ⟨gw, ow, hlc, rfl⟩ : ∃ gw ow, l.length ≤ cv ∧ av = some ⟨gw, ow, none⟩ := by
    have h := HM14.out.wv
    generalize hv : (Value.slice av l.length cv) = vv at h
    cases h with
    | none => exact absurd rfl HZ.out
    | some g off c _ hc h =>
      cases hv
      exact ⟨g, off, hc, rfl⟩
  have HSq := hid0 (fun (V : World) (h : MW wb V A a b l (.slice (some ⟨gw, ow, none⟩) l.length cv) w1.heap.size w2.heap.size w6.heap.size w8.heap.size w10.heap.size w12.heap.size ⟨.int .i64 k1, .bool t1, .slice a1 m1 c1, .slice b1 n1 d1, .slice g1 l1 z1⟩ ⟨.int .i64 k2, .bool t2, .slice a2 m2 c2, .slice b2 n2 d2, .slice g2 l2 z2⟩ ⟨.int .i64 4, .bool false, .slice none 0 0, .slice none 0 0, .slice gT lT zT⟩ (onV 5 w7.heap.size) (onV 6 w9.heap.size) (onV 7 w11.heap.size)) => seq_any a b _ _ tt tt V h.ia h.ib (by have := parts_le (e := a); have := HWa.out.2; omega) (by have := parts_le (e := b); have := HWb.out.2; omega))
  have HMs := hid0 (fun (V : World) (h : MW wb V A a b l (.slice (some ⟨gw, ow, none⟩) l.length cv) w1.heap.size w2.heap.size w6.heap.size w8.heap.size w10.heap.size w12.heap.size ⟨.int .i64 k1, .bool t1, .slice a1 m1 c1, .slice b1 n1 d1, .slice g1 l1 z1⟩ ⟨.int .i64 k2, .bool t2, .slice a2 m2 c2, .slice b2 n2 d2, .slice g2 l2 z2⟩ ⟨.int .i64 4, .bool false, .slice none 0 0, .slice none 0 0, .slice gT lT zT⟩ (onV 5 w7.heap.size) (onV 6 w9.heap.size) (onV 7 w11.heap.size)) (y : EV) (hy : ExIs V (fun _ => True) (nodeE 3 (gl 3 a ++ gl 3 b)) y) => match_at (nodeE 3 (gl 3 a ++ gl 3 b)) y (fun _ => True) l (some ⟨gw, ow, none⟩) cv A V (by have := HLe.out; omega) hy h.e3 h.wv.ka)
  have HSp := hid0 (fun (V : World) (h : MW wb V A a b l (.slice (some ⟨gw, ow, none⟩) l.length cv) w1.heap.size w2.heap.size w6.heap.size w8.heap.size w10.heap.size w12.heap.size ⟨.int .i64 k1, .bool t1, .slice a1 m1 c1, .slice b1 n1 d1, .slice g1 l1 z1⟩ ⟨.int .i64 k2, .bool t2, .slice a2 m2 c2, .slice b2 n2 d2, .slice g2 l2 z2⟩ ⟨.int .i64 4, .bool false, .slice none 0 0, .slice none 0 0, .slice gT lT zT⟩ (onV 5 w7.heap.size) (onV 6 w9.heap.size) (onV 7 w11.heap.size)) => split_any a b _ _ tt tt l _ A V HLe.out h.ia h.ib h.e3 h.wv)
  have HMt := hid0 (fun (V : World) (h : MW wb V A a b l (.slice (some ⟨gw, ow, none⟩) l.length cv) w1.heap.size w2.heap.size w6.heap.size w8.heap.size w10.heap.size w12.heap.size ⟨.int .i64 k1, .bool t1, .slice a1 m1 c1, .slice b1 n1 d1, .slice g1 l1 z1⟩ ⟨.int .i64 k2, .bool t2, .slice a2 m2 c2, .slice b2 n2 d2, .slice g2 l2 z2⟩ ⟨.int .i64 4, .bool false, .slice none 0 0, .slice none 0 0, .slice gT lT zT⟩ (onV 5 w7.heap.size) (onV 6 w9.heap.size) (onV 7 w11.heap.size)) => match_at (.mk 4 false [] [] (gl 4 a ++ gl 4 b)) _ tt l (some ⟨gw, ow, none⟩) cv A V (by have := HLe.out; omega) h.it h.e3 h.wv.ka)
  have HMb := hid0 (fun (V : World) (h : MW wb V A a b l (.slice (some ⟨gw, ow, none⟩) l.length cv) w1.heap.size w2.heap.size w6.heap.size w8.heap.size w10.heap.size w12.heap.size ⟨.int .i64 k1, .bool t1, .slice a1 m1 c1, .slice b1 n1 d1, .slice g1 l1 z1⟩ ⟨.int .i64 k2, .bool t2, .slice a2 m2 c2, .slice b2 n2 d2, .slice g2 l2 z2⟩ ⟨.int .i64 4, .bool false, .slice none 0 0, .slice none 0 0, .slice gT lT zT⟩ (onV 5 w7.heap.size) (onV 6 w9.heap.size) (onV 7 w11.heap.size)) => match_at b _ tt l (some ⟨gw, ow, none⟩) cv A V (by have := HLe.out; omega) h.ib h.e3 h.wv.ka)
  have HMo := hid0 (fun (V : World) (h : MW wb V A a b l (.slice (some ⟨gw, ow, none⟩) l.length cv) w1.heap.size w2.heap.size w6.heap.size w8.heap.size w10.heap.size w12.heap.size ⟨.int .i64 k1, .bool t1, .slice a1 m1 c1, .slice b1 n1 d1, .slice g1 l1 z1⟩ ⟨.int .i64 k2, .bool t2, .slice a2 m2 c2, .slice b2 n2 d2, .slice g2 l2 z2⟩ ⟨.int .i64 4, .bool false, .slice none 0 0, .slice none 0 0, .slice gT lT zT⟩ (onV 5 w7.heap.size) (onV 6 w9.heap.size) (onV 7 w11.heap.size)) => match_at (.mk 7 false [] [] [a]) _ tt l (some ⟨gw, ow, none⟩) cv A V (by have := HLe.out; omega) h.io h.e3 h.wv.ka)
  have HMst := hid0 (fun (V : World) (h : MW wb V A a b l (.slice (some ⟨gw, ow, none⟩) l.length cv) w1.heap.size w2.heap.size w6.heap.size w8.heap.size w10.heap.size w12.heap.size ⟨.int .i64 k1, .bool t1, .slice a1 m1 c1, .slice b1 n1 d1, .slice g1 l1 z1⟩ ⟨.int .i64 k2, .bool t2, .slice a2 m2 c2, .slice b2 n2 d2, .slice g2 l2 z2⟩ ⟨.int .i64 4, .bool false, .slice none 0 0, .slice none 0 0, .slice gT lT zT⟩ (onV 5 w7.heap.size) (onV 6 w9.heap.size) (onV 7 w11.heap.size)) => match_at (.mk 5 false [] [] [a]) _ tt l (some ⟨gw, ow, none⟩) cv A V (by have := HLe.out; omega) h.is h.e3 h.wv.ka)
  have HMpl := hid0 (fun (V : World) (h : MW wb V A a b l (.slice (some ⟨gw, ow, none⟩) l.length cv) w1.heap.size w2.heap.size w6.heap.size w8.heap.size w10.heap.size w12.heap.size ⟨.int .i64 k1, .bool t1, .slice a1 m1 c1, .slice b1 n1 d1, .slice g1 l1 z1⟩ ⟨.int .i64 k2, .bool t2, .slice a2 m2 c2, .slice b2 n2 d2, .slice g2 l2 z2⟩ ⟨.int .i64 4, .bool false, .slice none 0 0, .slice none 0 0, .slice gT lT zT⟩ (onV 5 w7.heap.size) (onV 6 w9.heap.size) (onV 7 w11.heap.size)) => match_at (.mk 6 false [] [] [a]) _ tt l (some ⟨gw, ow, none⟩) cv A V (by have := HLe.out; omega) h.ip h.e3 h.wv.ka)
  have HSp2 := hid0 (fun (V : World) (h : MW wb V A a b l (.slice (some ⟨gw, ow, none⟩) l.length cv) w1.heap.size w2.heap.size w6.heap.size w8.heap.size w10.heap.size w12.heap.size ⟨.int .i64 k1, .bool t1, .slice a1 m1 c1, .slice b1 n1 d1, .slice g1 l1 z1⟩ ⟨.int .i64 k2, .bool t2, .slice a2 m2 c2, .slice b2 n2 d2, .slice g2 l2 z2⟩ ⟨.int .i64 4, .bool false, .slice none 0 0, .slice none 0 0, .slice gT lT zT⟩ (onV 5 w7.heap.size) (onV 6 w9.heap.size) (onV 7 w11.heap.size)) => split_any a (.mk 5 false [] [] [a]) _ _ tt tt l _ A V HLe.out h.ia h.is h.e3 h.wv)
  have HSk13 := hid0 (fun (V : World) (h : MW wb V A a b l (.slice (some ⟨gw, ow, none⟩) l.length cv) w1.heap.size w2.heap.size w6.heap.size w8.heap.size w10.heap.size w12.heap.size ⟨.int .i64 k1, .bool t1, .slice a1 m1 c1, .slice b1 n1 d1, .slice g1 l1 z1⟩ ⟨.int .i64 k2, .bool t2, .slice a2 m2 c2, .slice b2 n2 d2, .slice g2 l2 z2⟩ ⟨.int .i64 4, .bool false, .slice none 0 0, .slice none 0 0, .slice gT lT zT⟩ (onV 5 w7.heap.size) (onV 6 w9.heap.size) (onV 7 w11.heap.size)) => (show (V.cell? ⟨w1.heap.size, 0, none⟩ = some (.int .i64 k1) ∧ V.cell? ⟨w1.heap.size, 1, none⟩ = some (.bool t1) ∧ V.cell? ⟨w1.heap.size, 2, none⟩ = some (.slice a1 m1 c1) ∧ V.cell? ⟨w1.heap.size, 3, none⟩ = some (.slice b1 n1 d1) ∧ V.cell? ⟨w1.heap.size, 4, none⟩ = some (.slice g1 l1 z1)) ∧ (V.cell? ⟨w2.heap.size, 0, none⟩ = some (.int .i64 k2) ∧ V.cell? ⟨w2.heap.size, 1, none⟩ = some (.bool t2) ∧ V.cell? ⟨w2.heap.size, 2, none⟩ = some (.slice a2 m2 c2) ∧ V.cell? ⟨w2.heap.size, 3, none⟩ = some (.slice b2 n2 d2) ∧ V.cell? ⟨w2.heap.size, 4, none⟩ = some (.slice g2 l2 z2)) ∧ (V.cell? ⟨w6.heap.size, 0, none⟩ = some (.int .i64 4) ∧ V.cell? ⟨w6.heap.size, 1, none⟩ = some (.bool false) ∧ V.cell? ⟨w6.heap.size, 2, none⟩ = some (.slice none 0 0) ∧ V.cell? ⟨w6.heap.size, 3, none⟩ = some (.slice none 0 0) ∧ V.cell? ⟨w6.heap.size, 4, none⟩ = some (.slice gT lT zT)) ∧ V.cell? ⟨w12.heap.size, 0, none⟩ = some (.int .i64 7) ∧ V.cell? ⟨w12.heap.size, 1, none⟩ = some (.bool false) ∧ V.cell? ⟨w12.heap.size, 2, none⟩ = some (.slice none 0 0) ∧ V.cell? ⟨w12.heap.size, 3, none⟩ = some (.slice none 0 0) ∧ V.cell? ⟨w12.heap.size, 4, none⟩ = some (.slice (some ⟨w11.heap.size, 0, none⟩) 1 1) from ⟨(rowE h.ra).1, (rowE h.rb).1, (rowE h.rt).1, (rowE h.ro).1⟩))
  have HSk19 := hid0 (fun (V : World) (h : MW wb V A a b l (.slice (some ⟨gw, ow, none⟩) l.length cv) w1.heap.size w2.heap.size w6.heap.size w8.heap.size w10.heap.size w12.heap.size ⟨.int .i64 k1, .bool t1, .slice a1 m1 c1, .slice b1 n1 d1, .slice g1 l1 z1⟩ ⟨.int .i64 k2, .bool t2, .slice a2 m2 c2, .slice b2 n2 d2, .slice g2 l2 z2⟩ ⟨.int .i64 4, .bool false, .slice none 0 0, .slice none 0 0, .slice gT lT zT⟩ (onV 5 w7.heap.size) (onV 6 w9.heap.size) (onV 7 w11.heap.size)) => (show (V.cell? ⟨w1.heap.size, 0, none⟩ = some (.int .i64 k1) ∧ V.cell? ⟨w1.heap.size, 1, none⟩ = some (.bool t1) ∧ V.cell? ⟨w1.heap.size, 2, none⟩ = some (.slice a1 m1 c1) ∧ V.cell? ⟨w1.heap.size, 3, none⟩ = some (.slice b1 n1 d1) ∧ V.cell? ⟨w1.heap.size, 4, none⟩ = some (.slice g1 l1 z1)) ∧ V.cell? ⟨w8.heap.size, 0, none⟩ = some (.int .i64 5) ∧ V.cell? ⟨w8.heap.size, 1, none⟩ = some (.bool false) ∧ V.cell? ⟨w8.heap.size, 2, none⟩ = some (.slice none 0 0) ∧ V.cell? ⟨w8.heap.size, 3, none⟩ = some (.slice none 0 0) ∧ V.cell? ⟨w8.heap.size, 4, none⟩ = some (.slice (some ⟨w7.heap.size, 0, none⟩) 1 1) from ⟨(rowE h.ra).1, (rowE h.rs).1⟩))
  have HSk20 := hid0 (fun (V : World) (h : MW wb V A a b l (.slice (some ⟨gw, ow, none⟩) l.length cv) w1.heap.size w2.heap.size w6.heap.size w8.heap.size w10.heap.size w12.heap.size ⟨.int .i64 k1, .bool t1, .slice a1 m1 c1, .slice b1 n1 d1, .slice g1 l1 z1⟩ ⟨.int .i64 k2, .bool t2, .slice a2 m2 c2, .slice b2 n2 d2, .slice g2 l2 z2⟩ ⟨.int .i64 4, .bool false, .slice none 0 0, .slice none 0 0, .slice gT lT zT⟩ (onV 5 w7.heap.size) (onV 6 w9.heap.size) (onV 7 w11.heap.size)) => (show (V.cell? ⟨w1.heap.size, 0, none⟩ = some (.int .i64 k1) ∧ V.cell? ⟨w1.heap.size, 1, none⟩ = some (.bool t1) ∧ V.cell? ⟨w1.heap.size, 2, none⟩ = some (.slice a1 m1 c1) ∧ V.cell? ⟨w1.heap.size, 3, none⟩ = some (.slice b1 n1 d1) ∧ V.cell? ⟨w1.heap.size, 4, none⟩ = some (.slice g1 l1 z1)) ∧ (V.cell? ⟨w8.heap.size, 0, none⟩ = some (.int .i64 5) ∧ V.cell? ⟨w8.heap.size, 1, none⟩ = some (.bool false) ∧ V.cell? ⟨w8.heap.size, 2, none⟩ = some (.slice none 0 0) ∧ V.cell? ⟨w8.heap.size, 3, none⟩ = some (.slice none 0 0) ∧ V.cell? ⟨w8.heap.size, 4, none⟩ = some (.slice (some ⟨w7.heap.size, 0, none⟩) 1 1)) ∧ V.cell? ⟨w10.heap.size, 0, none⟩ = some (.int .i64 6) ∧ V.cell? ⟨w10.heap.size, 1, none⟩ = some (.bool false) ∧ V.cell? ⟨w10.heap.size, 2, none⟩ = some (.slice none 0 0) ∧ V.cell? ⟨w10.heap.size, 3, none⟩ = some (.slice none 0 0) ∧ V.cell? ⟨w10.heap.size, 4, none⟩ = some (.slice (some ⟨w9.heap.size, 0, none⟩) 1 1) from ⟨(rowE h.ra).1, (rowE h.rs).1, (rowE h.rp).1⟩))
  have HMh := hid0 (fun (j : Nat) (hj : j ≤ l.length) (V : World) (h : MW wb V A a b l (.slice (some ⟨gw, ow, none⟩) l.length cv) w1.heap.size w2.heap.size w6.heap.size w8.heap.size w10.heap.size w12.heap.size ⟨.int .i64 k1, .bool t1, .slice a1 m1 c1, .slice b1 n1 d1, .slice g1 l1 z1⟩ ⟨.int .i64 k2, .bool t2, .slice a2 m2 c2, .slice b2 n2 d2, .slice g2 l2 z2⟩ ⟨.int .i64 4, .bool false, .slice none 0 0, .slice none 0 0, .slice gT lT zT⟩ (onV 5 w7.heap.size) (onV 6 w9.heap.size) (onV 7 w11.heap.size)) => match_head a _ tt l gw ow cv j A V HLe.out hj h.ia h.e3 h.wv.ka)
  have HMtl := hid0 (fun (j : Nat) (V : World) (h : MW wb V A a b l (.slice (some ⟨gw, ow, none⟩) l.length cv) w1.heap.size w2.heap.size w6.heap.size w8.heap.size w10.heap.size w12.heap.size ⟨.int .i64 k1, .bool t1, .slice a1 m1 c1, .slice b1 n1 d1, .slice g1 l1 z1⟩ ⟨.int .i64 k2, .bool t2, .slice a2 m2 c2, .slice b2 n2 d2, .slice g2 l2 z2⟩ ⟨.int .i64 4, .bool false, .slice none 0 0, .slice none 0 0, .slice gT lT zT⟩ (onV 5 w7.heap.size) (onV 6 w9.heap.size) (onV 7 w11.heap.size)) => match_tail (.mk 5 false [] [] [a]) _ tt l gw ow cv j A V HLe.out hlc h.is h.e3 h.wv.ka)
  unfold EV.v at HSq HSp HMt HMb HMo HMst HMpl HSp2 HMh HMtl
  simp only [onV] at HSq HSp HMt HMb HMo HMst HMpl HSp2 HMh HMtl HMs HM14 HSk13 HSk19 HSk20
  rw [eq_seq HWa.out.1 HWb.out.1 HWa.out.2 HWb.out.2] at HMs
  rw [eq_alt HWa.out.1 HWb.out.1 HWa.out.2 HWb.out.2, hin, Bool.false_or] at HMt
  have hzB : ((l.length : Int) == 0) = false := by simp; intro e; have h := HZ.out; rw [e] at h; exact h rfl
  rw [eq_opt HWa.out.1 HWa.out.2, hin, Bool.false_or, hzB] at HMo
  rw [eq_star HWa.out.1 HWa.out.2, hzB, Bool.false_or] at HMst
  rw [eq_plus HWa.out.1 HWa.out.2] at HMpl
  generalize splitB a b l = sp at *
  generalize splitB a (.mk 5 false [] [] [a]) l = sp2 at *
  generalize mtB b l = mb at *
  have hlI0 : (0 : Int) ≤ (l.length : Int) := by omega
  have HMd := hid0 (HM14.out.past (Below.refl w14.heap.size w14).drew)
  have hsd := HSk13.out _ HMd.out
  clear HMa HTA HTB HWd HFi HG1 HG2
  refine wp_region_noPanic ?_
  refine wp_region_held_drew (S := (fun V => (V.cell? ⟨w1.heap.size, 0, none⟩ = some (.int .i64 k1) ∧ V.cell? ⟨w1.heap.size, 1, none⟩ = some (.bool t1) ∧ V.cell? ⟨w1.heap.size, 2, none⟩ = some (.slice a1 m1 c1) ∧ V.cell? ⟨w1.heap.size, 3, none⟩ = some (.slice b1 n1 d1) ∧ V.cell? ⟨w1.heap.size, 4, none⟩ = some (.slice g1 l1 z1)) ∧ (V.cell? ⟨w2.heap.size, 0, none⟩ = some (.int .i64 k2) ∧ V.cell? ⟨w2.heap.size, 1, none⟩ = some (.bool t2) ∧ V.cell? ⟨w2.heap.size, 2, none⟩ = some (.slice a2 m2 c2) ∧ V.cell? ⟨w2.heap.size, 3, none⟩ = some (.slice b2 n2 d2) ∧ V.cell? ⟨w2.heap.size, 4, none⟩ = some (.slice g2 l2 z2)) ∧ (V.cell? ⟨w6.heap.size, 0, none⟩ = some (.int .i64 4) ∧ V.cell? ⟨w6.heap.size, 1, none⟩ = some (.bool false) ∧ V.cell? ⟨w6.heap.size, 2, none⟩ = some (.slice none 0 0) ∧ V.cell? ⟨w6.heap.size, 3, none⟩ = some (.slice none 0 0) ∧ V.cell? ⟨w6.heap.size, 4, none⟩ = some (.slice gT lT zT)) ∧ V.cell? ⟨w12.heap.size, 0, none⟩ = some (.int .i64 7) ∧ V.cell? ⟨w12.heap.size, 1, none⟩ = some (.bool false) ∧ V.cell? ⟨w12.heap.size, 2, none⟩ = some (.slice none 0 0) ∧ V.cell? ⟨w12.heap.size, 3, none⟩ = some (.slice none 0 0) ∧ V.cell? ⟨w12.heap.size, 4, none⟩ = some (.slice (some ⟨w11.heap.size, 0, none⟩) 1 1))) (by kernel_rfl) ?_ (fun hHeld => ?_)
  · exact hsd
  refine tkV (i := 0) (d := some 46) (v := ?_) rfl (by kernel_rfl) (by kernel_rfl) (by kernel_rfl) rfl (fun _ _ _ h => h) (by rfl) ?_ (by assumption) ?_
  rotate_left
  · (intro w hSw; (try dsimp only at hSw); (try simp only [List.getElem_toArray, List.getElem_cons_zero]); go_simp; try with_reducible rfl)
  try simp only [Act.put, List.setIfInBounds_toArray, List.set_cons_zero, List.set_cons_succ]
  refine tkV (i := 1) (d := some 47) (v := ?_) rfl (by kernel_rfl) (by kernel_rfl) (by kernel_rfl) rfl (fun _ _ _ h => h) (by rfl) ?_ (by assumption) ?_
  rotate_left
  · (intro w hSw; (try dsimp only at hSw); (try simp only [List.getElem_toArray, List.getElem_cons_zero, List.getElem_cons_succ]); go_simp; try with_reducible rfl)
  try simp only [Act.put, List.setIfInBounds_toArray, List.set_cons_zero, List.set_cons_succ]
  refine tkV (i := 2) (d := some 48) (v := ?_) rfl (by kernel_rfl) (by kernel_rfl) (by kernel_rfl) rfl (fun _ _ _ h => h) (by rfl) ?_ (by assumption) ?_
  rotate_left
  · (intro w hSw; (try dsimp only at hSw); (try simp only [List.getElem_toArray, List.getElem_cons_zero, List.getElem_cons_succ]); go_simp; try with_reducible rfl)
  try simp only [Act.put, List.setIfInBounds_toArray, List.set_cons_zero, List.set_cons_succ]
  refine tkV (i := 3) (d := some 49) (v := ?_) rfl (by kernel_rfl) (by kernel_rfl) (by kernel_rfl) rfl (fun _ _ _ h => h) (by rfl) ?_ (by assumption) ?_
  rotate_left
  · (intro w hSw; (try dsimp only at hSw); (try simp only [List.getElem_toArray, List.getElem_cons_zero, List.getElem_cons_succ]); go_simp; try with_reducible rfl)
  try simp only [Act.put, List.setIfInBounds_toArray, List.set_cons_zero, List.set_cons_succ]
  refine tkV (i := 4) (d := some 50) (v := ?_) rfl (by kernel_rfl) (by kernel_rfl) (by kernel_rfl) rfl (fun _ _ _ h => h) (by rfl) ?_ (by assumption) ?_
  rotate_left
  · (intro w hSw; (try dsimp only at hSw); (try simp only [List.getElem_toArray, List.getElem_cons_zero, List.getElem_cons_succ]); go_simp; try with_reducible rfl)
  try simp only [Act.put, List.setIfInBounds_toArray, List.set_cons_zero, List.set_cons_succ]
  refine tkV (i := 6) (d := some 52) (v := ?_) rfl (by kernel_rfl) (by kernel_rfl) (by kernel_rfl) rfl (fun _ _ _ h => h) (by rfl) ?_ (by assumption) ?_
  rotate_left
  · (intro w hSw; (try dsimp only at hSw); (try simp only [List.getElem_toArray, List.getElem_cons_zero, List.getElem_cons_succ]); go_simp; try with_reducible rfl)
  try simp only [Act.put, List.setIfInBounds_toArray, List.set_cons_zero, List.set_cons_succ]
  refine tkV (i := 8) (d := some 54) (v := ?_) rfl (by kernel_rfl) (by kernel_rfl) (by kernel_rfl) rfl (fun _ _ _ h => h) (by rfl) ?_ (by assumption) ?_
  rotate_left
  · (intro w hSw; (try dsimp only at hSw); (try simp only [List.getElem_toArray, List.getElem_cons_zero, List.getElem_cons_succ]); go_simp; try with_reducible rfl)
  try simp only [Act.put, List.setIfInBounds_toArray, List.set_cons_zero, List.set_cons_succ]
  refine tkV (i := 9) (d := some 55) (v := ?_) rfl (by kernel_rfl) (by kernel_rfl) (by kernel_rfl) rfl (fun _ _ _ h => h) (by rfl) ?_ (by assumption) ?_
  rotate_left
  · (intro w hSw; (try dsimp only at hSw); (try simp only [List.getElem_toArray, List.getElem_cons_zero, List.getElem_cons_succ]); go_simp; try with_reducible rfl)
  try simp only [Act.put, List.setIfInBounds_toArray, List.set_cons_zero, List.set_cons_succ]
  refine tkV (i := 10) (d := some 56) (v := ?_) rfl (by kernel_rfl) (by kernel_rfl) (by kernel_rfl) rfl (fun _ _ _ h => h) (by rfl) ?_ (by assumption) ?_
  rotate_left
  · (intro w hSw; (try dsimp only at hSw); (try simp only [List.getElem_toArray, List.getElem_cons_zero, List.getElem_cons_succ]); go_simp; try with_reducible rfl)
  try simp only [Act.put, List.setIfInBounds_toArray, List.set_cons_zero, List.set_cons_succ]
  refine wpAnyH_ready (rs := [5]) (by kernel_rfl) (by simp) (AllReadyH.cons rfl (fun K hK => ?_) AllReadyH.nil)
  try simp only [List.getElem_toArray, List.getElem_cons_zero, List.getElem_cons_succ]
  go_simp
  refine (HSq.out _ HMd.out).mono ?_
  rintro r w15 hr
  obtain ⟨k3, t3, a3, m3, c3, b3, n3, d3, g3, l3, z3, rfl, q1, q2⟩ := hr.shape
  have HM15 := hid0 (HMd.out.past q2)
  have hs15 := HSk13.out _ HM15.out
  have HC7 := hid0 (HMs.out _ HM15.out _ q1)
  unfold EV.v at HC7
  simp only [] at HC7
  clear hr q1 q2
  go_wp2_with fail
  refine hK.out _ _ ?_ (fun hHeld5 => ?_)
  · exact hs15
  clear hK K
  (try simp only [Act.put]); (try simp only [List.setIfInBounds_toArray]); (try simp only [List.set_cons_succ]); (try simp only [List.set_cons_zero])
  refine wpAnyH_ready (rs := [7]) (by kernel_rfl) (by simp) (AllReadyH.cons rfl (fun K hK => ?_) AllReadyH.nil)
  try simp only [List.getElem_toArray, List.getElem_cons_zero, List.getElem_cons_succ]
  go_simp
  refine HC7.out.mono ?_
  rintro r w16 ⟨rfl, hb16⟩
  have HM16 := hid0 (HM15.out.past hb16)
  have hs16 := HSk13.out _ HM16.out
  clear hb16
  go_wp2_with fail
  refine hK.out _ _ ?_ (fun hHeld7 => ?_)
  · exact hs16
  clear hK K
  (try simp only [Act.put]); (try simp only [List.setIfInBounds_toArray]); (try simp only [List.set_cons_succ]); (try simp only [List.set_cons_zero])
  refine wpAnyH_ready (rs := [11]) (by kernel_rfl) (by simp) (AllReadyH.cons rfl (fun K hK => ?_) AllReadyH.nil)
  try simp only [List.getElem_toArray, List.getElem_cons_zero, List.getElem_cons_succ]
  go_simp
  refine (HSp.out _ HM16.out).mono ?_
  rintro r w17 ⟨rfl, hb17⟩
  have HM17 := hid0 (HM16.out.past hb17)
  have hs17 := HSk13.out _ HM17.out
  clear hb17
  go_wp2_with fail
  refine hK.out _ _ ?_ (fun hHeld11 => ?_)
  · exact hs17
  clear hK K
  (try simp only [Act.put]); (try simp only [List.setIfInBounds_toArray]); (try simp only [List.set_cons_succ]); (try simp only [List.set_cons_zero])
  refine tkV (i := 12) (d := some 58) (v := .bool false) rfl (by kernel_rfl) (by kernel_rfl) (by kernel_rfl) rfl (fun _ _ _ h => h) (by rfl) ?_ (by assumption) ?_
  · (intro w hSw; (try dsimp only at hSw); (try simp only [List.getElem_toArray, List.getElem_cons_zero, List.getElem_cons_succ]); go_simp; try with_reducible rfl)
  try simp only [Act.put, List.setIfInBounds_toArray, List.set_cons_zero, List.set_cons_succ]
  refine tkV (i := 13) (d := some 59) (v := ?_) rfl (by kernel_rfl) (by kernel_rfl) (by kernel_rfl) rfl (fun _ _ _ h => h) (by rfl) ?_ (by assumption) ?_
  rotate_left
  · (intro w hSw; (try dsimp only at hSw); (try simp only [List.getElem_toArray, List.getElem_cons_zero, List.getElem_cons_succ]); go_simp; try with_reducible rfl)
  try simp only [Act.put, List.setIfInBounds_toArray, List.set_cons_zero, List.set_cons_succ]
  refine tkV (i := 14) (d := some 60) (v := ?_) rfl (by kernel_rfl) (by kernel_rfl) (by kernel_rfl) rfl (fun _ _ _ h => h) (by rfl) ?_ (by assumption) ?_
  rotate_left
  · (intro w hSw; (try dsimp only at hSw); (try simp only [List.getElem_toArray, List.getElem_cons_zero, List.getElem_cons_succ]); go_simp; try with_reducible rfl)
  try simp only [Act.put, List.setIfInBounds_toArray, List.set_cons_zero, List.set_cons_succ]
  refine tkV (i := 15) (d := some 61) (v := ?_) rfl (by kernel_rfl) (by kernel_rfl) (by kernel_rfl) rfl (fun _ _ _ h => h) (by rfl) ?_ (by assumption) ?_
  rotate_left
  · (intro w hSw; (try dsimp only at hSw); (try simp only [List.getElem_toArray, List.getElem_cons_zero, List.getElem_cons_succ]); go_simp; try with_reducible rfl)
  try simp only [Act.put, List.setIfInBounds_toArray, List.set_cons_zero, List.set_cons_succ]
  refine tkV (i := 16) (d := some 62) (v := ?_) rfl (by kernel_rfl) (by kernel_rfl) (by kernel_rfl) rfl (fun _ _ _ h => h) (by rfl) ?_ (by assumption) ?_
  rotate_left
  · (intro w hSw; (try dsimp only at hSw); (try simp only [List.getElem_toArray, List.getElem_cons_zero, List.getElem_cons_succ]); go_simp; try with_reducible rfl)
  try simp only [Act.put, List.setIfInBounds_toArray, List.set_cons_zero, List.set_cons_succ]
  refine tkV (i := 18) (d := some 64) (v := ?_) rfl (by kernel_rfl) (by kernel_rfl) (by kernel_rfl) rfl (fun _ _ _ h => h) (by rfl) ?_ (by assumption) ?_
  rotate_left
  · (intro w hSw; (try dsimp only at hSw); (try simp only [List.getElem_toArray, List.getElem_cons_zero, List.getElem_cons_succ]); go_simp; try with_reducible rfl)
  try simp only [Act.put, List.setIfInBounds_toArray, List.set_cons_zero, List.set_cons_succ]
  refine wpAnyH_ready (rs := [17]) (by kernel_rfl) (by simp) (AllReadyH.cons rfl (fun K hK => ?_) AllReadyH.nil)
  try simp only [List.getElem_toArray, List.getElem_cons_zero, List.getElem_cons_succ]
  go_simp
  refine (HMt.out _ HM17.out).mono ?_
  rintro r w18 ⟨rfl, hb18⟩
  have HM18 := hid0 (HM17.out.past hb18)
  have hs18 := HSk13.out _ HM18.out
  clear hb18
  go_wp2_with fail
  refine hK.out _ _ ?_ (fun hHeld17 => ?_)
  · exact hs18
  clear hK K
  (try simp only [Act.put]); (try simp only [List.setIfInBounds_toArray]); (try simp only [List.set_cons_succ]); (try simp only [List.set_cons_zero])
  refine tkV (i := 19) (d := some 65) (v := ?_) rfl (by kernel_rfl) (by kernel_rfl) (by kernel_rfl) rfl (fun _ _ _ h => h) (by rfl) ?_ (by assumption) ?_
  rotate_left
  · (intro w hSw; (try dsimp only at hSw); (try simp only [List.getElem_toArray, List.getElem_cons_zero, List.getElem_cons_succ]); go_simp; try with_reducible rfl)
  try simp only [Act.put, List.setIfInBounds_toArray, List.set_cons_zero, List.set_cons_succ]
  refine tkV (i := 20) (d := some 66) (v := ?_) rfl (by kernel_rfl) (by kernel_rfl) (by kernel_rfl) rfl (fun _ _ _ h => h) (by rfl) ?_ (by assumption) ?_
  rotate_left
  · (intro w hSw; (try dsimp only at hSw); (try simp only [List.getElem_toArray, List.getElem_cons_zero, List.getElem_cons_succ]); go_simp; try with_reducible rfl)
  try simp only [Act.put, List.setIfInBounds_toArray, List.set_cons_zero, List.set_cons_succ]
  refine tkV (i := 21) (d := some 67) (v := ?_) rfl (by kernel_rfl) (by kernel_rfl) (by kernel_rfl) rfl (fun _ _ _ h => h) (by rfl) ?_ (by assumption) ?_
  rotate_left
  · (intro w hSw; (try dsimp only at hSw); (try simp only [List.getElem_toArray, List.getElem_cons_zero, List.getElem_cons_succ]); go_simp; try with_reducible rfl)
  try simp only [Act.put, List.setIfInBounds_toArray, List.set_cons_zero, List.set_cons_succ]
  refine wpAnyH_ready (rs := [22]) (by kernel_rfl) (by simp) (AllReadyH.cons rfl (fun K hK => ?_) AllReadyH.nil)
  try simp only [List.getElem_toArray, List.getElem_cons_zero, List.getElem_cons_succ]
  go_simp
  refine (HMb.out _ HM18.out).mono ?_
  rintro r w19 ⟨rfl, hb19⟩
  have HM19 := hid0 (HM18.out.past hb19)
  have hs19 := HSk13.out _ HM19.out
  clear hb19
  go_wp2_with fail
  refine hK.out _ _ ?_ (fun hHeld22 => ?_)
  · exact hs19
  clear hK K
  (try simp only [Act.put]); (try simp only [List.setIfInBounds_toArray]); (try simp only [List.set_cons_succ]); (try simp only [List.set_cons_zero])
  refine tkV (i := 23) (d := some 69) (v := ?_) rfl (by kernel_rfl) (by kernel_rfl) (by kernel_rfl) rfl (fun _ _ _ h => h) (by rfl) ?_ (by assumption) ?_
  rotate_left
  · (intro w hSw; (try dsimp only at hSw); (try simp only [List.getElem_toArray, List.getElem_cons_zero, List.getElem_cons_succ]); go_simp; try with_reducible rfl)
  try simp only [Act.put, List.setIfInBounds_toArray, List.set_cons_zero, List.set_cons_succ]
  refine tkV (i := 24) (d := some 70) (v := .bool false) rfl (by kernel_rfl) (by kernel_rfl) (by kernel_rfl) rfl (fun _ _ _ h => h) (by rfl) ?_ (by assumption) ?_
  · (intro w hSw; (try dsimp only at hSw); (try simp only [List.getElem_toArray, List.getElem_cons_zero, List.getElem_cons_succ]); go_simp; try with_reducible rfl)
  try simp only [Act.put, List.setIfInBounds_toArray, List.set_cons_zero, List.set_cons_succ]
  refine tkV (i := 25) (d := some 71) (v := ?_) rfl (by kernel_rfl) (by kernel_rfl) (by kernel_rfl) rfl (fun _ _ _ h => h) (by rfl) ?_ (by assumption) ?_
  rotate_left
  · (intro w hSw; (try dsimp only at hSw); (try simp only [List.getElem_toArray, List.getElem_cons_zero, List.getElem_cons_succ]); go_simp; try with_reducible rfl)
  try simp only [Act.put, List.setIfInBounds_toArray, List.set_cons_zero, List.set_cons_succ]
  refine tkV (i := 26) (d := some 72) (v := ?_) rfl (by kernel_rfl) (by kernel_rfl) (by kernel_rfl) rfl (fun _ _ _ h => h) (by rfl) ?_ (by assumption) ?_
  rotate_left
  · (intro w hSw; (try dsimp only at hSw); (try simp only [List.getElem_toArray, List.getElem_cons_zero, List.getElem_cons_succ]); go_simp; try with_reducible rfl)
  try simp only [Act.put, List.setIfInBounds_toArray, List.set_cons_zero, List.set_cons_succ]
  refine tkV (i := 27) (d := some 73) (v := ?_) rfl (by kernel_rfl) (by kernel_rfl) (by kernel_rfl) rfl (fun _ _ _ h => h) (by rfl) ?_ (by assumption) ?_
  rotate_left
  · (intro w hSw; (try dsimp only at hSw); (try simp only [List.getElem_toArray, List.getElem_cons_zero, List.getElem_cons_succ]); go_simp; try with_reducible rfl)
  try simp only [Act.put, List.setIfInBounds_toArray, List.set_cons_zero, List.set_cons_succ]
  refine tkV (i := 28) (d := some 74) (v := ?_) rfl (by kernel_rfl) (by kernel_rfl) (by kernel_rfl) rfl (fun _ _ _ h => h) (by rfl) ?_ (by assumption) ?_
  rotate_left
  · (intro w hSw; (try dsimp only at hSw); (try simp only [List.getElem_toArray, List.getElem_cons_zero, List.getElem_cons_succ]); go_simp; try with_reducible rfl)
  try simp only [Act.put, List.setIfInBounds_toArray, List.set_cons_zero, List.set_cons_succ]
  refine tkV (i := 30) (d := some 76) (v := ?_) rfl (by kernel_rfl) (by kernel_rfl) (by kernel_rfl) rfl (fun _ _ _ h => h) (by rfl) ?_ (by assumption) ?_
  rotate_left
  · (intro w hSw; (try dsimp only at hSw); (try simp only [List.getElem_toArray, List.getElem_cons_zero, List.getElem_cons_succ]); go_simp; try with_reducible rfl)
  try simp only [Act.put, List.setIfInBounds_toArray, List.set_cons_zero, List.set_cons_succ]
  refine wpAnyH_ready (rs := [29]) (by kernel_rfl) (by simp) (AllReadyH.cons rfl (fun K hK => ?_) AllReadyH.nil)
  try simp only [List.getElem_toArray, List.getElem_cons_zero, List.getElem_cons_succ]
  go_simp
  refine (HMo.out _ HM19.out).mono ?_
  rintro r w20 ⟨rfl, hb20⟩
  have HM20 := hid0 (HM19.out.past hb20)
  have hs20 := HSk13.out _ HM20.out
  clear hb20
  go_wp2_with fail
  refine hK.out _ _ ?_ (fun hHeld29 => ?_)
  · exact hs20
  clear hK K
  (try simp only [Act.put]); (try simp only [List.setIfInBounds_toArray]); (try simp only [List.set_cons_succ]); (try simp only [List.set_cons_zero])
  refine tkV (i := 31) (d := some 77) (v := ?_) rfl (by kernel_rfl) (by kernel_rfl) (by kernel_rfl) rfl (fun _ _ _ h => h) (by rfl) ?_ (by assumption) ?_
  rotate_left
  · (intro w hSw; (try dsimp only at hSw); (try simp only [List.getElem_toArray, List.getElem_cons_zero, List.getElem_cons_succ]); go_simp; try with_reducible rfl)
  try simp only [Act.put, List.setIfInBounds_toArray, List.set_cons_zero, List.set_cons_succ]
  refine tkV (i := 32) (d := some 78) (v := ?_) rfl (by kernel_rfl) (by kernel_rfl) (by kernel_rfl) rfl (fun _ _ _ h => h) (by rfl) ?_ (by assumption) ?_
  rotate_left
  · (intro w hSw; (try dsimp only at hSw); (try simp only [List.getElem_toArray, List.getElem_cons_zero, List.getElem_cons_succ]); go_simp; try with_reducible rfl)
  try simp only [Act.put, List.setIfInBounds_toArray, List.set_cons_zero, List.set_cons_succ]
  refine tkV (i := 33) (d := some 79) (v := ?_) rfl (by kernel_rfl) (by kernel_rfl) (by kernel_rfl) rfl (fun _ _ _ h => h) (by rfl) ?_ (by assumption) ?_
  rotate_left
  · (intro w hSw; (try dsimp only at hSw); (try simp only [List.getElem_toArray, List.getElem_cons_zero, List.getElem_cons_succ]); go_simp; try with_reducible rfl)
  try simp only [Act.put, List.setIfInBounds_toArray, List.set_cons_zero, List.set_cons_succ]
  refine tkV (i := 34) (d := some 80) (v := ?_) rfl (by kernel_rfl) (by kernel_rfl) (by kernel_rfl) rfl (fun _ _ _ h => h) (by rfl) ?_ (by assumption) ?_
  rotate_left
  · (intro w hSw; (try dsimp only at hSw); (try simp only [List.getElem_toArray, List.getElem_cons_zero, List.getElem_cons_succ]); go_simp; try with_reducible rfl)
  try simp only [Act.put, List.setIfInBounds_toArray, List.set_cons_zero, List.set_cons_succ]
  refine tkV (i := 35) (d := some 81) (v := ?_) rfl (by kernel_rfl) (by kernel_rfl) (by kernel_rfl) rfl (fun _ _ _ h => h) (by rfl) ?_ (by assumption) ?_
  rotate_left
  · (intro w hSw; (try dsimp only at hSw); (try simp only [List.getElem_toArray, List.getElem_cons_zero, List.getElem_cons_succ]); go_simp; try with_reducible rfl)
  try simp only [Act.put, List.setIfInBounds_toArray, List.set_cons_zero, List.set_cons_succ]
  refine tkV (i := 36) (d := some 82) (v := .bool false) rfl (by kernel_rfl) (by kernel_rfl) (by kernel_rfl) rfl (fun _ _ _ h => h) (by rfl) ?_ (by assumption) ?_
  · (intro w hSw; (try dsimp only at hSw); (try simp only [List.getElem_toArray, List.getElem_cons_zero, List.getElem_cons_succ]); go_simp; try with_reducible rfl)
  try simp only [Act.put, List.setIfInBounds_toArray, List.set_cons_zero, List.set_cons_succ]
  refine tkV (i := 37) (d := some 83) (v := ?_) rfl (by kernel_rfl) (by kernel_rfl) (by kernel_rfl) rfl (fun _ _ _ h => h) (by rfl) ?_ (by assumption) ?_
  rotate_left
  · (intro w hSw; (try dsimp only at hSw); (try simp only [List.getElem_toArray, List.getElem_cons_zero, List.getElem_cons_succ]); go_simp; try with_reducible rfl)
  try simp only [Act.put, List.setIfInBounds_toArray, List.set_cons_zero, List.set_cons_succ]
  refine wpAnyH_done (by kernel_rfl) ?_ _
  refine NoPanic.normal ?_
  go_wp2
  go_loopw [13, 14] (fun mv i wr => ∃ (j : Nat), 1 ≤ j ∧ j ≤ l.length + 1 ∧ i = .int .i64 (j : Int) ∧ mv = .bool (moreB a (.mk 5 false [] [] [a]) l j) ∧ Hid (MW wb wr A a b l (.slice (some ⟨gw, ow, none⟩) l.length cv) w1.heap.size w2.heap.size w6.heap.size w8.heap.size w10.heap.size w12.heap.size ⟨.int .i64 k1, .bool t1, .slice a1 m1 c1, .slice b1 n1 d1, .slice g1 l1 z1⟩ ⟨.int .i64 k2, .bool t2, .slice a2 m2 c2, .slice b2 n2 d2, .slice g2 l2 z2⟩ ⟨.int .i64 4, .bool false, .slice none 0 0, .slice none 0 0, .slice gT lT zT⟩ ⟨.int .i64 5, .bool false, .slice none 0 0, .slice none 0 0, .slice (some ⟨w7.heap.size, 0, none⟩) 1 1⟩ ⟨.int .i64 6, .bool false, .slice none 0 0, .slice none 0 0, .slice (some ⟨w9.heap.size, 0, none⟩) 1 1⟩ ⟨.int .i64 7, .bool false, .slice none 0 0, .slice none 0 0, .slice (some ⟨w11.heap.size, 0, none⟩) 1 1⟩)) (fun _ i _ => l.length + 1 - (intOf i).toNat)
  case atStart => exact ⟨1, Nat.le_refl _, by omega, rfl, by rw [moreB_one], HM20⟩
  case round =>
    obtain ⟨j, hj1, hj, rfl, rfl, HMr⟩ := hrel
    clear HMd HM13 HM14 HM15 HM16 HM17 HM18 HM20 HM19
    by_cases hlt : j ≤ l.length
    · have hjI : (j : Int) ≤ (l.length : Int) := by omega
      have hle12 : l.length ≤ 12 := HLe.out
      have hjI0 : (0 : Int) ≤ (j : Int) := by omega
      have hjc : (j : Int) ≤ (cv : Int) := by omega
      have hlcI : (l.length : Int) ≤ (cv : Int) := by omega
      have HNx := hid0 (moreB_succ a (.mk 5 false [] [] [a]) l j hj1)
      unfold hitB at HNx
      have HA := hid0 (HMh.out j hlt)
      have HC := hid0 (HMtl.out j)
      obtain ⟨ad, had⟩ : ∃ ad : Option Addr, (if cv = j then some ⟨gw, ow, none⟩ else some ⟨gw, ow + j * 2, none⟩) = ad := ⟨_, rfl⟩
      rw [had] at HC
      have HMe := hid0 (HMr.out.past (Below.refl wr.heap.size wr).drew)
      have hse := HSk19.out _ HMe.out
      generalize mtB a (l.take j) = p at *
      generalize mtB (.mk 5 false [] [] [a]) (l.drop j) = q at *
      generalize moreB a (.mk 5 false [] [] [a]) l j = mo at *
      cases mo with
      | true =>
        rw [Bool.true_or] at HNx
        go_wp2
        refine wp_region_noPanic ?_
        refine wp_region_held_drew (S := (fun V => (V.cell? ⟨w1.heap.size, 0, none⟩ = some (.int .i64 k1) ∧ V.cell? ⟨w1.heap.size, 1, none⟩ = some (.bool t1) ∧ V.cell? ⟨w1.heap.size, 2, none⟩ = some (.slice a1 m1 c1) ∧ V.cell? ⟨w1.heap.size, 3, none⟩ = some (.slice b1 n1 d1) ∧ V.cell? ⟨w1.heap.size, 4, none⟩ = some (.slice g1 l1 z1)) ∧ V.cell? ⟨w8.heap.size, 0, none⟩ = some (.int .i64 5) ∧ V.cell? ⟨w8.heap.size, 1, none⟩ = some (.bool false) ∧ V.cell? ⟨w8.heap.size, 2, none⟩ = some (.slice none 0 0) ∧ V.cell? ⟨w8.heap.size, 3, none⟩ = some (.slice none 0 0) ∧ V.cell? ⟨w8.heap.size, 4, none⟩ = some (.slice (some ⟨w7.heap.size, 0, none⟩) 1 1))) (by kernel_rfl) ?_ (fun hHeld => ?_)
        · exact hse
        refine tkV (i := 0) (d := some 90) (v := ?_) rfl (by kernel_rfl) (by kernel_rfl) (by kernel_rfl) rfl (fun _ _ _ h => h) (by rfl) ?_ (by assumption) ?_
        rotate_left
        · (intro w hSw; (try dsimp only at hSw); (try simp only [List.getElem_toArray, List.getElem_cons_zero]); go_simp; try with_reducible rfl)
        try simp only [Act.put, List.setIfInBounds_toArray, List.set_cons_zero, List.set_cons_succ]
        refine tkV (i := 1) (d := some 91) (v := ?_) rfl (by kernel_rfl) (by kernel_rfl) (by kernel_rfl) rfl (fun _ _ _ h => h) (by rfl) ?_ (by assumption) ?_
        rotate_left
        · (intro w hSw; (try dsimp only at hSw); (try simp only [List.getElem_toArray, List.getElem_cons_zero, List.getElem_cons_succ]); go_simp; try with_reducible rfl)
        try simp only [Act.put, List.setIfInBounds_toArray, List.set_cons_zero, List.set_cons_succ]
        refine tkU (i := 2) (d := some 92) rfl (by kernel_rfl) (by kernel_rfl) (by kernel_rfl) rfl (fun _ _ _ h => h) (by rfl) (by assumption) ?_
        try simp only [Act.put, List.setIfInBounds_toArray, List.set_cons_zero, List.set_cons_succ]
        refine tkU (i := 3) (d := some 93) rfl (by kernel_rfl) (by kernel_rfl) (by kernel_rfl) rfl (fun _ _ _ h => h) (by rfl) (by assumption) ?_
        try simp only [Act.put, List.setIfInBounds_toArray, List.set_cons_zero, List.set_cons_succ]
        refine tkU (i := 4) (d := some 94) rfl (by kernel_rfl) (by kernel_rfl) (by kernel_rfl) rfl (fun _ _ _ h => h) (by rfl) (by assumption) ?_
        try simp only [Act.put, List.setIfInBounds_toArray, List.set_cons_zero, List.set_cons_succ]
        refine tkU (i := 5) (d := some 95) rfl (by kernel_rfl) (by kernel_rfl) (by kernel_rfl) rfl (fun _ _ _ h => h) (by rfl) (by assumption) ?_
        try simp only [Act.put, List.setIfInBounds_toArray, List.set_cons_zero, List.set_cons_succ]
        refine wpAnyH_ready (rs := [6]) (by kernel_rfl) (by simp) (AllReadyH.cons rfl (fun K hK => ?_) AllReadyH.nil)
        try simp only [List.getElem_toArray, List.getElem_cons_zero, List.getElem_cons_succ]
        go_simp
        refine hK.out _ _ ?_ (fun hHeld6 => ?_)
        · assumption
        clear hK K
        (try simp only [Act.put]); (try simp only [List.setIfInBounds_toArray]); (try simp only [List.set_cons_succ]); (try simp only [List.set_cons_zero])
        refine tkU (i := 7) (d := some 97) rfl (by kernel_rfl) (by kernel_rfl) (by kernel_rfl) rfl (fun _ _ _ h => h) (by rfl) (by assumption) ?_
        try simp only [Act.put, List.setIfInBounds_toArray, List.set_cons_zero, List.set_cons_succ]
        refine tkU (i := 8) (d := some 98) rfl (by kernel_rfl) (by kernel_rfl) (by kernel_rfl) rfl (fun _ _ _ h => h) (by rfl) (by assumption) ?_
        try simp only [Act.put, List.setIfInBounds_toArray, List.set_cons_zero, List.set_cons_succ]
        refine tkU (i := 9) (d := some 99) rfl (by kernel_rfl) (by kernel_rfl) (by kernel_rfl) rfl (fun _ _ _ h => h) (by rfl) (by assumption) ?_
        try simp only [Act.put, List.setIfInBounds_toArray, List.set_cons_zero, List.set_cons_succ]
        refine tkU (i := 10) (d := some 100) rfl (by kernel_rfl) (by kernel_rfl) (by kernel_rfl) rfl (fun _ _ _ h => h) (by rfl) (by assumption) ?_
        try simp only [Act.put, List.setIfInBounds_toArray, List.set_cons_zero, List.set_cons_succ]
        refine tkU (i := 11) (d := some 101) rfl (by kernel_rfl) (by kernel_rfl) (by kernel_rfl) rfl (fun _ _ _ h => h) (by rfl) (by assumption) ?_
        try simp only [Act.put, List.setIfInBounds_toArray, List.set_cons_zero, List.set_cons_succ]
        refine wpAnyH_ready (rs := [12]) (by kernel_rfl) (by simp) (AllReadyH.cons rfl (fun K hK => ?_) AllReadyH.nil)
        try simp only [List.getElem_toArray, List.getElem_cons_zero, List.getElem_cons_succ]
        go_simp
        refine hK.out _ _ ?_ (fun hHeld12 => ?_)
        · assumption
        clear hK K
        (try simp only [Act.put]); (try simp only [List.setIfInBounds_toArray]); (try simp only [List.set_cons_succ]); (try simp only [List.set_cons_zero])
        refine tkU (i := 13) (d := some 103) rfl (by kernel_rfl) (by kernel_rfl) (by kernel_rfl) rfl (fun _ _ _ h => h) (by rfl) (by assumption) ?_
        try simp only [Act.put, List.setIfInBounds_toArray, List.set_cons_zero, List.set_cons_succ]
        refine tkV (i := 14) (d := some 104) (v := ?_) rfl (by kernel_rfl) (by kernel_rfl) (by kernel_rfl) rfl (fun _ _ _ h => h) (by rfl) ?_ (by assumption) ?_
        rotate_left
        · (intro w hSw; (try dsimp only at hSw); (try simp only [List.getElem_toArray, List.getElem_cons_zero, List.getElem_cons_succ]); go_simp; try with_reducible rfl)
        try simp only [Act.put, List.setIfInBounds_toArray, List.set_cons_zero, List.set_cons_succ]
        refine tkV (i := 15) (d := some 13) (v := ?_) rfl (by kernel_rfl) (by kernel_rfl) (by kernel_rfl) rfl (fun _ _ _ h => h) (by rfl) ?_ (by assumption) ?_
        rotate_left
        · (intro w hSw; (try dsimp only at hSw); (try simp only [List.getElem_toArray, List.getElem_cons_zero, List.getElem_cons_succ]); go_simp; try with_reducible rfl)
        try simp only [Act.put, List.setIfInBounds_toArray, List.set_cons_zero, List.set_cons_succ]
        refine wpAnyH_done (by kernel_rfl) ?_ _
        refine NoPanic.normal ?_
        go_wp2
        go_roundw
        case rel => exact ⟨j + 1, by omega, by omega, by go_num, by rw [HNx.out], HMe⟩
        case measure => simp [intOf]; omega
      | false =>
        cases p with
        | false =>
          rw [Bool.false_or, Bool.false_and] at HNx
          go_wp2
          refine wp_region_noPanic ?_
          refine wp_region_held_drew (S := (fun V => (V.cell? ⟨w1.heap.size, 0, none⟩ = some (.int .i64 k1) ∧ V.cell? ⟨w1.heap.size, 1, none⟩ = some (.bool t1) ∧ V.cell? ⟨w1.heap.size, 2, none⟩ = some (.slice a1 m1 c1) ∧ V.cell? ⟨w1.heap.size, 3, none⟩ = some (.slice b1 n1 d1) ∧ V.cell? ⟨w1.heap.size, 4, none⟩ = some (.slice g1 l1 z1)) ∧ V.cell? ⟨w8.heap.size, 0, none⟩ = some (.int .i64 5) ∧ V.cell? ⟨w8.heap.size, 1, none⟩ = some (.bool false) ∧ V.cell? ⟨w8.heap.size, 2, none⟩ = some (.slice none 0 0) ∧ V.cell? ⟨w8.heap.size, 3, none⟩ = some (.slice none 0 0) ∧ V.cell? ⟨w8.heap.size, 4, none⟩ = some (.slice (some ⟨w7.heap.size, 0, none⟩) 1 1))) (by kernel_rfl) ?_ (fun hHeld => ?_)
          · exact hse
          refine tkV (i := 0) (d := some 90) (v := ?_) rfl (by kernel_rfl) (by kernel_rfl) (by kernel_rfl) rfl (fun _ _ _ h => h) (by rfl) ?_ (by assumption) ?_
          rotate_left
          · (intro w hSw; (try dsimp only at hSw); (try simp only [List.getElem_toArray, List.getElem_cons_zero]); go_simp; try with_reducible rfl)
          try simp only [Act.put, List.setIfInBounds_toArray, List.set_cons_zero, List.set_cons_succ]
          refine tkV (i := 1) (d := some 91) (v := ?_) rfl (by kernel_rfl) (by kernel_rfl) (by kernel_rfl) rfl (fun _ _ _ h => h) (by rfl) ?_ (by assumption) ?_
          rotate_left
          · (intro w hSw; (try dsimp only at hSw); (try simp only [List.getElem_toArray, List.getElem_cons_zero, List.getElem_cons_succ]); go_simp; try with_reducible rfl)
          try simp only [Act.put, List.setIfInBounds_toArray, List.set_cons_zero, List.set_cons_succ]
          refine tkV (i := 2) (d := some 92) (v := ?_) rfl (by kernel_rfl) (by kernel_rfl) (by kernel_rfl) rfl (fun _ _ _ h => h) (by rfl) ?_ (by assumption) ?_
          rotate_left
          · (intro w hSw; (try dsimp only at hSw); (try simp only [List.getElem_toArray, List.getElem_cons_zero, List.getElem_cons_succ]); go_simp; try with_reducible rfl)
          try simp only [Act.put, List.setIfInBounds_toArray, List.set_cons_zero, List.set_cons_succ]
          refine tkV (i := 3) (d := some 93) (v := ?_) rfl (by kernel_rfl) (by kernel_rfl) (by kernel_rfl) rfl (fun _ _ _ h => h) (by rfl) ?_ (by assumption) ?_
          rotate_left
          · (intro w hSw; (try dsimp only at hSw); (try simp only [List.getElem_toArray, List.getElem_cons_zero, List.getElem_cons_succ]); go_simp; try with_reducible rfl)
          try simp only [Act.put, List.setIfInBounds_toArray, List.set_cons_zero, List.set_cons_succ]
          refine tkV (i := 4) (d := some 94) (v := ?_) rfl (by kernel_rfl) (by kernel_rfl) (by kernel_rfl) rfl (fun _ _ _ h => h) (by rfl) ?_ (by assumption) ?_
          rotate_left
          · (intro w hSw; (try dsimp only at hSw); (try simp only [List.getElem_toArray, List.getElem_cons_zero, List.getElem_cons_succ]); go_simp; try with_reducible rfl)
          try simp only [Act.put, List.setIfInBounds_toArray, List.set_cons_zero, List.set_cons_succ]
          refine tkV (i := 5) (d := some 95) (v := ?_) rfl (by kernel_rfl) (by kernel_rfl) (by kernel_rfl) rfl (fun _ _ _ h => h) (by rfl) ?_ (by assumption) ?_
          rotate_left
          · (intro w hSw; (try dsimp only at hSw); (try simp only [List.getElem_toArray, List.getElem_cons_zero, List.getElem_cons_succ]); go_simp; try with_reducible rfl)
          try simp only [Act.put, List.setIfInBounds_toArray, List.set_cons_zero, List.set_cons_succ]
          refine wpAnyH_ready (rs := [6]) (by kernel_rfl) (by simp) (AllReadyH.cons rfl (fun K hK => ?_) AllReadyH.nil)
          try simp only [List.getElem_toArray, List.getElem_cons_zero, List.getElem_cons_succ]
          go_simp
          refine (HA.out _ HMe.out).mono ?_
          rintro r wf ⟨rfl, hbf⟩
          have HMf := hid0 (HMe.out.past hbf)
          have hsf := HSk19.out _ HMf.out
          clear hbf
          go_wp2_with fail
          refine hK.out _ _ ?_ (fun hHeld6 => ?_)
          · exact hsf
          clear hK K
          (try simp only [Act.put]); (try simp only [List.setIfInBounds_toArray]); (try simp only [List.set_cons_succ]); (try simp only [List.set_cons_zero])
          refine tkV (i := 7) (d := some 97) (v := ?_) rfl (by kernel_rfl) (by kernel_rfl) (by kernel_rfl) rfl (fun _ _ _ h => h) (by rfl) ?_ (by assumption) ?_
          rotate_left
          · (intro w hSw; (try dsimp only at hSw); (try simp only [List.getElem_toArray, List.getElem_cons_zero, List.getElem_cons_succ]); go_simp; try with_reducible rfl)
          try simp only [Act.put, List.setIfInBounds_toArray, List.set_cons_zero, List.set_cons_succ]
          refine tkU (i := 8) (d := some 98) rfl (by kernel_rfl) (by kernel_rfl) (by kernel_rfl) rfl (fun _ _ _ h => h) (by rfl) (by assumption) ?_
          try simp only [Act.put, List.setIfInBounds_toArray, List.set_cons_zero, List.set_cons_succ]
          refine tkU (i := 9) (d := some 99) rfl (by kernel_rfl) (by kernel_rfl) (by kernel_rfl) rfl (fun _ _ _ h => h) (by rfl) (by assumption) ?_
          try simp only [Act.put, List.setIfInBounds_toArray, List.set_cons_zero, List.set_cons_succ]
          refine tkU (i := 10) (d := some 100) rfl (by kernel_rfl) (by kernel_rfl) (by kernel_rfl) rfl (fun _ _ _ h => h) (by rfl) (by assumption) ?_
          try simp only [Act.put, List.setIfInBounds_toArray, List.set_cons_zero, List.set_cons_succ]
          refine tkU (i := 11) (d := some 101) rfl (by kernel_rfl) (by kernel_rfl) (by kernel_rfl) rfl (fun _ _ _ h => h) (by rfl) (by assumption) ?_
          try simp only [Act.put, List.setIfInBounds_toArray, List.set_cons_zero, List.set_cons_succ]
          refine wpAnyH_ready (rs := [12]) (by kernel_rfl) (by simp) (AllReadyH.cons rfl (fun K hK => ?_) AllReadyH.nil)
          try simp only [List.getElem_toArray, List.getElem_cons_zero, List.getElem_cons_succ]
          go_simp
          refine hK.out _ _ ?_ (fun hHeld12 => ?_)
          · assumption
          clear hK K
          (try simp only [Act.put]); (try simp only [List.setIfInBounds_toArray]); (try simp only [List.set_cons_succ]); (try simp only [List.set_cons_zero])
          refine tkV (i := 13) (d := some 103) (v := ?_) rfl (by kernel_rfl) (by kernel_rfl) (by kernel_rfl) rfl (fun _ _ _ h => h) (by rfl) ?_ (by assumption) ?_
          rotate_left
          · (intro w hSw; (try dsimp only at hSw); (try simp only [List.getElem_toArray, List.getElem_cons_zero, List.getElem_cons_succ]); go_simp; try with_reducible rfl)
          try simp only [Act.put, List.setIfInBounds_toArray, List.set_cons_zero, List.set_cons_succ]
          refine tkV (i := 14) (d := some 104) (v := ?_) rfl (by kernel_rfl) (by kernel_rfl) (by kernel_rfl) rfl (fun _ _ _ h => h) (by rfl) ?_ (by assumption) ?_
          rotate_left
          · (intro w hSw; (try dsimp only at hSw); (try simp only [List.getElem_toArray, List.getElem_cons_zero, List.getElem_cons_succ]); go_simp; try with_reducible rfl)
          try simp only [Act.put, List.setIfInBounds_toArray, List.set_cons_zero, List.set_cons_succ]
          refine tkV (i := 15) (d := some 13) (v := ?_) rfl (by kernel_rfl) (by kernel_rfl) (by kernel_rfl) rfl (fun _ _ _ h => h) (by rfl) ?_ (by assumption) ?_
          rotate_left
          · (intro w hSw; (try dsimp only at hSw); (try simp only [List.getElem_toArray, List.getElem_cons_zero, List.getElem_cons_succ]); go_simp; try with_reducible rfl)
          try simp only [Act.put, List.setIfInBounds_toArray, List.set_cons_zero, List.set_cons_succ]
          refine wpAnyH_done (by kernel_rfl) ?_ _
          refine NoPanic.normal ?_
          go_wp2
          go_roundw
          case rel => exact ⟨j + 1, by omega, by omega, by go_num, by rw [HNx.out], HMf⟩
          case measure => simp [intOf]; omega
        | true =>
          rw [Bool.false_or, Bool.true_and] at HNx
          go_wp2
          refine wp_region_noPanic ?_
          refine wp_region_held_drew (S := (fun V => (V.cell? ⟨w1.heap.size, 0, none⟩ = some (.int .i64 k1) ∧ V.cell? ⟨w1.heap.size, 1, none⟩ = some (.bool t1) ∧ V.cell? ⟨w1.heap.size, 2, none⟩ = some (.slice a1 m1 c1) ∧ V.cell? ⟨w1.heap.size, 3, none⟩ = some (.slice b1 n1 d1) ∧ V.cell? ⟨w1.heap.size, 4, none⟩ = some (.slice g1 l1 z1)) ∧ V.cell? ⟨w8.heap.size, 0, none⟩ = some (.int .i64 5) ∧ V.cell? ⟨w8.heap.size, 1, none⟩ = some (.bool false) ∧ V.cell? ⟨w8.heap.size, 2, none⟩ = some (.slice none 0 0) ∧ V.cell? ⟨w8.heap.size, 3, none⟩ = some (.slice none 0 0) ∧ V.cell? ⟨w8.heap.size, 4, none⟩ = some (.slice (some ⟨w7.heap.size, 0, none⟩) 1 1))) (by kernel_rfl) ?_ (fun hHeld => ?_)
          · exact hse
          refine tkV (i := 0) (d := some 90) (v := ?_) rfl (by kernel_rfl) (by kernel_rfl) (by kernel_rfl) rfl (fun _ _ _ h => h) (by rfl) ?_ (by assumption) ?_
          rotate_left
          · (intro w hSw; (try dsimp only at hSw); (try simp only [List.getElem_toArray, List.getElem_cons_zero]); go_simp; try with_reducible rfl)
          try simp only [Act.put, List.setIfInBounds_toArray, List.set_cons_zero, List.set_cons_succ]
          refine tkV (i := 1) (d := some 91) (v := ?_) rfl (by kernel_rfl) (by kernel_rfl) (by kernel_rfl) rfl (fun _ _ _ h => h) (by rfl) ?_ (by assumption) ?_
          rotate_left
          · (intro w hSw; (try dsimp only at hSw); (try simp only [List.getElem_toArray, List.getElem_cons_zero, List.getElem_cons_succ]); go_simp; try with_reducible rfl)
          try simp only [Act.put, List.setIfInBounds_toArray, List.set_cons_zero, List.set_cons_succ]
          refine tkV (i := 2) (d := some 92) (v := ?_) rfl (by kernel_rfl) (by kernel_rfl) (by kernel_rfl) rfl (fun _ _ _ h => h) (by rfl) ?_ (by assumption) ?_
          rotate_left
          · (intro w hSw; (try dsimp only at hSw); (try simp only [List.getElem_toArray, List.getElem_cons_zero, List.getElem_cons_succ]); go_simp; try with_reducible rfl)
          try simp only [Act.put, List.setIfInBounds_toArray, List.set_cons_zero, List.set_cons_succ]
          refine tkV (i := 3) (d := some 93) (v := ?_) rfl (by kernel_rfl) (by kernel_rfl) (by kernel_rfl) rfl (fun _ _ _ h => h) (by rfl) ?_ (by assumption) ?_
          rotate_left
          · (intro w hSw; (try dsimp only at hSw); (try simp only [List.getElem_toArray, List.getElem_cons_zero, List.getElem_cons_succ]); go_simp; try with_reducible rfl)
          try simp only [Act.put, List.setIfInBounds_toArray, List.set_cons_zero, List.set_cons_succ]
          refine tkV (i := 4) (d := some 94) (v := ?_) rfl (by kernel_rfl) (by kernel_rfl) (by kernel_rfl) rfl (fun _ _ _ h => h) (by rfl) ?_ (by assumption) ?_
          rotate_left
          · (intro w hSw; (try dsimp only at hSw); (try simp only [List.getElem_toArray, List.getElem_cons_zero, List.getElem_cons_succ]); go_simp; try with_reducible rfl)
          try simp only [Act.put, List.setIfInBounds_toArray, List.set_cons_zero, List.set_cons_succ]
          refine tkV (i := 5) (d := some 95) (v := ?_) rfl (by kernel_rfl) (by kernel_rfl) (by kernel_rfl) rfl (fun _ _ _ h => h) (by rfl) ?_ (by assumption) ?_
          rotate_left
          · (intro w hSw; (try dsimp only at hSw); (try simp only [List.getElem_toArray, List.getElem_cons_zero, List.getElem_cons_succ]); go_simp; try with_reducible rfl)
          try simp only [Act.put, List.setIfInBounds_toArray, List.set_cons_zero, List.set_cons_succ]
          refine wpAnyH_ready (rs := [6]) (by kernel_rfl) (by simp) (AllReadyH.cons rfl (fun K hK => ?_) AllReadyH.nil)
          try simp only [List.getElem_toArray, List.getElem_cons_zero, List.getElem_cons_succ]
          go_simp
          refine (HA.out _ HMe.out).mono ?_
          rintro r wf ⟨rfl, hbf⟩
          have HMf := hid0 (HMe.out.past hbf)
          have hsf := HSk19.out _ HMf.out
          clear hbf
          go_wp2_with fail
          refine hK.out _ _ ?_ (fun hHeld6 => ?_)
          · exact hsf
          clear hK K
          (try simp only [Act.put]); (try simp only [List.setIfInBounds_toArray]); (try simp only [List.set_cons_succ]); (try simp only [List.set_cons_zero])
          refine tkV (i := 7) (d := some 97) (v := ?_) rfl (by kernel_rfl) (by kernel_rfl) (by kernel_rfl) rfl (fun _ _ _ h => h) (by rfl) ?_ (by assumption) ?_
          rotate_left
          · (intro w hSw; (try dsimp only at hSw); (try simp only [List.getElem_toArray, List.getElem_cons_zero, List.getElem_cons_succ]); go_simp; try with_reducible rfl)
          try simp only [Act.put, List.setIfInBounds_toArray, List.set_cons_zero, List.set_cons_succ]
          refine tkV (i := 8) (d := some 98) (v := ?_) rfl (by kernel_rfl) (by kernel_rfl) (by kernel_rfl) rfl (fun _ _ _ h => h) (by rfl) ?_ (by assumption) ?_
          rotate_left
          · (intro w hSw; (try dsimp only at hSw); (try simp only [List.getElem_toArray, List.getElem_cons_zero, List.getElem_cons_succ]); go_simp; try with_reducible rfl)
          try simp only [Act.put, List.setIfInBounds_toArray, List.set_cons_zero, List.set_cons_succ]
          refine tkV (i := 9) (d := some 99) (v := ?_) rfl (by kernel_rfl) (by kernel_rfl) (by kernel_rfl) rfl (fun _ _ _ h => h) (by rfl) ?_ (by assumption) ?_
          rotate_left
          · (intro w hSw; (try dsimp only at hSw); (try simp only [List.getElem_toArray, List.getElem_cons_zero, List.getElem_cons_succ]); go_simp; try with_reducible rfl)
          try simp only [Act.put, List.setIfInBounds_toArray, List.set_cons_zero, List.set_cons_succ]
          refine tkV (i := 10) (d := some 100) (v := ?_) rfl (by kernel_rfl) (by kernel_rfl) (by kernel_rfl) rfl (fun _ _ _ h => h) (by rfl) ?_ (by assumption) ?_
          rotate_left
          · (intro w hSw; (try dsimp only at hSw); (try simp only [List.getElem_toArray, List.getElem_cons_zero, List.getElem_cons_succ]); go_simp; try with_reducible rfl)
          try simp only [Act.put, List.setIfInBounds_toArray, List.set_cons_zero, List.set_cons_succ]
          refine tkV (i := 11) (d := some 101) (v := ?_) rfl (by kernel_rfl) (by kernel_rfl) (by kernel_rfl) rfl (fun _ _ _ h => h) (by rfl) ?_ (by assumption) ?_
          rotate_left
          · (intro w hSw; (try dsimp only at hSw); (try simp only [List.getElem_toArray, List.getElem_cons_zero, List.getElem_cons_succ]); go_simp; try with_reducible rfl)
          try simp only [Act.put, List.setIfInBounds_toArray, List.set_cons_zero, List.set_cons_succ]
          refine wpAnyH_ready (rs := [12]) (by kernel_rfl) (by simp) (AllReadyH.cons rfl (fun K hK => ?_) AllReadyH.nil)
          try simp only [List.getElem_toArray, List.getElem_cons_zero, List.getElem_cons_succ]
          go_simp
          refine (HC.out _ HMf.out).mono ?_
          rintro r wg ⟨rfl, hbg⟩
          have HMg := hid0 (HMf.out.past hbg)
          have hsg := HSk19.out _ HMg.out
          clear hbg
          go_wp2_with fail
          refine hK.out _ _ ?_ (fun hHeld12 => ?_)
          · exact hsg
          clear hK K
          (try simp only [Act.put]); (try simp only [List.setIfInBounds_toArray]); (try simp only [List.set_cons_succ]); (try simp only [List.set_cons_zero])
          refine tkV (i := 13) (d := some 103) (v := ?_) rfl (by kernel_rfl) (by kernel_rfl) (by kernel_rfl) rfl (fun _ _ _ h => h) (by rfl) ?_ (by assumption) ?_
          rotate_left
          · (intro w hSw; (try dsimp only at hSw); (try simp only [List.getElem_toArray, List.getElem_cons_zero, List.getElem_cons_succ]); go_simp; try with_reducible rfl)
          try simp only [Act.put, List.setIfInBounds_toArray, List.set_cons_zero, List.set_cons_succ]
          refine tkV (i := 14) (d := some 104) (v := ?_) rfl (by kernel_rfl) (by kernel_rfl) (by kernel_rfl) rfl (fun _ _ _ h => h) (by rfl) ?_ (by assumption) ?_
          rotate_left
          · (intro w hSw; (try dsimp only at hSw); (try simp only [List.getElem_toArray, List.getElem_cons_zero, List.getElem_cons_succ]); go_simp; try with_reducible rfl)
          try simp only [Act.put, List.setIfInBounds_toArray, List.set_cons_zero, List.set_cons_succ]
          refine tkV (i := 15) (d := some 13) (v := ?_) rfl (by kernel_rfl) (by kernel_rfl) (by kernel_rfl) rfl (fun _ _ _ h => h) (by rfl) ?_ (by assumption) ?_
          rotate_left
          · (intro w hSw; (try dsimp only at hSw); (try simp only [List.getElem_toArray, List.getElem_cons_zero, List.getElem_cons_succ]); go_simp; try with_reducible rfl)
          try simp only [Act.put, List.setIfInBounds_toArray, List.set_cons_zero, List.set_cons_succ]
          refine wpAnyH_done (by kernel_rfl) ?_ _
          refine NoPanic.normal ?_
          go_wp2
          go_roundw
          case rel => exact ⟨j + 1, by omega, by omega, by go_num, by rw [HNx.out], HMg⟩
          case measure => simp [intOf]; omega
    · have hjI : ¬ (j : Int) ≤ (l.length : Int) := by omega
      obtain rfl : j = l.length + 1 := by omega
      generalize moreB a (.mk 5 false [] [] [a]) l (l.length + 1) = mo at *
      have HMe := hid0 (HMr.out.past (Below.refl wr.heap.size wr).drew)
      have hse := HSk20.out _ HMe.out
      go_wp2
      refine wp_region_noPanic ?_
      refine wp_region_held_drew (S := (fun V => (V.cell? ⟨w1.heap.size, 0, none⟩ = some (.int .i64 k1) ∧ V.cell? ⟨w1.heap.size, 1, none⟩ = some (.bool t1) ∧ V.cell? ⟨w1.heap.size, 2, none⟩ = some (.slice a1 m1 c1) ∧ V.cell? ⟨w1.heap.size, 3, none⟩ = some (.slice b1 n1 d1) ∧ V.cell? ⟨w1.heap.size, 4, none⟩ = some (.slice g1 l1 z1)) ∧ (V.cell? ⟨w8.heap.size, 0, none⟩ = some (.int .i64 5) ∧ V.cell? ⟨w8.heap.size, 1, none⟩ = some (.bool false) ∧ V.cell? ⟨w8.heap.size, 2, none⟩ = some (.slice none 0 0) ∧ V.cell? ⟨w8.heap.size, 3, none⟩ = some (.slice none 0 0) ∧ V.cell? ⟨w8.heap.size, 4, none⟩ = some (.slice (some ⟨w7.heap.size, 0, none⟩) 1 1)) ∧ V.cell? ⟨w10.heap.size, 0, none⟩ = some (.int .i64 6) ∧ V.cell? ⟨w10.heap.size, 1, none⟩ = some (.bool false) ∧ V.cell? ⟨w10.heap.size, 2, none⟩ = some (.slice none 0 0) ∧ V.cell? ⟨w10.heap.size, 3, none⟩ = some (.slice none 0 0) ∧ V.cell? ⟨w10.heap.size, 4, none⟩ = some (.slice (some ⟨w9.heap.size, 0, none⟩) 1 1))) (by kernel_rfl) ?_ (fun hHeld => ?_)
      · exact hse
      refine tkV (i := 0) (d := some 105) (v := ?_) rfl (by kernel_rfl) (by kernel_rfl) (by kernel_rfl) rfl (fun _ _ _ h => h) (by rfl) ?_ (by assumption) ?_
      rotate_left
      · (intro w hSw; (try dsimp only at hSw); (try simp only [List.getElem_toArray, List.getElem_cons_zero]); go_simp; try with_reducible rfl)
      try simp only [Act.put, List.setIfInBounds_toArray, List.set_cons_zero, List.set_cons_succ]
      refine tkV (i := 1) (d := some 106) (v := ?_) rfl (by kernel_rfl) (by kernel_rfl) (by kernel_rfl) rfl (fun _ _ _ h => h) (by rfl) ?_ (by assumption) ?_
      rotate_left
      · (intro w hSw; (try dsimp only at hSw); (try simp only [List.getElem_toArray, List.getElem_cons_zero, List.getElem_cons_succ]); go_simp; try with_reducible rfl)
      try simp only [Act.put, List.setIfInBounds_toArray, List.set_cons_zero, List.set_cons_succ]
      refine tkV (i := 3) (d := some 108) (v := ?_) rfl (by kernel_rfl) (by kernel_rfl) (by kernel_rfl) rfl (fun _ _ _ h => h) (by rfl) ?_ (by assumption) ?_
      rotate_left
      · (intro w hSw; (try dsimp only at hSw); (try simp only [List.getElem_toArray, List.getElem_cons_zero, List.getElem_cons_succ]); go_simp; try with_reducible rfl)
      try simp only [Act.put, List.setIfInBounds_toArray, List.set_cons_zero, List.set_cons_succ]
      refine tkV (i := 4) (d := some 109) (v := ?_) rfl (by kernel_rfl) (by kernel_rfl) (by kernel_rfl) rfl (fun _ _ _ h => h) (by rfl) ?_ (by assumption) ?_
      rotate_left
      · (intro w hSw; (try dsimp only at hSw); (try simp only [List.getElem_toArray, List.getElem_cons_zero, List.getElem_cons_succ]); go_simp; try with_reducible rfl)
      try simp only [Act.put, List.setIfInBounds_toArray, List.set_cons_zero, List.set_cons_succ]
      refine tkV (i := 5) (d := some 110) (v := ?_) rfl (by kernel_rfl) (by kernel_rfl) (by kernel_rfl) rfl (fun _ _ _ h => h) (by rfl) ?_ (by assumption) ?_
      rotate_left
      · (intro w hSw; (try dsimp only at hSw); (try simp only [List.getElem_toArray, List.getElem_cons_zero, List.getElem_cons_succ]); go_simp; try with_reducible rfl)
      try simp only [Act.put, List.setIfInBounds_toArray, List.set_cons_zero, List.set_cons_succ]
      refine wpAnyH_ready (rs := [2]) (by kernel_rfl) (by simp) (AllReadyH.cons rfl (fun K hK => ?_) AllReadyH.nil)
      try simp only [List.getElem_toArray, List.getElem_cons_zero, List.getElem_cons_succ]
      go_simp
      refine (HMst.out _ HMe.out).mono ?_
      rintro r wf ⟨rfl, hbf⟩
      have HMf := hid0 (HMe.out.past hbf)
      have hsf := HSk20.out _ HMf.out
      clear hbf
      go_wp2_with fail
      refine hK.out _ _ ?_ (fun hHeld2 => ?_)
      · exact hsf
      clear hK K
      (try simp only [Act.put]); (try simp only [List.setIfInBounds_toArray]); (try simp only [List.set_cons_succ]); (try simp only [List.set_cons_zero])
      refine tkV (i := 6) (d := some 111) (v := ?_) rfl (by kernel_rfl) (by kernel_rfl) (by kernel_rfl) rfl (fun _ _ _ h => h) (by rfl) ?_ (by assumption) ?_
      rotate_left
      · (intro w hSw; (try dsimp only at hSw); (try simp only [List.getElem_toArray, List.getElem_cons_zero, List.getElem_cons_succ]); go_simp; try with_reducible rfl)
      try simp only [Act.put, List.setIfInBounds_toArray, List.set_cons_zero, List.set_cons_succ]
      refine tkV (i := 7) (d := some 112) (v := ?_) rfl (by kernel_rfl) (by kernel_rfl) (by kernel_rfl) rfl (fun _ _ _ h => h) (by rfl) ?_ (by assumption) ?_
      rotate_left
      · (intro w hSw; (try dsimp only at hSw); (try simp only [List.getElem_toArray, List.getElem_cons_zero, List.getElem_cons_succ]); go_simp; try with_reducible rfl)
      try simp only [Act.put, List.setIfInBounds_toArray, List.set_cons_zero, List.set_cons_succ]
      refine tkV (i := 8) (d := some 113) (v := ?_) rfl (by kernel_rfl) (by kernel_rfl) (by kernel_rfl) rfl (fun _ _ _ h => h) (by rfl) ?_ (by assumption) ?_
      rotate_left
      · (intro w hSw; (try dsimp only at hSw); (try simp only [List.getElem_toArray, List.getElem_cons_zero, List.getElem_cons_succ]); go_simp; try with_reducible rfl)
      try simp only [Act.put, List.setIfInBounds_toArray, List.set_cons_zero, List.set_cons_succ]
      refine tkV (i := 9) (d := some 114) (v := .bool false) rfl (by kernel_rfl) (by kernel_rfl) (by kernel_rfl) rfl (fun _ _ _ h => h) (by rfl) ?_ (by assumption) ?_
      · (intro w hSw; (try dsimp only at hSw); (try simp only [List.getElem_toArray, List.getElem_cons_zero, List.getElem_cons_succ]); go_simp; try with_reducible rfl)
      try simp only [Act.put, List.setIfInBounds_toArray, List.set_cons_zero, List.set_cons_succ]
      refine tkV (i := 10) (d := some 115) (v := ?_) rfl (by kernel_rfl) (by kernel_rfl) (by kernel_rfl) rfl (fun _ _ _ h => h) (by rfl) ?_ (by assumption) ?_
      rotate_left
      · (intro w hSw; (try dsimp only at hSw); (try simp only [List.getElem_toArray, List.getElem_cons_zero, List.getElem_cons_succ]); go_simp; try with_reducible rfl)
      try simp only [Act.put, List.setIfInBounds_toArray, List.set_cons_zero, List.set_cons_succ]
      refine tkV (i := 11) (d := some 116) (v := ?_) rfl (by kernel_rfl) (by kernel_rfl) (by kernel_rfl) rfl (fun _ _ _ h => h) (by rfl) ?_ (by assumption) ?_
      rotate_left
      · (intro w hSw; (try dsimp only at hSw); (try simp only [List.getElem_toArray, List.getElem_cons_zero, List.getElem_cons_succ]); go_simp; try with_reducible rfl)
      try simp only [Act.put, List.setIfInBounds_toArray, List.set_cons_zero, List.set_cons_succ]
      refine tkV (i := 12) (d := some 117) (v := ?_) rfl (by kernel_rfl) (by kernel_rfl) (by kernel_rfl) rfl (fun _ _ _ h => h) (by rfl) ?_ (by assumption) ?_
      rotate_left
      · (intro w hSw; (try dsimp only at hSw); (try simp only [List.getElem_toArray, List.getElem_cons_zero, List.getElem_cons_succ]); go_simp; try with_reducible rfl)
      try simp only [Act.put, List.setIfInBounds_toArray, List.set_cons_zero, List.set_cons_succ]
      refine tkV (i := 14) (d := some 119) (v := ?_) rfl (by kernel_rfl) (by kernel_rfl) (by kernel_rfl) rfl (fun _ _ _ h => h) (by rfl) ?_ (by assumption) ?_
      rotate_left
      · (intro w hSw; (try dsimp only at hSw); (try simp only [List.getElem_toArray, List.getElem_cons_zero, List.getElem_cons_succ]); go_simp; try with_reducible rfl)
      try simp only [Act.put, List.setIfInBounds_toArray, List.set_cons_zero, List.set_cons_succ]
      refine tkV (i := 15) (d := some 120) (v := ?_) rfl (by kernel_rfl) (by kernel_rfl) (by kernel_rfl) rfl (fun _ _ _ h => h) (by rfl) ?_ (by assumption) ?_
      rotate_left
      · (intro w hSw; (try dsimp only at hSw); (try simp only [List.getElem_toArray, List.getElem_cons_zero, List.getElem_cons_succ]); go_simp; try with_reducible rfl)
      try simp only [Act.put, List.setIfInBounds_toArray, List.set_cons_zero, List.set_cons_succ]
      refine tkV (i := 16) (d := some 121) (v := ?_) rfl (by kernel_rfl) (by kernel_rfl) (by kernel_rfl) rfl (fun _ _ _ h => h) (by rfl) ?_ (by assumption) ?_
      rotate_left
      · (intro w hSw; (try dsimp only at hSw); (try simp only [List.getElem_toArray, List.getElem_cons_zero, List.getElem_cons_succ]); go_simp; try with_reducible rfl)
      try simp only [Act.put, List.setIfInBounds_toArray, List.set_cons_zero, List.set_cons_succ]
      refine wpAnyH_ready (rs := [13]) (by kernel_rfl) (by simp) (AllReadyH.cons rfl (fun K hK => ?_) AllReadyH.nil)
      try simp only [List.getElem_toArray, List.getElem_cons_zero, List.getElem_cons_succ]
      go_simp
      refine (HMpl.out _ HMf.out).mono ?_
      rintro r wg ⟨rfl, hbg⟩
      have HMg := hid0 (HMf.out.past hbg)
      have hsg := HSk20.out _ HMg.out
      clear hbg
      go_wp2_with fail
      refine hK.out _ _ ?_ (fun hHeld13 => ?_)
      · exact hsg
      clear hK K
      (try simp only [Act.put]); (try simp only [List.setIfInBounds_toArray]); (try simp only [List.set_cons_succ]); (try simp only [List.set_cons_zero])
      refine wpAnyH_ready (rs := [17]) (by kernel_rfl) (by simp) (AllReadyH.cons rfl (fun K hK => ?_) AllReadyH.nil)
      try simp only [List.getElem_toArray, List.getElem_cons_zero, List.getElem_cons_succ]
      go_simp
      refine (HSp2.out _ HMg.out).mono ?_
      rintro r wh ⟨rfl, hbh⟩
      have HMh := hid0 (HMg.out.past hbh)
      have hsh := HSk20.out _ HMh.out
      clear hbh
      go_wp2_with fail
      refine hK.out _ _ ?_ (fun hHeld17 => ?_)
      · exact hsh
      clear hK K
      (try simp only [Act.put]); (try simp only [List.setIfInBounds_toArray]); (try simp only [List.set_cons_succ]); (try simp only [List.set_cons_zero])
      refine tkV (i := 18) (d := some 123) (v := .bool false) rfl (by kernel_rfl) (by kernel_rfl) (by kernel_rfl) rfl (fun _ _ _ h => h) (by rfl) ?_ (by assumption) ?_
      · (intro w hSw; (try dsimp only at hSw); (try simp only [List.getElem_toArray, List.getElem_cons_zero, List.getElem_cons_succ]); go_simp; try with_reducible rfl)
      try simp only [Act.put, List.setIfInBounds_toArray, List.set_cons_zero, List.set_cons_succ]
      refine tkV (i := 19) (d := some 124) (v := ?_) rfl (by kernel_rfl) (by kernel_rfl) (by kernel_rfl) rfl (fun _ _ _ h => h) (by rfl) ?_ (by assumption) ?_
      rotate_left
      · (intro w hSw; (try dsimp only at hSw); (try simp only [List.getElem_toArray, List.getElem_cons_zero, List.getElem_cons_succ]); go_simp; try with_reducible rfl)
      try simp only [Act.put, List.setIfInBounds_toArray, List.set_cons_zero, List.set_cons_succ]
      refine wpAnyH_done (by kernel_rfl) ?_ _
      refine NoPanic.normal ?_
      have hcx := HBox.out _ HMh.out.bel
      go_wp2_with (first
        | (go_at_call 12
           refine (HSet.out _ (Below.later HBb.out HMh.out.bel)).mono ?_
           rintro r wS ⟨gS, cS, hS, dS, rfl, q1, q2, q3⟩
           have HMS := hid0 (HMh.out.past q3)
           have HQ1 := hid0 q1
           have HQ2 := hid0 q2
           clear q1 q2 q3)
        | fail)
      obtain ⟨hbX, hrX, _⟩ := laid (rfl : wS.alloc (.cells #[.int .i64 2, .bool tA, .slice gS (nmK NA 3).length cS, .slice hS (ptK PA).length dS, .slice none 0 0] 28) = _)
      generalize wS.alloc (.cells #[.int .i64 2, .bool tA, .slice gS (nmK NA 3).length cS, .slice hS (ptK PA).length dS, .slice none 0 0] 28) = wX at *
      have HMX := hid0 (HMS.out.past hbX)
      have HIs : Hid (ExIs wX tt (.mk 2 tA (nmK NA 3) (ptK PA) []) ⟨.int .i64 2, .bool tA, .slice gS (nmK NA 3).length cS, .slice hS (ptK PA).length dS, .slice none 0 0⟩) := hid0 ((set_is cS dS HQ1.out HQ2.out (by have := nmK_len NA 3; omega) (by have := pts_len PA; omega)).tt.past hbX)
      have HRX := hid0 hrX
      have HBX := hid0 hbX
      clear hbX hrX
      have HMz := hid0 (fun (V : World) (hV : Below wX.heap.size wX V) => match_at (.mk 2 tA (nmK NA 3) (ptK PA) []) _ tt l (some ⟨gw, ow, none⟩) cv A V (by have := HLe.out; omega) (HIs.out.past hV) (HMX.out.past hV).e3 (HMX.out.past hV).wv.ka)
      unfold EV.v at HMz
      simp only [] at HMz
      by_cases ho : l.length = 1
      · obtain ⟨⟨s1, p1⟩, hu⟩ := List.length_eq_one_iff.1 ho
        rw [show mtB (.mk 2 tA (nmK NA 3) (ptK PA) []) l = holdsF tA (nmK NA 3) (ptK PA) s1 p1 by rw [hu]; exact eq_set1 tA NA PA (s1, p1)] at HMz
        have hoB : ((l.length : Int) == 1) = true := by simp; omega
        have ho1 : (0 : Int) < (l.length : Int) := by omega
        have ho0 : 0 < l.length := by omega
        clear ho
        have HHo := hid0 (fun (V : World) (hV : Below wX.heap.size wX V) => holds_any tA (nmK NA 3) (ptK PA) gS hS cS dS s1 p1 V (by have := nmK_len NA 3; omega) (by have := pts_len PA; omega) ((HQ1.out.sa.below HBX.out).below hV) ((HQ2.out.ra.below HBX.out).below hV))
        have HSz : Hid (∀ V, Below wX.heap.size wX V → (V.cell? ⟨wS.heap.size, 0, none⟩ = some (.int .i64 2) ∧ V.cell? ⟨wS.heap.size, 1, none⟩ = some (.bool tA) ∧ V.cell? ⟨wS.heap.size, 2, none⟩ = some (.slice gS (nmK NA 3).length cS) ∧ V.cell? ⟨wS.heap.size, 3, none⟩ = some (.slice hS (ptK PA).length dS) ∧ V.cell? ⟨wS.heap.size, 4, none⟩ = some (.slice none 0 0)) ∧ V.cell? ⟨gw, ow, none⟩ = some (.string s1) ∧ V.cell? ⟨gw, ow + 1, none⟩ = some (.int .i64 p1)) := hid0 (fun V hV => ⟨(rowE (kept hV HRX.out)).1, by
          have hk := (HMX.out.past hV).wv.ka
          rw [hu] at hk
          obtain ⟨b', o', e', _, h1, h2⟩ := hk.at' 0 (by simp)
          cases e'
          exact ⟨by simpa using h1, by simpa using h2⟩⟩)
        have HU := hid0 hu
        clear hu
        generalize holdsF tA (nmK NA 3) (ptK PA) s1 p1 = hd at *
        have HBd := hid0 (Below.refl wX.heap.size wX).drew
        have hsx := HSz.out _ HBd.out
        refine wp_region_noPanic ?_
        refine wp_region_held_drew (S := (fun V => (V.cell? ⟨wS.heap.size, 0, none⟩ = some (.int .i64 2) ∧ V.cell? ⟨wS.heap.size, 1, none⟩ = some (.bool tA) ∧ V.cell? ⟨wS.heap.size, 2, none⟩ = some (.slice gS (nmK NA 3).length cS) ∧ V.cell? ⟨wS.heap.size, 3, none⟩ = some (.slice hS (ptK PA).length dS) ∧ V.cell? ⟨wS.heap.size, 4, none⟩ = some (.slice none 0 0)) ∧ V.cell? ⟨gw, ow, none⟩ = some (.string s1) ∧ V.cell? ⟨gw, ow + 1, none⟩ = some (.int .i64 p1))) (by kernel_rfl) ?_ (fun hHeld => ?_)
        · exact hsx
        refine tkV (i := 0) (d := some 130) (v := ?_) rfl (by kernel_rfl) (by kernel_rfl) (by kernel_rfl) rfl (fun _ _ _ h => h) (by rfl) ?_ (by assumption) ?_
        rotate_left
        · (intro w hSw; (try dsimp only at hSw); (try simp only [List.getElem_toArray, List.getElem_cons_zero]); go_simp; try with_reducible rfl)
        try simp only [Act.put, List.setIfInBounds_toArray, List.set_cons_zero, List.set_cons_succ]
        refine tkV (i := 1) (d := some 131) (v := ?_) rfl (by kernel_rfl) (by kernel_rfl) (by kernel_rfl) rfl (fun _ _ _ h => h) (by rfl) ?_ (by assumption) ?_
        rotate_left
        · (intro w hSw; (try dsimp only at hSw); (try simp only [List.getElem_toArray, List.getElem_cons_zero, List.getElem_cons_succ]); go_simp; try with_reducible rfl)
        try simp only [Act.put, List.setIfInBounds_toArray, List.set_cons_zero, List.set_cons_succ]
        refine tkV (i := 3) (d := some 133) (v := ?_) rfl (by kernel_rfl) (by kernel_rfl) (by kernel_rfl) rfl (fun _ _ _ h => h) (by rfl) ?_ (by assumption) ?_
        rotate_left
        · (intro w hSw; (try dsimp only at hSw); (try simp only [List.getElem_toArray, List.getElem_cons_zero, List.getElem_cons_succ]); go_simp; try with_reducible rfl)
        try simp only [Act.put, List.setIfInBounds_toArray, List.set_cons_zero, List.set_cons_succ]
        refine tkV (i := 4) (d := some 134) (v := ?_) rfl (by kernel_rfl) (by kernel_rfl) (by kernel_rfl) rfl (fun _ _ _ h => h) (by rfl) ?_ (by assumption) ?_
        rotate_left
        · (intro w hSw; (try dsimp only at hSw); (try simp only [List.getElem_toArray, List.getElem_cons_zero, List.getElem_cons_succ]); go_simp; try with_reducible rfl)
        try simp only [Act.put, List.setIfInBounds_toArray, List.set_cons_zero, List.set_cons_succ]
        refine tkV (i := 5) (d := some 135) (v := ?_) rfl (by kernel_rfl) (by kernel_rfl) (by kernel_rfl) rfl (fun _ _ _ h => h) (by rfl) ?_ (by assumption) ?_
        rotate_left
        · (intro w hSw; (try dsimp only at hSw); (try simp only [List.getElem_toArray, List.getElem_cons_zero, List.getElem_cons_succ]); go_simp; try with_reducible rfl)
        try simp only [Act.put, List.setIfInBounds_toArray, List.set_cons_zero, List.set_cons_succ]
        refine wpAnyH_ready (rs := [2]) (by kernel_rfl) (by simp) (AllReadyH.cons rfl (fun K hK => ?_) AllReadyH.nil)
        try simp only [List.getElem_toArray, List.getElem_cons_zero, List.getElem_cons_succ]
        go_simp
        refine (HMz.out _ HBd.out).mono ?_
        rintro r wY ⟨rfl, hbY⟩
        have HBY := hid0 (Below.later HBd.out hbY)
        have hsY := HSz.out _ HBY.out
        clear hbY
        go_wp2_with fail
        refine hK.out _ _ ?_ (fun hHeld2 => ?_)
        · exact hsY
        clear hK K
        (try simp only [Act.put]); (try simp only [List.setIfInBounds_toArray]); (try simp only [List.set_cons_succ]); (try simp only [List.set_cons_zero])
        refine tkV (i := 6) (d := some 136) (v := ?_) rfl (by kernel_rfl) (by kernel_rfl) (by kernel_rfl) rfl (fun _ _ _ h => h) (by rfl) ?_ (by assumption) ?_
        rotate_left
        · (intro w hSw; (try dsimp only at hSw); (try simp only [List.getElem_toArray, List.getElem_cons_zero, List.getElem_cons_succ]); go_simp; try with_reducible rfl)
        try simp only [Act.put, List.setIfInBounds_toArray, List.set_cons_zero, List.set_cons_succ]
        refine tkV (i := 7) (d := some 137) (v := ?_) rfl (by kernel_rfl) (by kernel_rfl) (by kernel_rfl) rfl (fun _ _ _ h => h) (by rfl) ?_ (by assumption) ?_
        rotate_left
        · (intro w hSw; (try dsimp only at hSw); (try simp only [List.getElem_toArray, List.getElem_cons_zero, List.getElem_cons_succ]); go_simp; try with_reducible rfl)
        try simp only [Act.put, List.setIfInBounds_toArray, List.set_cons_zero, List.set_cons_succ]
        refine tkV (i := 8) (d := some 138) (v := ?_) rfl (by kernel_rfl) (by kernel_rfl) (by kernel_rfl) rfl (fun _ _ _ h => h) (by rfl) ?_ (by assumption) ?_
        rotate_left
        · (intro w hSw; (try dsimp only at hSw); (try simp only [List.getElem_toArray, List.getElem_cons_zero, List.getElem_cons_succ]); go_simp; try with_reducible rfl)
        try simp only [Act.put, List.setIfInBounds_toArray, List.set_cons_zero, List.set_cons_succ]
        refine tkV (i := 9) (d := some 139) (v := ?_) rfl (by kernel_rfl) (by kernel_rfl) (by kernel_rfl) rfl (fun _ _ _ h => h) (by rfl) ?_ (by assumption) ?_
        rotate_left
        · (intro w hSw; (try dsimp only at hSw); (try simp only [List.getElem_toArray, List.getElem_cons_zero, List.getElem_cons_succ]); go_simp; try with_reducible rfl)
        try simp only [Act.put, List.setIfInBounds_toArray, List.set_cons_zero, List.set_cons_succ]
        refine tkV (i := 10) (d := some 140) (v := ?_) rfl (by kernel_rfl) (by kernel_rfl) (by kernel_rfl) rfl (fun _ _ _ h => h) (by rfl) ?_ (by assumption) ?_
        rotate_left
        · (intro w hSw; (try dsimp only at hSw); (try simp only [List.getElem_toArray, List.getElem_cons_zero, List.getElem_cons_succ]); go_simp; try with_reducible rfl)
        try simp only [Act.put, List.setIfInBounds_toArray, List.set_cons_zero, List.set_cons_succ]
        refine tkV (i := 11) (d := some 141) (v := ?_) rfl (by kernel_rfl) (by kernel_rfl) (by kernel_rfl) rfl (fun _ _ _ h => h) (by rfl) ?_ (by assumption) ?_
        rotate_left
        · (intro w hSw; (try dsimp only at hSw); (try simp only [List.getElem_toArray, List.getElem_cons_zero, List.getElem_cons_succ]); go_simp; try with_reducible rfl)
        try simp only [Act.put, List.setIfInBounds_toArray, List.set_cons_zero, List.set_cons_succ]
        refine wpAnyH_ready (rs := [12]) (by kernel_rfl) (by simp) (AllReadyH.cons rfl (fun K hK => ?_) AllReadyH.nil)
        try simp only [List.getElem_toArray, List.getElem_cons_zero, List.getElem_cons_succ]
        go_simp
        refine (HHo.out _ HBY.out).mono ?_
        rintro r wZ ⟨rfl, hbZ⟩
        have HBZ := hid0 (Below.later HBY.out hbZ)
        have hsZ := HSz.out _ HBZ.out
        clear hbZ
        go_wp2_with fail
        refine hK.out _ _ ?_ (fun hHeld12 => ?_)
        · exact hsZ
        clear hK K
        (try simp only [Act.put]); (try simp only [List.setIfInBounds_toArray]); (try simp only [List.set_cons_succ]); (try simp only [List.set_cons_zero])
        refine tkV (i := 13) (d := some 143) (v := ?_) rfl (by kernel_rfl) (by kernel_rfl) (by kernel_rfl) rfl (fun _ _ _ h => h) (by rfl) ?_ (by assumption) ?_
        rotate_left
        · (intro w hSw; (try dsimp only at hSw); (try simp only [List.getElem_toArray, List.getElem_cons_zero, List.getElem_cons_succ]); go_simp; try with_reducible rfl)
        try simp only [Act.put, List.setIfInBounds_toArray, List.set_cons_zero, List.set_cons_succ]
        refine tkV (i := 14) (d := some 144) (v := .bool true) rfl (by kernel_rfl) (by kernel_rfl) (by kernel_rfl) rfl (fun _ _ _ h => h) (by rfl) ?_ (by assumption) ?_
        · (intro w hSw; (try dsimp only at hSw); (try simp only [List.getElem_toArray, List.getElem_cons_zero, List.getElem_cons_succ]); go_simp; try with_reducible rfl)
        try simp only [Act.put, List.setIfInBounds_toArray, List.set_cons_zero, List.set_cons_succ]
        refine tkV (i := 15) (d := some 2) (v := ?_) rfl (by kernel_rfl) (by kernel_rfl) (by kernel_rfl) rfl (fun _ _ _ h => h) (by rfl) ?_ (by assumption) ?_
        rotate_left
        · (intro w hSw; (try dsimp only at hSw); (try simp only [List.getElem_toArray, List.getElem_cons_zero, List.getElem_cons_succ]); go_simp; try with_reducible rfl)
        try simp only [Act.put, List.setIfInBounds_toArray, List.set_cons_zero, List.set_cons_succ]
        refine wpAnyH_done (by kernel_rfl) ?_ _
        refine NoPanic.normal ?_
        go_wp2
        go_ret
        exact ⟨rfl, Below.later HBb.out (HMX.out.past HBZ.out).bel⟩
      · have hoB : ((l.length : Int) == 1) = false := by simp; have := HZ.out; omega
        rw [eq_set0 tA NA PA l (by have := HZ.out; omega)] at HMz
        have HSz : Hid (∀ V, Below wX.heap.size wX V → V.cell? ⟨wS.heap.size, 0, none⟩ = some (.int .i64 2) ∧ V.cell? ⟨wS.heap.size, 1, none⟩ = some (.bool tA) ∧ V.cell? ⟨wS.heap.size, 2, none⟩ = some (.slice gS (nmK NA 3).length cS) ∧ V.cell? ⟨wS.heap.size, 3, none⟩ = some (.slice hS (ptK PA).length dS) ∧ V.cell? ⟨wS.heap.size, 4, none⟩ = some (.slice none 0 0)) := hid0 (fun V hV => (rowE (kept hV HRX.out)).1)
        have HBd := hid0 (Below.refl wX.heap.size wX).drew
        have hsx := HSz.out _ HBd.out
        refine wp_region_noPanic ?_
        refine wp_region_held_drew (S := (fun V => V.cell? ⟨wS.heap.size, 0, none⟩ = some (.int .i64 2) ∧ V.cell? ⟨wS.heap.size, 1, none⟩ = some (.bool tA) ∧ V.cell? ⟨wS.heap.size, 2, none⟩ = some (.slice gS (nmK NA 3).length cS) ∧ V.cell? ⟨wS.heap.size, 3, none⟩ = some (.slice hS (ptK PA).length dS) ∧ V.cell? ⟨wS.heap.size, 4, none⟩ = some (.slice none 0 0))) (by kernel_rfl) ?_ (fun hHeld => ?_)
        · exact hsx
        refine tkV (i := 0) (d := some 130) (v := ?_) rfl (by kernel_rfl) (by kernel_rfl) (by kernel_rfl) rfl (fun _ _ _ h => h) (by rfl) ?_ (by assumption) ?_
        rotate_left
        · (intro w hSw; (try dsimp only at hSw); (try simp only [List.getElem_toArray, List.getElem_cons_zero]); go_simp; try with_reducible rfl)
        try simp only [Act.put, List.setIfInBounds_toArray, List.set_cons_zero, List.set_cons_succ]
        refine tkV (i := 1) (d := some 131) (v := ?_) rfl (by kernel_rfl) (by kernel_rfl) (by kernel_rfl) rfl (fun _ _ _ h => h) (by rfl) ?_ (by assumption) ?_
        rotate_left
        · (intro w hSw; (try dsimp only at hSw); (try simp only [List.getElem_toArray, List.getElem_cons_zero, List.getElem_cons_succ]); go_simp; try with_reducible rfl)
        try simp only [Act.put, List.setIfInBounds_toArray, List.set_cons_zero, List.set_cons_succ]
        refine tkV (i := 3) (d := some 133) (v := ?_) rfl (by kernel_rfl) (by kernel_rfl) (by kernel_rfl) rfl (fun _ _ _ h => h) (by rfl) ?_ (by assumption) ?_
        rotate_left
        · (intro w hSw; (try dsimp only at hSw); (try simp only [List.getElem_toArray, List.getElem_cons_zero, List.getElem_cons_succ]); go_simp; try with_reducible rfl)
        try simp only [Act.put, List.setIfInBounds_toArray, List.set_cons_zero, List.set_cons_succ]
        refine tkV (i := 4) (d := some 134) (v := ?_) rfl (by kernel_rfl) (by kernel_rfl) (by kernel_rfl) rfl (fun _ _ _ h => h) (by rfl) ?_ (by assumption) ?_
        rotate_left
        · (intro w hSw; (try dsimp only at hSw); (try simp only [List.getElem_toArray, List.getElem_cons_zero, List.getElem_cons_succ]); go_simp; try with_reducible rfl)
        try simp only [Act.put, List.setIfInBounds_toArray, List.set_cons_zero, List.set_cons_succ]
        refine tkV (i := 5) (d := some 135) (v := ?_) rfl (by kernel_rfl) (by kernel_rfl) (by kernel_rfl) rfl (fun _ _ _ h => h) (by rfl) ?_ (by assumption) ?_
        rotate_left
        · (intro w hSw; (try dsimp only at hSw); (try simp only [List.getElem_toArray, List.getElem_cons_zero, List.getElem_cons_succ]); go_simp; try with_reducible rfl)
        try simp only [Act.put, List.setIfInBounds_toArray, List.set_cons_zero, List.set_cons_succ]
        refine wpAnyH_ready (rs := [2]) (by kernel_rfl) (by simp) (AllReadyH.cons rfl (fun K hK => ?_) AllReadyH.nil)
        try simp only [List.getElem_toArray, List.getElem_cons_zero, List.getElem_cons_succ]
        go_simp
        refine (HMz.out _ HBd.out).mono ?_
        rintro r wY ⟨rfl, hbY⟩
        have HBY := hid0 (Below.later HBd.out hbY)
        have hsY := HSz.out _ HBY.out
        clear hbY
        go_wp2_with fail
        refine hK.out _ _ ?_ (fun hHeld2 => ?_)
        · exact hsY
        clear hK K
        (try simp only [Act.put]); (try simp only [List.setIfInBounds_toArray]); (try simp only [List.set_cons_succ]); (try simp only [List.set_cons_zero])
        refine tkV (i := 6) (d := some 136) (v := ?_) rfl (by kernel_rfl) (by kernel_rfl) (by kernel_rfl) rfl (fun _ _ _ h => h) (by rfl) ?_ (by assumption) ?_
        rotate_left
        · (intro w hSw; (try dsimp only at hSw); (try simp only [List.getElem_toArray, List.getElem_cons_zero, List.getElem_cons_succ]); go_simp; try with_reducible rfl)
        try simp only [Act.put, List.setIfInBounds_toArray, List.set_cons_zero, List.set_cons_succ]
        refine tkU (i := 7) (d := some 137) rfl (by kernel_rfl) (by kernel_rfl) (by kernel_rfl) rfl (fun _ _ _ h => h) (by rfl) (by assumption) ?_
        try simp only [Act.put, List.setIfInBounds_toArray, List.set_cons_zero, List.set_cons_succ]
        refine tkU (i := 8) (d := some 138) rfl (by kernel_rfl) (by kernel_rfl) (by kernel_rfl) rfl (fun _ _ _ h => h) (by rfl) (by assumption) ?_
        try simp only [Act.put, List.setIfInBounds_toArray, List.set_cons_zero, List.set_cons_succ]
        refine tkU (i := 9) (d := some 139) rfl (by kernel_rfl) (by kernel_rfl) (by kernel_rfl) rfl (fun _ _ _ h => h) (by rfl) (by assumption) ?_
        try simp only [Act.put, List.setIfInBounds_toArray, List.set_cons_zero, List.set_cons_succ]
        refine tkU (i := 10) (d := some 140) rfl (by kernel_rfl) (by kernel_rfl) (by kernel_rfl) rfl (fun _ _ _ h => h) (by rfl) (by assumption) ?_
        try simp only [Act.put, List.setIfInBounds_toArray, List.set_cons_zero, List.set_cons_succ]
        refine tkU (i := 11) (d := some 141) rfl (by kernel_rfl) (by kernel_rfl) (by kernel_rfl) rfl (fun _ _ _ h => h) (by rfl) (by assumption) ?_
        try simp only [Act.put, List.setIfInBounds_toArray, List.set_cons_zero, List.set_cons_succ]
        refine wpAnyH_ready (rs := [12]) (by kernel_rfl) (by simp) (AllReadyH.cons rfl (fun K hK => ?_) AllReadyH.nil)
        try simp only [List.getElem_toArray, List.getElem_cons_zero, List.getElem_cons_succ]
        go_simp
        refine hK.out _ _ ?_ (fun hHeld12 => ?_)
        · assumption
        clear hK K
        (try simp only [Act.put]); (try simp only [List.setIfInBounds_toArray]); (try simp only [List.set_cons_succ]); (try simp only [List.set_cons_zero])
        refine tkV (i := 13) (d := some 143) (v := ?_) rfl (by kernel_rfl) (by kernel_rfl) (by kernel_rfl) rfl (fun _ _ _ h => h) (by rfl) ?_ (by assumption) ?_
        rotate_left
        · (intro w hSw; (try dsimp only at hSw); (try simp only [List.getElem_toArray, List.getElem_cons_zero, List.getElem_cons_succ]); go_simp; try with_reducible rfl)
        try simp only [Act.put, List.setIfInBounds_toArray, List.set_cons_zero, List.set_cons_succ]
        refine tkV (i := 14) (d := some 144) (v := .bool true) rfl (by kernel_rfl) (by kernel_rfl) (by kernel_rfl) rfl (fun _ _ _ h => h) (by rfl) ?_ (by assumption) ?_
        · (intro w hSw; (try dsimp only at hSw); (try simp only [List.getElem_toArray, List.getElem_cons_zero, List.getElem_cons_succ]); go_simp; try with_reducible rfl)
        try simp only [Act.put, List.setIfInBounds_toArray, List.set_cons_zero, List.set_cons_succ]
        refine tkV (i := 15) (d := some 2) (v := ?_) rfl (by kernel_rfl) (by kernel_rfl) (by kernel_rfl) rfl (fun _ _ _ h => h) (by rfl) ?_ (by assumption) ?_
        rotate_left
        · (intro w hSw; (try dsimp only at hSw); (try simp only [List.getElem_toArray, List.getElem_cons_zero, List.getElem_cons_succ]); go_simp; try with_reducible rfl)
        try simp only [Act.put, List.setIfInBounds_toArray, List.set_cons_zero, List.set_cons_succ]
        refine wpAnyH_done (by kernel_rfl) ?_ _
        refine NoPanic.normal ?_
        go_wp2
        go_ret
        exact ⟨rfl, Below.later HBb.out (HMX.out.past HBY.out).bel⟩
end Go.Proofs.YtolnoojbcbdfiaaDoor
