/-
  ExTt11W, ExTuW, Door, ExOpP, MeaP.
-/
import Derived.Test.YtolnoojbcbdfiaaDoorMnf
import Derived.Test.YtolnoojbcbdfiaaDoorMng
import Derived.Test.YtolnoojbcbdfiaaDoorMnh
import Derived.Test.YtolnoojbcbdfiaaDoorCards
import Derived.Test.YtolnoojbcbdfiaaDoorTie
import Derived.WalkKit
import Derived.ProofKit
import Derived.OpenShut
import Derived.Deep.DeepHandedRow
import Derived.Lib.LaidTab
import Derived.Lib.SmallJoins
import Derived.Test.YtolnoojbcbdfiaaDoorMne
import Derived.Test.YtolnoojbcbdfiaaDoorMnd
import Derived.ChangeSlices
import Derived.Deep.Slices
import Derived.Stop.LaidErr
import Derived.Lib.LaidU8
import Derived.Shelf.Vars
import Derived.Lay
import Derived.LaidMore
namespace Go.Proofs.YtolnoojbcbdfiaaDoor
open Go.RowKit Go.Shelf
set_option maxRecDepth 10000 in
set_option maxHeartbeats 6400000 in
theorem means_11 (eA eB : Ex) (xA xB : EV) (lw : List Kd) (aw : Option Addr) (cw : Nat) (A : Nat → Addr) (w : World) (hA : ExIn w eA xA) (hB : ExIn w eB xB) (hw : KA w w.heap.size aw lw) (hE : E3 w A) (hz : ¬ (wordK lw).length = 0) (hin : mtB (tidyE 3 eA) (wordK lw) = true) :
    Calls Tryd.prog 3 #[.agg #[xA.k, xA.t, xA.n, xA.p, xA.r, xB.k, xB.t, xB.n, xB.p, xB.r, .slice aw lw.length cw]] w fun r w' => r = .returned (.bool true) ∧ Below w.heap.size w w' := by
  have HTA := hid0 (fun (V : World) (hV : Below w.heap.size w V) => tidy_any 3 (by omega) eA V xA (hA.past hV))
  have HTB := hid0 (fun (V : World) (hV : Below w.heap.size w V) => tidy_any 3 (by omega) eB V xB (hB.past hV))
  have HWd := hid0 (fun (V : World) (hV : Below w.heap.size w V) => wordOf_any lw aw cw V ((hw.below hV).up hV.size))
  have HFi := hid0 (fun (V : World) (hV : Below w.heap.size w V) => first_any A V (hE.below hV))
  have HE := hid0 hE
  have HWa := hid0 (tidy3 eA)
  have HWb := hid0 (tidy3 eB)
  have HLe : Hid ((wordK lw).length ≤ 12) := hid0 (by unfold wordK; rw [List.length_map, List.length_take]; omega)
  unfold WordP at HWd
  generalize tidyE 3 eA = a at *
  generalize tidyE 3 eB = b at *
  generalize wordK lw = l at *
  obtain ⟨kA, tA, NA, PA, LA⟩ := eA
  obtain ⟨aA, cA, bA, dA, gA, zA, rfl, hNA, hPA, _⟩ := hA.shape
  obtain ⟨kB, tB, aB, mB, cB, bB, nB, dB, gB, lB, zB, rfl⟩ : ∃ k t a m c b n d g l z, xB = ⟨.int .i64 k, .bool t, .slice a m c, .slice b n d, .slice g l z⟩ := by
    cases hB with
    | mk k nt N P L a ca b cb c cc vs hN hP hL hR => exact ⟨_, _, _, _, _, _, _, _, _, _, _, rfl⟩
  have HSet := hid0 (fun (V : World) (hV : Below w.heap.size w V) => setOf_any tA NA PA aA bA cA dA V (hNA.below hV) (hPA.below hV))
  unfold EV.v at HTA HTB
  simp only [] at HTA HTB ⊢
  clear hA hB hw hE hNA hPA
  obtain ⟨wb, hwb⟩ : ∃ wb, w.alloc (.cells #[.int .i64 kA, .bool tA, .slice aA NA.length cA, .slice bA PA.length dA, .slice gA LA.length zA, .int .i64 kB, .bool tB, .slice aB mB cB, .slice bB nB dB, .slice gB lB zB, .slice aw lw.length cw] 31) = wb := ⟨_, rfl⟩
  obtain ⟨hbb, hrb, hsb⟩ := laid hwb
  have HBb := hid0 hbb
  have HBox : Hid (∀ V, Below wb.heap.size wb V → V.cell? ⟨w.heap.size, 0, none⟩ = some (.int .i64 kA) ∧ V.cell? ⟨w.heap.size, 1, none⟩ = some (.bool tA) ∧ V.cell? ⟨w.heap.size, 2, none⟩ = some (.slice aA NA.length cA) ∧ V.cell? ⟨w.heap.size, 3, none⟩ = some (.slice bA PA.length dA) ∧ V.cell? ⟨w.heap.size, 4, none⟩ = some (.slice gA LA.length zA) ∧ V.cell? ⟨w.heap.size, 5, none⟩ = some (.int .i64 kB) ∧ V.cell? ⟨w.heap.size, 6, none⟩ = some (.bool tB) ∧ V.cell? ⟨w.heap.size, 7, none⟩ = some (.slice aB mB cB) ∧ V.cell? ⟨w.heap.size, 8, none⟩ = some (.slice bB nB dB) ∧ V.cell? ⟨w.heap.size, 9, none⟩ = some (.slice gB lB zB) ∧ V.cell? ⟨w.heap.size, 10, none⟩ = some (.slice aw lw.length cw)) := hid0 (fun V hV => by
    have hr := kept hV hrb
    refine ⟨?_, ?_, ?_, ?_, ?_, ?_, ?_, ?_, ?_, ?_, ?_⟩ <;> (rw [cell_of_row _ _ _ _ _ _ hr]; rfl))
  have hc0 := HBox.out wb (Below.refl _ _)
  clear hbb hrb hsb
  have HL4 : Hid ((gl 4 a ++ gl 4 b).length ≤ 1000000) := hid0 (by
    have h1 := len_le_sizes (gl 4 a)
    have h2 := len_le_sizes (gl 4 b)
    have h3 := gl_size 4 a
    have h4 := gl_size 4 b
    have h5 := HWa.out.2
    have h6 := HWb.out.2
    rw [List.length_append]
    omega)
  have HG1 := hid0 (fun (V : World) (x : EV) (hx : ExIs V tt a x) => glued_any 4 [] [] (.slice none 0 0) a x tt V.heap.size V (PE.nil _ _ _) (hx.mono (fun g _ h => ⟨h, by simp [Value.ownBlock]⟩)) (Nat.le_refl _) (by have := parts_le (e := a); have := HWa.out.2; simp; omega))
  have HG2 := hid0 (fun (W V : World) (v : Value) (xs : List EV) (y : EV) (hy : ExIs W tt b y) (hg : Gr W V (.slice none 0 0) v) (hp : PE V W.heap.size tt v (gl 4 a) xs) => glued_any 4 (gl 4 a) xs v b y tt W.heap.size V hp ((hy.mono (fun g _ h => ⟨h, by simp [Value.ownBlock]⟩)).grow hg) hg.grow.size (by
    have h1 := len_le_sizes (gl 4 a)
    have h3 := gl_size 4 a
    have h5 := HWa.out.2
    have := parts_le (e := b)
    have := HWb.out.2
    omega))
  simp only [List.nil_append] at HG1
  have HZ := hid0 hz
  clear hz
  go_enter Tryd.func3, Tryd.ntmps3
  go_wp2_with (first
    | (go_at_call 8
       refine (HG2.out w4 w5 _ xs5 _ HIb4.out HGr5.out HP5.out).mono ?_
       rintro r w6 ⟨v6, xs6, rfl, q1, q2⟩
       have hg6 := HGr5.out.trans q2
       have hb6 : Below w4.heap.size w4 w6 := hg6.below (Below.refl _ _) (Nat.le_refl _) (fun q e => (by simp [Value.ownBlock] at e))
       obtain ⟨gT, zT, rfl, hT⟩ := q1.ex (fun _ _ => trivial) (by have := HL4.out; omega) 4
       generalize hlT : (gl 4 a ++ gl 4 b).length = lT at *
       obtain ⟨w7, hw7⟩ : ∃ w7, w6.alloc (.cells #[.int .i64 4, .bool false, .slice none 0 0, .slice none 0 0, .slice gT lT zT] 28) = w7 := ⟨_, rfl⟩
       obtain ⟨w8, hw8⟩ : ∃ w8, w7.alloc (.cells #[.int .i64 k1, .bool t1, .slice a1 m1 c1, .slice b1 n1 d1, .slice g1 l1 z1] 28) = w8 := ⟨_, rfl⟩
       obtain ⟨w9, hw9⟩ : ∃ w9, w8.alloc (.cells #[.int .i64 5, .bool false, .slice none 0 0, .slice none 0 0, .slice (some ⟨w7.heap.size, 0, none⟩) 1 1] 28) = w9 := ⟨_, rfl⟩
       obtain ⟨w10, hw10⟩ : ∃ w10, w9.alloc (.cells #[.int .i64 k1, .bool t1, .slice a1 m1 c1, .slice b1 n1 d1, .slice g1 l1 z1] 28) = w10 := ⟨_, rfl⟩
       obtain ⟨w11, hw11⟩ : ∃ w11, w10.alloc (.cells #[.int .i64 6, .bool false, .slice none 0 0, .slice none 0 0, .slice (some ⟨w9.heap.size, 0, none⟩) 1 1] 28) = w11 := ⟨_, rfl⟩
       obtain ⟨w12, hw12⟩ : ∃ w12, w11.alloc (.cells #[.int .i64 k1, .bool t1, .slice a1 m1 c1, .slice b1 n1 d1, .slice g1 l1 z1] 28) = w12 := ⟨_, rfl⟩
       obtain ⟨w13, hw13⟩ : ∃ w13, w12.alloc (.cells #[.int .i64 7, .bool false, .slice none 0 0, .slice none 0 0, .slice (some ⟨w11.heap.size, 0, none⟩) 1 1] 28) = w13 := ⟨_, rfl⟩
       obtain ⟨ra7, ra9, ra11, hb13, hM13⟩ := means_world wb w6 w7 w8 w9 w10 w11 w12 w13 (Below.later HB4.out hb6) (HE4.out.below hb6) (HWv4.out.past hb6) (HIa4.out.past hb6) (HIb4.out.past hb6) hT (HRa4.out.past hb6) (HRb4.out.past hb6) hw7 hw8 hw9 hw10 hw11 hw12 hw13
       have HM13 := hid0 hM13
       obtain ⟨⟨e0, e1, e2, e3, e4⟩, _⟩ := rowE ra7
       obtain ⟨⟨f0, f1, f2, f3, f4⟩, _⟩ := rowE ra9
       obtain ⟨⟨i0, i1, i2, i3, i4⟩, _⟩ := rowE ra11
       obtain ⟨⟨j0, j1, j2, j3, j4⟩, _⟩ := rowE hM13.ra
       have HMa := hid0 (fun (V : World) (h : MW wb V A a b l (.slice av l.length cv) w1.heap.size w2.heap.size w6.heap.size w8.heap.size w10.heap.size w12.heap.size ⟨.int .i64 k1, .bool t1, .slice a1 m1 c1, .slice b1 n1 d1, .slice g1 l1 z1⟩ ⟨.int .i64 k2, .bool t2, .slice a2 m2 c2, .slice b2 n2 d2, .slice g2 l2 z2⟩ ⟨.int .i64 4, .bool false, .slice none 0 0, .slice none 0 0, .slice gT lT zT⟩ (onV 5 w7.heap.size) (onV 6 w9.heap.size) (onV 7 w11.heap.size)) => match_at a _ tt l av cv A V (by have := HLe.out; omega) h.ia h.e3 h.wv.ka)
       unfold EV.v at HMa
       simp only [] at HMa
       rw [hin] at HMa
       clear hg6 hb6 hT hb13 hM13 ra7 ra9 ra11 q1 q2)
    | (go_at_call 8
       refine (HG1.out w4 _ HIa4.out).mono ?_
       rintro r w5 ⟨v5, xs5, rfl, q1, q2⟩
       have HP5 := hid0 q1
       have HGr5 := hid0 q2
       have hb5 : Below w4.heap.size w4 w5 := q2.below (Below.refl _ _) (Nat.le_refl _) (fun q e => (by simp [Value.ownBlock] at e))
       obtain ⟨⟨e0, e1, e2, e3, e4⟩, _⟩ := rowE (HRb4.out.past hb5)
       clear q1 q2 hb5)
    | (go_at_call 7
       refine (HFi.out w3 (Below.later HBb.out HB3.out)).mono ?_
       rintro r w4 ⟨rfl, hb4⟩
       have HB4 := hid0 (Below.later HB3.out hb4)
       have HE4 := hid0 (HE.out.below (Below.later HBb.out HB4.out))
       have HIa4 := hid0 (HIa3.out.past hb4)
       have HIb4 := hid0 (HIb3.out.past hb4)
       have HRa4 := hid0 (HRa3.out.past hb4)
       have HRb4 := hid0 (HRb3.out.past hb4)
       have HWv4 := hid0 (HWv3.out.past hb4)
       obtain ⟨⟨s0, s1, s2, s3, s4⟩, _⟩ := rowE HRa4.out
       clear hb4)
    | (go_at_call 6
       refine (HWd.out _ (Below.later HBb.out HB2.out)).mono ?_
       rintro r w3 ⟨vw, rfl, q1, q2⟩
       have HB3 := hid0 (Below.later HB2.out q2)
       have hwv := q1.wv
       obtain ⟨av, cv, rfl, _⟩ := hwv.form
       have HWv3 := hid0 hwv
       have HIa3 := hid0 (HIa2.out.past q2)
       have HIb3 := hid0 (HIb2.out.past q2)
       have HRa3 := hid0 (HRa2.out.past q2)
       have HRb3 := hid0 (HRb2.out.past q2)
       clear q1 q2 hwv)
    | (go_at_call 5
       refine (HTB.out _ (Below.later HBb.out HB1.out)).mono ?_
       rintro r w2 hr
       obtain ⟨k2, t2, a2, m2, c2, b2, n2, d2, g2, l2, z2, rfl, q1, q2⟩ := hr.shape
       obtain ⟨v2, hv2⟩ : ∃ v2, w2.alloc (.cells #[.int .i64 k2, .bool t2, .slice a2 m2 c2, .slice b2 n2 d2, .slice g2 l2 z2] 28) = v2 := ⟨_, rfl⟩
       obtain ⟨b2', r2', _⟩ := laid hv2
       have HB2 := hid0 (Below.later (Below.later HB1.out q2) b2')
       have HIb2 := hid0 ((q1.past b2').tt)
       have HRb2 : Hid (R5 v2 w2.heap.size ⟨.int .i64 k2, .bool t2, .slice a2 m2 c2, .slice b2 n2 d2, .slice g2 l2 z2⟩) := hid0 r2'
       have HIa2 := hid0 ((HIa1.out.past q2).past b2')
       have HRa2 := hid0 ((HRa1.out.past q2).past b2')
       have hc2 := HBox.out v2 HB2.out
       clear hr q1 q2 b2' r2')
    | (go_at_call 5
       refine (HTA.out _ HBb.out).mono ?_
       rintro r w1 hr
       obtain ⟨k1, t1, a1, m1, c1, b1, n1, d1, g1, l1, z1, rfl, q1, q2⟩ := hr.shape
       obtain ⟨v1, hv1⟩ : ∃ v1, w1.alloc (.cells #[.int .i64 k1, .bool t1, .slice a1 m1 c1, .slice b1 n1 d1, .slice g1 l1 z1] 28) = v1 := ⟨_, rfl⟩
       obtain ⟨b1', r1', _⟩ := laid hv1
       have HB1 := hid0 (Below.later q2 b1')
       have HIa1 := hid0 ((q1.past b1').tt)
       have HRa1 : Hid (R5 v1 w1.heap.size ⟨.int .i64 k1, .bool t1, .slice a1 m1 c1, .slice b1 n1 d1, .slice g1 l1 z1⟩) := hid0 r1'
       have hc1 := HBox.out v1 HB1.out
       clear hr q1 q2 b1' r1')
    | (go_at_call 9
       refine (HMa.out w13 HM13.out).mono ?_
       rintro r w14 ⟨rfl, hb14⟩
       have HM14 := hid0 (HM13.out.past hb14)
       clear hb14)
    | fail)
  obtain ⟨gw, ow, hlc, rfl⟩ : ∃ gw ow, l.length ≤ cv ∧ av = some ⟨gw, ow, none⟩ := by
    have h := HM14.out.wv
    generalize hv : (Value.slice av l.length cv) = vv at h
    cases h with
    | none => exact absurd rfl HZ.out
    | some g off c _ hc h =>
      cases hv
      exact ⟨g, off, hc, rfl⟩
  have HSq := hid0 (fun (V : World) (h : MW wb V A a b l (.slice (some ⟨gw, ow, none⟩) l.length cv) w1.heap.size w2.heap.size w6.heap.size w8.heap.size w10.heap.size w12.heap.size ⟨.int .i64 k1, .bool t1, .slice a1 m1 c1, .slice b1 n1 d1, .slice g1 l1 z1⟩ ⟨.int .i64 k2, .bool t2, .slice a2 m2 c2, .slice b2 n2 d2, .slice g2 l2 z2⟩ ⟨.int .i64 4, .bool false, .slice none 0 0, .slice none 0 0, .slice gT lT zT⟩ (onV 5 w7.heap.size) (onV 6 w9.heap.size) (onV 7 w11.heap.size)) => seq_any a b _ _ tt tt V h.ia h.ib (by have := parts_le (e := a); have := HWa.out.2; omega) (by have := parts_le (e := b); have := HWb.out.2; omega))
  have HMs := hid0 (fun (V : World) (h : MW wb V A a b l (.slice (some ⟨gw, ow, none⟩) l.length cv) w1.heap.size w2.heap.size w6.heap.size w8.heap.size w10.heap.size w12.heap.size ⟨.int .i64 k1, .bool t1, .slice a1 m1 c1, .slice b1 n1 d1, .slice g1 l1 z1⟩ ⟨.int .i64 k2, .bool t2, .slice a2 m2 c2, .slice b2 n2 d2, .slice g2 l2 z2⟩ ⟨.int .i64 4, .bool false, .slice none 0 0, .slice none 0 0, .slice gT lT zT⟩ (onV 5 w7.heap.size) (onV 6 w9.heap.size) (onV 7 w11.heap.size)) (y : EV) (hy : ExIs V (fun _ => True) (nodeE 3 (gl 3 a ++ gl 3 b)) y) => match_at (nodeE 3 (gl 3 a ++ gl 3 b)) y (fun _ => True) l (some ⟨gw, ow, none⟩) cv A V (by have := HLe.out; omega) hy h.e3 h.wv.ka)
  have HSp := hid0 (fun (V : World) (h : MW wb V A a b l (.slice (some ⟨gw, ow, none⟩) l.length cv) w1.heap.size w2.heap.size w6.heap.size w8.heap.size w10.heap.size w12.heap.size ⟨.int .i64 k1, .bool t1, .slice a1 m1 c1, .slice b1 n1 d1, .slice g1 l1 z1⟩ ⟨.int .i64 k2, .bool t2, .slice a2 m2 c2, .slice b2 n2 d2, .slice g2 l2 z2⟩ ⟨.int .i64 4, .bool false, .slice none 0 0, .slice none 0 0, .slice gT lT zT⟩ (onV 5 w7.heap.size) (onV 6 w9.heap.size) (onV 7 w11.heap.size)) => split_any a b _ _ tt tt l _ A V HLe.out h.ia h.ib h.e3 h.wv)
  have HMt := hid0 (fun (V : World) (h : MW wb V A a b l (.slice (some ⟨gw, ow, none⟩) l.length cv) w1.heap.size w2.heap.size w6.heap.size w8.heap.size w10.heap.size w12.heap.size ⟨.int .i64 k1, .bool t1, .slice a1 m1 c1, .slice b1 n1 d1, .slice g1 l1 z1⟩ ⟨.int .i64 k2, .bool t2, .slice a2 m2 c2, .slice b2 n2 d2, .slice g2 l2 z2⟩ ⟨.int .i64 4, .bool false, .slice none 0 0, .slice none 0 0, .slice gT lT zT⟩ (onV 5 w7.heap.size) (onV 6 w9.heap.size) (onV 7 w11.heap.size)) => match_at (.mk 4 false [] [] (gl 4 a ++ gl 4 b)) _ tt l (some ⟨gw, ow, none⟩) cv A V (by have := HLe.out; omega) h.it h.e3 h.wv.ka)
  have HMb := hid0 (fun (V : World) (h : MW wb V A a b l (.slice (some ⟨gw, ow, none⟩) l.length cv) w1.heap.size w2.heap.size w6.heap.size w8.heap.size w10.heap.size w12.heap.size ⟨.int .i64 k1, .bool t1, .slice a1 m1 c1, .slice b1 n1 d1, .slice g1 l1 z1⟩ ⟨.int .i64 k2, .bool t2, .slice a2 m2 c2, .slice b2 n2 d2, .slice g2 l2 z2⟩ ⟨.int .i64 4, .bool false, .slice none 0 0, .slice none 0 0, .slice gT lT zT⟩ (onV 5 w7.heap.size) (onV 6 w9.heap.size) (onV 7 w11.heap.size)) => match_at b _ tt l (some ⟨gw, ow, none⟩) cv A V (by have := HLe.out; omega) h.ib h.e3 h.wv.ka)
  have HMo := hid0 (fun (V : World) (h : MW wb V A a b l (.slice (some ⟨gw, ow, none⟩) l.length cv) w1.heap.size w2.heap.size w6.heap.size w8.heap.size w10.heap.size w12.heap.size ⟨.int .i64 k1, .bool t1, .slice a1 m1 c1, .slice b1 n1 d1, .slice g1 l1 z1⟩ ⟨.int .i64 k2, .bool t2, .slice a2 m2 c2, .slice b2 n2 d2, .slice g2 l2 z2⟩ ⟨.int .i64 4, .bool false, .slice none 0 0, .slice none 0 0, .slice gT lT zT⟩ (onV 5 w7.heap.size) (onV 6 w9.heap.size) (onV 7 w11.heap.size)) => match_at (.mk 7 false [] [] [a]) _ tt l (some ⟨gw, ow, none⟩) cv A V (by have := HLe.out; omega) h.io h.e3 h.wv.ka)
  have HMst := hid0 (fun (V : World) (h : MW wb V A a b l (.slice (some ⟨gw, ow, none⟩) l.length cv) w1.heap.size w2.heap.size w6.heap.size w8.heap.size w10.heap.size w12.heap.size ⟨.int .i64 k1, .bool t1, .slice a1 m1 c1, .slice b1 n1 d1, .slice g1 l1 z1⟩ ⟨.int .i64 k2, .bool t2, .slice a2 m2 c2, .slice b2 n2 d2, .slice g2 l2 z2⟩ ⟨.int .i64 4, .bool false, .slice none 0 0, .slice none 0 0, .slice gT lT zT⟩ (onV 5 w7.heap.size) (onV 6 w9.heap.size) (onV 7 w11.heap.size)) => match_at (.mk 5 false [] [] [a]) _ tt l (some ⟨gw, ow, none⟩) cv A V (by have := HLe.out; omega) h.is h.e3 h.wv.ka)
  have HMpl := hid0 (fun (V : World) (h : MW wb V A a b l (.slice (some ⟨gw, ow, none⟩) l.length cv) w1.heap.size w2.heap.size w6.heap.size w8.heap.size w10.heap.size w12.heap.size ⟨.int .i64 k1, .bool t1, .slice a1 m1 c1, .slice b1 n1 d1, .slice g1 l1 z1⟩ ⟨.int .i64 k2, .bool t2, .slice a2 m2 c2, .slice b2 n2 d2, .slice g2 l2 z2⟩ ⟨.int .i64 4, .bool false, .slice none 0 0, .slice none 0 0, .slice gT lT zT⟩ (onV 5 w7.heap.size) (onV 6 w9.heap.size) (onV 7 w11.heap.size)) => match_at (.mk 6 false [] [] [a]) _ tt l (some ⟨gw, ow, none⟩) cv A V (by have := HLe.out; omega) h.ip h.e3 h.wv.ka)
  have HSp2 := hid0 (fun (V : World) (h : MW wb V A a b l (.slice (some ⟨gw, ow, none⟩) l.length cv) w1.heap.size w2.heap.size w6.heap.size w8.heap.size w10.heap.size w12.heap.size ⟨.int .i64 k1, .bool t1, .slice a1 m1 c1, .slice b1 n1 d1, .slice g1 l1 z1⟩ ⟨.int .i64 k2, .bool t2, .slice a2 m2 c2, .slice b2 n2 d2, .slice g2 l2 z2⟩ ⟨.int .i64 4, .bool false, .slice none 0 0, .slice none 0 0, .slice gT lT zT⟩ (onV 5 w7.heap.size) (onV 6 w9.heap.size) (onV 7 w11.heap.size)) => split_any a (.mk 5 false [] [] [a]) _ _ tt tt l _ A V HLe.out h.ia h.is h.e3 h.wv)
  have HSk13 := hid0 (fun (V : World) (h : MW wb V A a b l (.slice (some ⟨gw, ow, none⟩) l.length cv) w1.heap.size w2.heap.size w6.heap.size w8.heap.size w10.heap.size w12.heap.size ⟨.int .i64 k1, .bool t1, .slice a1 m1 c1, .slice b1 n1 d1, .slice g1 l1 z1⟩ ⟨.int .i64 k2, .bool t2, .slice a2 m2 c2, .slice b2 n2 d2, .slice g2 l2 z2⟩ ⟨.int .i64 4, .bool false, .slice none 0 0, .slice none 0 0, .slice gT lT zT⟩ (onV 5 w7.heap.size) (onV 6 w9.heap.size) (onV 7 w11.heap.size)) => (show (V.cell? ⟨w1.heap.size, 0, none⟩ = some (.int .i64 k1) ∧ V.cell? ⟨w1.heap.size, 1, none⟩ = some (.bool t1) ∧ V.cell? ⟨w1.heap.size, 2, none⟩ = some (.slice a1 m1 c1) ∧ V.cell? ⟨w1.heap.size, 3, none⟩ = some (.slice b1 n1 d1) ∧ V.cell? ⟨w1.heap.size, 4, none⟩ = some (.slice g1 l1 z1)) ∧ (V.cell? ⟨w2.heap.size, 0, none⟩ = some (.int .i64 k2) ∧ V.cell? ⟨w2.heap.size, 1, none⟩ = some (.bool t2) ∧ V.cell? ⟨w2.heap.size, 2, none⟩ = some (.slice a2 m2 c2) ∧ V.cell? ⟨w2.heap.size, 3, none⟩ = some (.slice b2 n2 d2) ∧ V.cell? ⟨w2.heap.size, 4, none⟩ = some (.slice g2 l2 z2)) ∧ (V.cell? ⟨w6.heap.size, 0, none⟩ = some (.int .i64 4) ∧ V.cell? ⟨w6.heap.size, 1, none⟩ = some (.bool false) ∧ V.cell? ⟨w6.heap.size, 2, none⟩ = some (.slice none 0 0) ∧ V.cell? ⟨w6.heap.size, 3, none⟩ = some (.slice none 0 0) ∧ V.cell? ⟨w6.heap.size, 4, none⟩ = some (.slice gT lT zT)) ∧ V.cell? ⟨w12.heap.size, 0, none⟩ = some (.int .i64 7) ∧ V.cell? ⟨w12.heap.size, 1, none⟩ = some (.bool false) ∧ V.cell? ⟨w12.heap.size, 2, none⟩ = some (.slice none 0 0) ∧ V.cell? ⟨w12.heap.size, 3, none⟩ = some (.slice none 0 0) ∧ V.cell? ⟨w12.heap.size, 4, none⟩ = some (.slice (some ⟨w11.heap.size, 0, none⟩) 1 1) from ⟨(rowE h.ra).1, (rowE h.rb).1, (rowE h.rt).1, (rowE h.ro).1⟩))
  have HSk19 := hid0 (fun (V : World) (h : MW wb V A a b l (.slice (some ⟨gw, ow, none⟩) l.length cv) w1.heap.size w2.heap.size w6.heap.size w8.heap.size w10.heap.size w12.heap.size ⟨.int .i64 k1, .bool t1, .slice a1 m1 c1, .slice b1 n1 d1, .slice g1 l1 z1⟩ ⟨.int .i64 k2, .bool t2, .slice a2 m2 c2, .slice b2 n2 d2, .slice g2 l2 z2⟩ ⟨.int .i64 4, .bool false, .slice none 0 0, .slice none 0 0, .slice gT lT zT⟩ (onV 5 w7.heap.size) (onV 6 w9.heap.size) (onV 7 w11.heap.size)) => (show (V.cell? ⟨w1.heap.size, 0, none⟩ = some (.int .i64 k1) ∧ V.cell? ⟨w1.heap.size, 1, none⟩ = some (.bool t1) ∧ V.cell? ⟨w1.heap.size, 2, none⟩ = some (.slice a1 m1 c1) ∧ V.cell? ⟨w1.heap.size, 3, none⟩ = some (.slice b1 n1 d1) ∧ V.cell? ⟨w1.heap.size, 4, none⟩ = some (.slice g1 l1 z1)) ∧ V.cell? ⟨w8.heap.size, 0, none⟩ = some (.int .i64 5) ∧ V.cell? ⟨w8.heap.size, 1, none⟩ = some (.bool false) ∧ V.cell? ⟨w8.heap.size, 2, none⟩ = some (.slice none 0 0) ∧ V.cell? ⟨w8.heap.size, 3, none⟩ = some (.slice none 0 0) ∧ V.cell? ⟨w8.heap.size, 4, none⟩ = some (.slice (some ⟨w7.heap.size, 0, none⟩) 1 1) from ⟨(rowE h.ra).1, (rowE h.rs).1⟩))
  have HSk20 := hid0 (fun (V : World) (h : MW wb V A a b l (.slice (some ⟨gw, ow, none⟩) l.length cv) w1.heap.size w2.heap.size w6.heap.size w8.heap.size w10.heap.size w12.heap.size ⟨.int .i64 k1, .bool t1, .slice a1 m1 c1, .slice b1 n1 d1, .slice g1 l1 z1⟩ ⟨.int .i64 k2, .bool t2, .slice a2 m2 c2, .slice b2 n2 d2, .slice g2 l2 z2⟩ ⟨.int .i64 4, .bool false, .slice none 0 0, .slice none 0 0, .slice gT lT zT⟩ (onV 5 w7.heap.size) (onV 6 w9.heap.size) (onV 7 w11.heap.size)) => (show (V.cell? ⟨w1.heap.size, 0, none⟩ = some (.int .i64 k1) ∧ V.cell? ⟨w1.heap.size, 1, none⟩ = some (.bool t1) ∧ V.cell? ⟨w1.heap.size, 2, none⟩ = some (.slice a1 m1 c1) ∧ V.cell? ⟨w1.heap.size, 3, none⟩ = some (.slice b1 n1 d1) ∧ V.cell? ⟨w1.heap.size, 4, none⟩ = some (.slice g1 l1 z1)) ∧ (V.cell? ⟨w8.heap.size, 0, none⟩ = some (.int .i64 5) ∧ V.cell? ⟨w8.heap.size, 1, none⟩ = some (.bool false) ∧ V.cell? ⟨w8.heap.size, 2, none⟩ = some (.slice none 0 0) ∧ V.cell? ⟨w8.heap.size, 3, none⟩ = some (.slice none 0 0) ∧ V.cell? ⟨w8.heap.size, 4, none⟩ = some (.slice (some ⟨w7.heap.size, 0, none⟩) 1 1)) ∧ V.cell? ⟨w10.heap.size, 0, none⟩ = some (.int .i64 6) ∧ V.cell? ⟨w10.heap.size, 1, none⟩ = some (.bool false) ∧ V.cell? ⟨w10.heap.size, 2, none⟩ = some (.slice none 0 0) ∧ V.cell? ⟨w10.heap.size, 3, none⟩ = some (.slice none 0 0) ∧ V.cell? ⟨w10.heap.size, 4, none⟩ = some (.slice (some ⟨w9.heap.size, 0, none⟩) 1 1) from ⟨(rowE h.ra).1, (rowE h.rs).1, (rowE h.rp).1⟩))
  have HMh := hid0 (fun (j : Nat) (hj : j ≤ l.length) (V : World) (h : MW wb V A a b l (.slice (some ⟨gw, ow, none⟩) l.length cv) w1.heap.size w2.heap.size w6.heap.size w8.heap.size w10.heap.size w12.heap.size ⟨.int .i64 k1, .bool t1, .slice a1 m1 c1, .slice b1 n1 d1, .slice g1 l1 z1⟩ ⟨.int .i64 k2, .bool t2, .slice a2 m2 c2, .slice b2 n2 d2, .slice g2 l2 z2⟩ ⟨.int .i64 4, .bool false, .slice none 0 0, .slice none 0 0, .slice gT lT zT⟩ (onV 5 w7.heap.size) (onV 6 w9.heap.size) (onV 7 w11.heap.size)) => match_head a _ tt l gw ow cv j A V HLe.out hj h.ia h.e3 h.wv.ka)
  have HMtl := hid0 (fun (j : Nat) (V : World) (h : MW wb V A a b l (.slice (some ⟨gw, ow, none⟩) l.length cv) w1.heap.size w2.heap.size w6.heap.size w8.heap.size w10.heap.size w12.heap.size ⟨.int .i64 k1, .bool t1, .slice a1 m1 c1, .slice b1 n1 d1, .slice g1 l1 z1⟩ ⟨.int .i64 k2, .bool t2, .slice a2 m2 c2, .slice b2 n2 d2, .slice g2 l2 z2⟩ ⟨.int .i64 4, .bool false, .slice none 0 0, .slice none 0 0, .slice gT lT zT⟩ (onV 5 w7.heap.size) (onV 6 w9.heap.size) (onV 7 w11.heap.size)) => match_tail (.mk 5 false [] [] [a]) _ tt l gw ow cv j A V HLe.out hlc h.is h.e3 h.wv.ka)
  unfold EV.v at HSq HSp HMt HMb HMo HMst HMpl HSp2 HMh HMtl
  simp only [onV] at HSq HSp HMt HMb HMo HMst HMpl HSp2 HMh HMtl HMs HM14 HSk13 HSk19 HSk20
  rw [eq_seq HWa.out.1 HWb.out.1 HWa.out.2 HWb.out.2] at HMs
  rw [eq_alt HWa.out.1 HWb.out.1 HWa.out.2 HWb.out.2, hin, Bool.true_or] at HMt
  have hzB : ((l.length : Int) == 0) = false := by simp; intro e; have h := HZ.out; rw [e] at h; exact h rfl
  rw [eq_opt HWa.out.1 HWa.out.2, hin, Bool.true_or] at HMo
  rw [eq_star HWa.out.1 HWa.out.2, hzB, Bool.false_or] at HMst
  rw [eq_plus HWa.out.1 HWa.out.2] at HMpl
  generalize splitB a b l = sp at *
  generalize splitB a (.mk 5 false [] [] [a]) l = sp2 at *
  generalize mtB b l = mb at *
  have hlI0 : (0 : Int) ≤ (l.length : Int) := by omega
  have HMd := hid0 (HM14.out.past (Below.refl w14.heap.size w14).drew)
  have hsd := HSk13.out _ HMd.out
  clear HMa HTA HTB HWd HFi HG1 HG2
  refine wp_region_noPanic ?_
  refine wp_region_held_drew (S := (fun V => (V.cell? ⟨w1.heap.size, 0, none⟩ = some (.int .i64 k1) ∧ V.cell? ⟨w1.heap.size, 1, none⟩ = some (.bool t1) ∧ V.cell? ⟨w1.heap.size, 2, none⟩ = some (.slice a1 m1 c1) ∧ V.cell? ⟨w1.heap.size, 3, none⟩ = some (.slice b1 n1 d1) ∧ V.cell? ⟨w1.heap.size, 4, none⟩ = some (.slice g1 l1 z1)) ∧ (V.cell? ⟨w2.heap.size, 0, none⟩ = some (.int .i64 k2) ∧ V.cell? ⟨w2.heap.size, 1, none⟩ = some (.bool t2) ∧ V.cell? ⟨w2.heap.size, 2, none⟩ = some (.slice a2 m2 c2) ∧ V.cell? ⟨w2.heap.size, 3, none⟩ = some (.slice b2 n2 d2) ∧ V.cell? ⟨w2.heap.size, 4, none⟩ = some (.slice g2 l2 z2)) ∧ (V.cell? ⟨w6.heap.size, 0, none⟩ = some (.int .i64 4) ∧ V.cell? ⟨w6.heap.size, 1, none⟩ = some (.bool false) ∧ V.cell? ⟨w6.heap.size, 2, none⟩ = some (.slice none 0 0) ∧ V.cell? ⟨w6.heap.size, 3, none⟩ = some (.slice none 0 0) ∧ V.cell? ⟨w6.heap.size, 4, none⟩ = some (.slice gT lT zT)) ∧ V.cell? ⟨w12.heap.size, 0, none⟩ = some (.int .i64 7) ∧ V.cell? ⟨w12.heap.size, 1, none⟩ = some (.bool false) ∧ V.cell? ⟨w12.heap.size, 2, none⟩ = some (.slice none 0 0) ∧ V.cell? ⟨w12.heap.size, 3, none⟩ = some (.slice none 0 0) ∧ V.cell? ⟨w12.heap.size, 4, none⟩ = some (.slice (some ⟨w11.heap.size, 0, none⟩) 1 1))) (by kernel_rfl) ?_ (fun hHeld => ?_)
  · exact hsd
  refine tkV (i := 0) (d := some 46) (v := ?_) rfl (by kernel_rfl) (by kernel_rfl) (by kernel_rfl) rfl (fun _ _ _ h => h) (by rfl) ?_ (by assumption) ?_
  rotate_left
  · (intro w hSw; (try dsimp only at hSw); (try simp only [List.getElem_toArray, List.getElem_cons_zero]); go_simp; try with_reducible rfl)
  try simp only [Act.put, List.setIfInBounds_toArray, List.set_cons_zero, List.set_cons_succ]
  refine tkV (i := 1) (d := some 47) (v := ?_) rfl (by kernel_rfl) (by kernel_rfl) (by kernel_rfl) rfl (fun _ _ _ h => h) (by rfl) ?_ (by assumption) ?_
  rotate_left
  · (intro w hSw; (try dsimp only at hSw); (try simp only [List.getElem_toArray, List.getElem_cons_zero, List.getElem_cons_succ]); go_simp; try with_reducible rfl)
  try simp only [Act.put, List.setIfInBounds_toArray, List.set_cons_zero, List.set_cons_succ]
  refine tkV (i := 2) (d := some 48) (v := ?_) rfl (by kernel_rfl) (by kernel_rfl) (by kernel_rfl) rfl (fun _ _ _ h => h) (by rfl) ?_ (by assumption) ?_
  rotate_left
  · (intro w hSw; (try dsimp only at hSw); (try simp only [List.getElem_toArray, List.getElem_cons_zero, List.getElem_cons_succ]); go_simp; try with_reducible rfl)
  try simp only [Act.put, List.setIfInBounds_toArray, List.set_cons_zero, List.set_cons_succ]
  refine tkV (i := 3) (d := some 49) (v := ?_) rfl (by kernel_rfl) (by kernel_rfl) (by kernel_rfl) rfl (fun _ _ _ h => h) (by rfl) ?_ (by assumption) ?_
  rotate_left
  · (intro w hSw; (try dsimp only at hSw); (try simp only [List.getElem_toArray, List.getElem_cons_zero, List.getElem_cons_succ]); go_simp; try with_reducible rfl)
  try simp only [Act.put, List.setIfInBounds_toArray, List.set_cons_zero, List.set_cons_succ]
  refine tkV (i := 4) (d := some 50) (v := ?_) rfl (by kernel_rfl) (by kernel_rfl) (by kernel_rfl) rfl (fun _ _ _ h => h) (by rfl) ?_ (by assumption) ?_
  rotate_left
  · (intro w hSw; (try dsimp only at hSw); (try simp only [List.getElem_toArray, List.getElem_cons_zero, List.getElem_cons_succ]); go_simp; try with_reducible rfl)
  try simp only [Act.put, List.setIfInBounds_toArray, List.set_cons_zero, List.set_cons_succ]
  refine tkV (i := 6) (d := some 52) (v := ?_) rfl (by kernel_rfl) (by kernel_rfl) (by kernel_rfl) rfl (fun _ _ _ h => h) (by rfl) ?_ (by assumption) ?_
  rotate_left
  · (intro w hSw; (try dsimp only at hSw); (try simp only [List.getElem_toArray, List.getElem_cons_zero, List.getElem_cons_succ]); go_simp; try with_reducible rfl)
  try simp only [Act.put, List.setIfInBounds_toArray, List.set_cons_zero, List.set_cons_succ]
  refine tkV (i := 8) (d := some 54) (v := ?_) rfl (by kernel_rfl) (by kernel_rfl) (by kernel_rfl) rfl (fun _ _ _ h => h) (by rfl) ?_ (by assumption) ?_
  rotate_left
  · (intro w hSw; (try dsimp only at hSw); (try simp only [List.getElem_toArray, List.getElem_cons_zero, List.getElem_cons_succ]); go_simp; try with_reducible rfl)
  try simp only [Act.put, List.setIfInBounds_toArray, List.set_cons_zero, List.set_cons_succ]
  refine tkV (i := 9) (d := some 55) (v := ?_) rfl (by kernel_rfl) (by kernel_rfl) (by kernel_rfl) rfl (fun _ _ _ h => h) (by rfl) ?_ (by assumption) ?_
  rotate_left
  · (intro w hSw; (try dsimp only at hSw); (try simp only [List.getElem_toArray, List.getElem_cons_zero, List.getElem_cons_succ]); go_simp; try with_reducible rfl)
  try simp only [Act.put, List.setIfInBounds_toArray, List.set_cons_zero, List.set_cons_succ]
  refine tkV (i := 10) (d := some 56) (v := ?_) rfl (by kernel_rfl) (by kernel_rfl) (by kernel_rfl) rfl (fun _ _ _ h => h) (by rfl) ?_ (by assumption) ?_
  rotate_left
  · (intro w hSw; (try dsimp only at hSw); (try simp only [List.getElem_toArray, List.getElem_cons_zero, List.getElem_cons_succ]); go_simp; try with_reducible rfl)
  try simp only [Act.put, List.setIfInBounds_toArray, List.set_cons_zero, List.set_cons_succ]
  refine wpAnyH_ready (rs := [5]) (by kernel_rfl) (by simp) (AllReadyH.cons rfl (fun K hK => ?_) AllReadyH.nil)
  try simp only [List.getElem_toArray, List.getElem_cons_zero, List.getElem_cons_succ]
  go_simp
  refine (HSq.out _ HMd.out).mono ?_
  rintro r w15 hr
  obtain ⟨k3, t3, a3, m3, c3, b3, n3, d3, g3, l3, z3, rfl, q1, q2⟩ := hr.shape
  have HM15 := hid0 (HMd.out.past q2)
  have hs15 := HSk13.out _ HM15.out
  have HC7 := hid0 (HMs.out _ HM15.out _ q1)
  unfold EV.v at HC7
  simp only [] at HC7
  clear hr q1 q2
  go_wp2_with fail
  refine hK.out _ _ ?_ (fun hHeld5 => ?_)
  · exact hs15
  clear hK K
  (try simp only [Act.put]); (try simp only [List.setIfInBounds_toArray]); (try simp only [List.set_cons_succ]); (try simp only [List.set_cons_zero])
  refine wpAnyH_ready (rs := [7]) (by kernel_rfl) (by simp) (AllReadyH.cons rfl (fun K hK => ?_) AllReadyH.nil)
  try simp only [List.getElem_toArray, List.getElem_cons_zero, List.getElem_cons_succ]
  go_simp
  refine HC7.out.mono ?_
  rintro r w16 ⟨rfl, hb16⟩
  have HM16 := hid0 (HM15.out.past hb16)
  have hs16 := HSk13.out _ HM16.out
  clear hb16
  go_wp2_with fail
  refine hK.out _ _ ?_ (fun hHeld7 => ?_)
  · exact hs16
  clear hK K
  (try simp only [Act.put]); (try simp only [List.setIfInBounds_toArray]); (try simp only [List.set_cons_succ]); (try simp only [List.set_cons_zero])
  refine wpAnyH_ready (rs := [11]) (by kernel_rfl) (by simp) (AllReadyH.cons rfl (fun K hK => ?_) AllReadyH.nil)
  try simp only [List.getElem_toArray, List.getElem_cons_zero, List.getElem_cons_succ]
  go_simp
  refine (HSp.out _ HM16.out).mono ?_
  rintro r w17 ⟨rfl, hb17⟩
  have HM17 := hid0 (HM16.out.past hb17)
  have hs17 := HSk13.out _ HM17.out
  clear hb17
  go_wp2_with fail
  refine hK.out _ _ ?_ (fun hHeld11 => ?_)
  · exact hs17
  clear hK K
  (try simp only [Act.put]); (try simp only [List.setIfInBounds_toArray]); (try simp only [List.set_cons_succ]); (try simp only [List.set_cons_zero])
  refine tkV (i := 12) (d := some 58) (v := .bool false) rfl (by kernel_rfl) (by kernel_rfl) (by kernel_rfl) rfl (fun _ _ _ h => h) (by rfl) ?_ (by assumption) ?_
  · (intro w hSw; (try dsimp only at hSw); (try simp only [List.getElem_toArray, List.getElem_cons_zero, List.getElem_cons_succ]); go_simp; try with_reducible rfl)
  try simp only [Act.put, List.setIfInBounds_toArray, List.set_cons_zero, List.set_cons_succ]
  refine tkV (i := 13) (d := some 59) (v := ?_) rfl (by kernel_rfl) (by kernel_rfl) (by kernel_rfl) rfl (fun _ _ _ h => h) (by rfl) ?_ (by assumption) ?_
  rotate_left
  · (intro w hSw; (try dsimp only at hSw); (try simp only [List.getElem_toArray, List.getElem_cons_zero, List.getElem_cons_succ]); go_simp; try with_reducible rfl)
  try simp only [Act.put, List.setIfInBounds_toArray, List.set_cons_zero, List.set_cons_succ]
  refine tkV (i := 14) (d := some 60) (v := ?_) rfl (by kernel_rfl) (by kernel_rfl) (by kernel_rfl) rfl (fun _ _ _ h => h) (by rfl) ?_ (by assumption) ?_
  rotate_left
  · (intro w hSw; (try dsimp only at hSw); (try simp only [List.getElem_toArray, List.getElem_cons_zero, List.getElem_cons_succ]); go_simp; try with_reducible rfl)
  try simp only [Act.put, List.setIfInBounds_toArray, List.set_cons_zero, List.set_cons_succ]
  refine tkV (i := 15) (d := some 61) (v := ?_) rfl (by kernel_rfl) (by kernel_rfl) (by kernel_rfl) rfl (fun _ _ _ h => h) (by rfl) ?_ (by assumption) ?_
  rotate_left
  · (intro w hSw; (try dsimp only at hSw); (try simp only [List.getElem_toArray, List.getElem_cons_zero, List.getElem_cons_succ]); go_simp; try with_reducible rfl)
  try simp only [Act.put, List.setIfInBounds_toArray, List.set_cons_zero, List.set_cons_succ]
  refine tkV (i := 16) (d := some 62) (v := ?_) rfl (by kernel_rfl) (by kernel_rfl) (by kernel_rfl) rfl (fun _ _ _ h => h) (by rfl) ?_ (by assumption) ?_
  rotate_left
  · (intro w hSw; (try dsimp only at hSw); (try simp only [List.getElem_toArray, List.getElem_cons_zero, List.getElem_cons_succ]); go_simp; try with_reducible rfl)
  try simp only [Act.put, List.setIfInBounds_toArray, List.set_cons_zero, List.set_cons_succ]
  refine tkV (i := 18) (d := some 64) (v := ?_) rfl (by kernel_rfl) (by kernel_rfl) (by kernel_rfl) rfl (fun _ _ _ h => h) (by rfl) ?_ (by assumption) ?_
  rotate_left
  · (intro w hSw; (try dsimp only at hSw); (try simp only [List.getElem_toArray, List.getElem_cons_zero, List.getElem_cons_succ]); go_simp; try with_reducible rfl)
  try simp only [Act.put, List.setIfInBounds_toArray, List.set_cons_zero, List.set_cons_succ]
  refine wpAnyH_ready (rs := [17]) (by kernel_rfl) (by simp) (AllReadyH.cons rfl (fun K hK => ?_) AllReadyH.nil)
  try simp only [List.getElem_toArray, List.getElem_cons_zero, List.getElem_cons_succ]
  go_simp
  refine (HMt.out _ HM17.out).mono ?_
  rintro r w18 ⟨rfl, hb18⟩
  have HM18 := hid0 (HM17.out.past hb18)
  have hs18 := HSk13.out _ HM18.out
  clear hb18
  go_wp2_with fail
  refine hK.out _ _ ?_ (fun hHeld17 => ?_)
  · exact hs18
  clear hK K
  (try simp only [Act.put]); (try simp only [List.setIfInBounds_toArray]); (try simp only [List.set_cons_succ]); (try simp only [List.set_cons_zero])
  refine tkV (i := 19) (d := some 65) (v := ?_) rfl (by kernel_rfl) (by kernel_rfl) (by kernel_rfl) rfl (fun _ _ _ h => h) (by rfl) ?_ (by assumption) ?_
  rotate_left
  · (intro w hSw; (try dsimp only at hSw); (try simp only [List.getElem_toArray, List.getElem_cons_zero, List.getElem_cons_succ]); go_simp; try with_reducible rfl)
  try simp only [Act.put, List.setIfInBounds_toArray, List.set_cons_zero, List.set_cons_succ]
  refine tkU (i := 20) (d := some 66) rfl (by kernel_rfl) (by kernel_rfl) (by kernel_rfl) rfl (fun _ _ _ h => h) (by rfl) (by assumption) ?_
  try simp only [Act.put, List.setIfInBounds_toArray, List.set_cons_zero, List.set_cons_succ]
  refine tkU (i := 21) (d := some 67) rfl (by kernel_rfl) (by kernel_rfl) (by kernel_rfl) rfl (fun _ _ _ h => h) (by rfl) (by assumption) ?_
  try simp only [Act.put, List.setIfInBounds_toArray, List.set_cons_zero, List.set_cons_succ]
  refine wpAnyH_ready (rs := [22]) (by kernel_rfl) (by simp) (AllReadyH.cons rfl (fun K hK => ?_) AllReadyH.nil)
  try simp only [List.getElem_toArray, List.getElem_cons_zero, List.getElem_cons_succ]
  go_simp
  refine hK.out _ _ ?_ (fun hHeld22 => ?_)
  · assumption
  clear hK K
  (try simp only [Act.put]); (try simp only [List.setIfInBounds_toArray]); (try simp only [List.set_cons_succ]); (try simp only [List.set_cons_zero])
  refine tkV (i := 23) (d := some 69) (v := ?_) rfl (by kernel_rfl) (by kernel_rfl) (by kernel_rfl) rfl (fun _ _ _ h => h) (by rfl) ?_ (by assumption) ?_
  rotate_left
  · (intro w hSw; (try dsimp only at hSw); (try simp only [List.getElem_toArray, List.getElem_cons_zero, List.getElem_cons_succ]); go_simp; try with_reducible rfl)
  try simp only [Act.put, List.setIfInBounds_toArray, List.set_cons_zero, List.set_cons_succ]
  refine tkV (i := 24) (d := some 70) (v := .bool false) rfl (by kernel_rfl) (by kernel_rfl) (by kernel_rfl) rfl (fun _ _ _ h => h) (by rfl) ?_ (by assumption) ?_
  · (intro w hSw; (try dsimp only at hSw); (try simp only [List.getElem_toArray, List.getElem_cons_zero, List.getElem_cons_succ]); go_simp; try with_reducible rfl)
  try simp only [Act.put, List.setIfInBounds_toArray, List.set_cons_zero, List.set_cons_succ]
  refine tkV (i := 25) (d := some 71) (v := ?_) rfl (by kernel_rfl) (by kernel_rfl) (by kernel_rfl) rfl (fun _ _ _ h => h) (by rfl) ?_ (by assumption) ?_
  rotate_left
  · (intro w hSw; (try dsimp only at hSw); (try simp only [List.getElem_toArray, List.getElem_cons_zero, List.getElem_cons_succ]); go_simp; try with_reducible rfl)
  try simp only [Act.put, List.setIfInBounds_toArray, List.set_cons_zero, List.set_cons_succ]
  refine tkV (i := 26) (d := some 72) (v := ?_) rfl (by kernel_rfl) (by kernel_rfl) (by kernel_rfl) rfl (fun _ _ _ h => h) (by rfl) ?_ (by assumption) ?_
  rotate_left
  · (intro w hSw; (try dsimp only at hSw); (try simp only [List.getElem_toArray, List.getElem_cons_zero, List.getElem_cons_succ]); go_simp; try with_reducible rfl)
  try simp only [Act.put, List.setIfInBounds_toArray, List.set_cons_zero, List.set_cons_succ]
  refine tkV (i := 27) (d := some 73) (v := ?_) rfl (by kernel_rfl) (by kernel_rfl) (by kernel_rfl) rfl (fun _ _ _ h => h) (by rfl) ?_ (by assumption) ?_
  rotate_left
  · (intro w hSw; (try dsimp only at hSw); (try simp only [List.getElem_toArray, List.getElem_cons_zero, List.getElem_cons_succ]); go_simp; try with_reducible rfl)
  try simp only [Act.put, List.setIfInBounds_toArray, List.set_cons_zero, List.set_cons_succ]
  refine tkV (i := 28) (d := some 74) (v := ?_) rfl (by kernel_rfl) (by kernel_rfl) (by kernel_rfl) rfl (fun _ _ _ h => h) (by rfl) ?_ (by assumption) ?_
  rotate_left
  · (intro w hSw; (try dsimp only at hSw); (try simp only [List.getElem_toArray, List.getElem_cons_zero, List.getElem_cons_succ]); go_simp; try with_reducible rfl)
  try simp only [Act.put, List.setIfInBounds_toArray, List.set_cons_zero, List.set_cons_succ]
  refine tkV (i := 30) (d := some 76) (v := ?_) rfl (by kernel_rfl) (by kernel_rfl) (by kernel_rfl) rfl (fun _ _ _ h => h) (by rfl) ?_ (by assumption) ?_
  rotate_left
  · (intro w hSw; (try dsimp only at hSw); (try simp only [List.getElem_toArray, List.getElem_cons_zero, List.getElem_cons_succ]); go_simp; try with_reducible rfl)
  try simp only [Act.put, List.setIfInBounds_toArray, List.set_cons_zero, List.set_cons_succ]
  refine wpAnyH_ready (rs := [29]) (by kernel_rfl) (by simp) (AllReadyH.cons rfl (fun K hK => ?_) AllReadyH.nil)
  try simp only [List.getElem_toArray, List.getElem_cons_zero, List.getElem_cons_succ]
  go_simp
  refine (HMo.out _ HM18.out).mono ?_
  rintro r w20 ⟨rfl, hb20⟩
  have HM20 := hid0 (HM18.out.past hb20)
  have hs20 := HSk13.out _ HM20.out
  clear hb20
  go_wp2_with fail
  refine hK.out _ _ ?_ (fun hHeld29 => ?_)
  · exact hs20
  clear hK K
  (try simp only [Act.put]); (try simp only [List.setIfInBounds_toArray]); (try simp only [List.set_cons_succ]); (try simp only [List.set_cons_zero])
  refine tkV (i := 31) (d := some 77) (v := ?_) rfl (by kernel_rfl) (by kernel_rfl) (by kernel_rfl) rfl (fun _ _ _ h => h) (by rfl) ?_ (by assumption) ?_
  rotate_left
  · (intro w hSw; (try dsimp only at hSw); (try simp only [List.getElem_toArray, List.getElem_cons_zero, List.getElem_cons_succ]); go_simp; try with_reducible rfl)
  try simp only [Act.put, List.setIfInBounds_toArray, List.set_cons_zero, List.set_cons_succ]
  refine tkU (i := 32) (d := some 78) rfl (by kernel_rfl) (by kernel_rfl) (by kernel_rfl) rfl (fun _ _ _ h => h) (by rfl) (by assumption) ?_
  try simp only [Act.put, List.setIfInBounds_toArray, List.set_cons_zero, List.set_cons_succ]
  refine tkU (i := 33) (d := some 79) rfl (by kernel_rfl) (by kernel_rfl) (by kernel_rfl) rfl (fun _ _ _ h => h) (by rfl) (by assumption) ?_
  try simp only [Act.put, List.setIfInBounds_toArray, List.set_cons_zero, List.set_cons_succ]
  refine tkU (i := 34) (d := some 80) rfl (by kernel_rfl) (by kernel_rfl) (by kernel_rfl) rfl (fun _ _ _ h => h) (by rfl) (by assumption) ?_
  try simp only [Act.put, List.setIfInBounds_toArray, List.set_cons_zero, List.set_cons_succ]
  refine tkV (i := 35) (d := some 81) (v := ?_) rfl (by kernel_rfl) (by kernel_rfl) (by kernel_rfl) rfl (fun _ _ _ h => h) (by rfl) ?_ (by assumption) ?_
  rotate_left
  · (intro w hSw; (try dsimp only at hSw); (try simp only [List.getElem_toArray, List.getElem_cons_zero, List.getElem_cons_succ]); go_simp; try with_reducible rfl)
  try simp only [Act.put, List.setIfInBounds_toArray, List.set_cons_zero, List.set_cons_succ]
  refine tkV (i := 36) (d := some 82) (v := .bool false) rfl (by kernel_rfl) (by kernel_rfl) (by kernel_rfl) rfl (fun _ _ _ h => h) (by rfl) ?_ (by assumption) ?_
  · (intro w hSw; (try dsimp only at hSw); (try simp only [List.getElem_toArray, List.getElem_cons_zero, List.getElem_cons_succ]); go_simp; try with_reducible rfl)
  try simp only [Act.put, List.setIfInBounds_toArray, List.set_cons_zero, List.set_cons_succ]
  refine tkV (i := 37) (d := some 83) (v := ?_) rfl (by kernel_rfl) (by kernel_rfl) (by kernel_rfl) rfl (fun _ _ _ h => h) (by rfl) ?_ (by assumption) ?_
  rotate_left
  · (intro w hSw; (try dsimp only at hSw); (try simp only [List.getElem_toArray, List.getElem_cons_zero, List.getElem_cons_succ]); go_simp; try with_reducible rfl)
  try simp only [Act.put, List.setIfInBounds_toArray, List.set_cons_zero, List.set_cons_succ]
  refine wpAnyH_done (by kernel_rfl) ?_ _
  refine NoPanic.normal ?_
  go_wp2
  go_loopw [13, 14] (fun mv i wr => ∃ (j : Nat), 1 ≤ j ∧ j ≤ l.length + 1 ∧ i = .int .i64 (j : Int) ∧ mv = .bool (moreB a (.mk 5 false [] [] [a]) l j) ∧ Hid (MW wb wr A a b l (.slice (some ⟨gw, ow, none⟩) l.length cv) w1.heap.size w2.heap.size w6.heap.size w8.heap.size w10.heap.size w12.heap.size ⟨.int .i64 k1, .bool t1, .slice a1 m1 c1, .slice b1 n1 d1, .slice g1 l1 z1⟩ ⟨.int .i64 k2, .bool t2, .slice a2 m2 c2, .slice b2 n2 d2, .slice g2 l2 z2⟩ ⟨.int .i64 4, .bool false, .slice none 0 0, .slice none 0 0, .slice gT lT zT⟩ ⟨.int .i64 5, .bool false, .slice none 0 0, .slice none 0 0, .slice (some ⟨w7.heap.size, 0, none⟩) 1 1⟩ ⟨.int .i64 6, .bool false, .slice none 0 0, .slice none 0 0, .slice (some ⟨w9.heap.size, 0, none⟩) 1 1⟩ ⟨.int .i64 7, .bool false, .slice none 0 0, .slice none 0 0, .slice (some ⟨w11.heap.size, 0, none⟩) 1 1⟩)) (fun _ i _ => l.length + 1 - (intOf i).toNat)
  case atStart => exact ⟨1, Nat.le_refl _, by omega, rfl, by rw [moreB_one], HM20⟩
  case round =>
    obtain ⟨j, hj1, hj, rfl, rfl, HMr⟩ := hrel
    clear HMd HM13 HM14 HM15 HM16 HM17 HM18 HM20
    by_cases hlt : j ≤ l.length
    · have hjI : (j : Int) ≤ (l.length : Int) := by omega
      have hle12 : l.length ≤ 12 := HLe.out
      have hjI0 : (0 : Int) ≤ (j : Int) := by omega
      have hjc : (j : Int) ≤ (cv : Int) := by omega
      have hlcI : (l.length : Int) ≤ (cv : Int) := by omega
      have HNx := hid0 (moreB_succ a (.mk 5 false [] [] [a]) l j hj1)
      unfold hitB at HNx
      have HA := hid0 (HMh.out j hlt)
      have HC := hid0 (HMtl.out j)
      obtain ⟨ad, had⟩ : ∃ ad : Option Addr, (if cv = j then some ⟨gw, ow, none⟩ else some ⟨gw, ow + j * 2, none⟩) = ad := ⟨_, rfl⟩
      rw [had] at HC
      have HMe := hid0 (HMr.out.past (Below.refl wr.heap.size wr).drew)
      have hse := HSk19.out _ HMe.out
      generalize mtB a (l.take j) = p at *
      generalize mtB (.mk 5 false [] [] [a]) (l.drop j) = q at *
      generalize moreB a (.mk 5 false [] [] [a]) l j = mo at *
      cases mo with
      | true =>
        rw [Bool.true_or] at HNx
        go_wp2
        refine wp_region_noPanic ?_
        refine wp_region_held_drew (S := (fun V => (V.cell? ⟨w1.heap.size, 0, none⟩ = some (.int .i64 k1) ∧ V.cell? ⟨w1.heap.size, 1, none⟩ = some (.bool t1) ∧ V.cell? ⟨w1.heap.size, 2, none⟩ = some (.slice a1 m1 c1) ∧ V.cell? ⟨w1.heap.size, 3, none⟩ = some (.slice b1 n1 d1) ∧ V.cell? ⟨w1.heap.size, 4, none⟩ = some (.slice g1 l1 z1)) ∧ V.cell? ⟨w8.heap.size, 0, none⟩ = some (.int .i64 5) ∧ V.cell? ⟨w8.heap.size, 1, none⟩ = some (.bool false) ∧ V.cell? ⟨w8.heap.size, 2, none⟩ = some (.slice none 0 0) ∧ V.cell? ⟨w8.heap.size, 3, none⟩ = some (.slice none 0 0) ∧ V.cell? ⟨w8.heap.size, 4, none⟩ = some (.slice (some ⟨w7.heap.size, 0, none⟩) 1 1))) (by kernel_rfl) ?_ (fun hHeld => ?_)
        · exact hse
        refine tkV (i := 0) (d := some 90) (v := ?_) rfl (by kernel_rfl) (by kernel_rfl) (by kernel_rfl) rfl (fun _ _ _ h => h) (by rfl) ?_ (by assumption) ?_
        rotate_left
        · (intro w hSw; (try dsimp only at hSw); (try simp only [List.getElem_toArray, List.getElem_cons_zero]); go_simp; try with_reducible rfl)
        try simp only [Act.put, List.setIfInBounds_toArray, List.set_cons_zero, List.set_cons_succ]
        refine tkV (i := 1) (d := some 91) (v := ?_) rfl (by kernel_rfl) (by kernel_rfl) (by kernel_rfl) rfl (fun _ _ _ h => h) (by rfl) ?_ (by assumption) ?_
        rotate_left
        · (intro w hSw; (try dsimp only at hSw); (try simp only [List.getElem_toArray, List.getElem_cons_zero, List.getElem_cons_succ]); go_simp; try with_reducible rfl)
        try simp only [Act.put, List.setIfInBounds_toArray, List.set_cons_zero, List.set_cons_succ]
        refine tkU (i := 2) (d := some 92) rfl (by kernel_rfl) (by kernel_rfl) (by kernel_rfl) rfl (fun _ _ _ h => h) (by rfl) (by assumption) ?_
        try simp only [Act.put, List.setIfInBounds_toArray, List.set_cons_zero, List.set_cons_succ]
        refine tkU (i := 3) (d := some 93) rfl (by kernel_rfl) (by kernel_rfl) (by kernel_rfl) rfl (fun _ _ _ h => h) (by rfl) (by assumption) ?_
        try simp only [Act.put, List.setIfInBounds_toArray, List.set_cons_zero, List.set_cons_succ]
        refine tkU (i := 4) (d := some 94) rfl (by kernel_rfl) (by kernel_rfl) (by kernel_rfl) rfl (fun _ _ _ h => h) (by rfl) (by assumption) ?_
        try simp only [Act.put, List.setIfInBounds_toArray, List.set_cons_zero, List.set_cons_succ]
        refine tkU (i := 5) (d := some 95) rfl (by kernel_rfl) (by kernel_rfl) (by kernel_rfl) rfl (fun _ _ _ h => h) (by rfl) (by assumption) ?_
        try simp only [Act.put, List.setIfInBounds_toArray, List.set_cons_zero, List.set_cons_succ]
        refine wpAnyH_ready (rs := [6]) (by kernel_rfl) (by simp) (AllReadyH.cons rfl (fun K hK => ?_) AllReadyH.nil)
        try simp only [List.getElem_toArray, List.getElem_cons_zero, List.getElem_cons_succ]
        go_simp
        refine hK.out _ _ ?_ (fun hHeld6 => ?_)
        · assumption
        clear hK K
        (try simp only [Act.put]); (try simp only [List.setIfInBounds_toArray]); (try simp only [List.set_cons_succ]); (try simp only [List.set_cons_zero])
        refine tkU (i := 7) (d := some 97) rfl (by kernel_rfl) (by kernel_rfl) (by kernel_rfl) rfl (fun _ _ _ h => h) (by rfl) (by assumption) ?_
        try simp only [Act.put, List.setIfInBounds_toArray, List.set_cons_zero, List.set_cons_succ]
        refine tkU (i := 8) (d := some 98) rfl (by kernel_rfl) (by kernel_rfl) (by kernel_rfl) rfl (fun _ _ _ h => h) (by rfl) (by assumption) ?_
        try simp only [Act.put, List.setIfInBounds_toArray, List.set_cons_zero, List.set_cons_succ]
        refine tkU (i := 9) (d := some 99) rfl (by kernel_rfl) (by kernel_rfl) (by kernel_rfl) rfl (fun _ _ _ h => h) (by rfl) (by assumption) ?_
        try simp only [Act.put, List.setIfInBounds_toArray, List.set_cons_zero, List.set_cons_succ]
        refine tkU (i := 10) (d := some 100) rfl (by kernel_rfl) (by kernel_rfl) (by kernel_rfl) rfl (fun _ _ _ h => h) (by rfl) (by assumption) ?_
        try simp only [Act.put, List.setIfInBounds_toArray, List.set_cons_zero, List.set_cons_succ]
        refine tkU (i := 11) (d := some 101) rfl (by kernel_rfl) (by kernel_rfl) (by kernel_rfl) rfl (fun _ _ _ h => h) (by rfl) (by assumption) ?_
        try simp only [Act.put, List.setIfInBounds_toArray, List.set_cons_zero, List.set_cons_succ]
        refine wpAnyH_ready (rs := [12]) (by kernel_rfl) (by simp) (AllReadyH.cons rfl (fun K hK => ?_) AllReadyH.nil)
        try simp only [List.getElem_toArray, List.getElem_cons_zero, List.getElem_cons_succ]
        go_simp
        refine hK.out _ _ ?_ (fun hHeld12 => ?_)
        · assumption
        clear hK K
        (try simp only [Act.put]); (try simp only [List.setIfInBounds_toArray]); (try simp only [List.set_cons_succ]); (try simp only [List.set_cons_zero])
        refine tkU (i := 13) (d := some 103) rfl (by kernel_rfl) (by kernel_rfl) (by kernel_rfl) rfl (fun _ _ _ h => h) (by rfl) (by assumption) ?_
        try simp only [Act.put, List.setIfInBounds_toArray, List.set_cons_zero, List.set_cons_succ]
        refine tkV (i := 14) (d := some 104) (v := ?_) rfl (by kernel_rfl) (by kernel_rfl) (by kernel_rfl) rfl (fun _ _ _ h => h) (by rfl) ?_ (by assumption) ?_
        rotate_left
        · (intro w hSw; (try dsimp only at hSw); (try simp only [List.getElem_toArray, List.getElem_cons_zero, List.getElem_cons_succ]); go_simp; try with_reducible rfl)
        try simp only [Act.put, List.setIfInBounds_toArray, List.set_cons_zero, List.set_cons_succ]
        refine tkV (i := 15) (d := some 13) (v := ?_) rfl (by kernel_rfl) (by kernel_rfl) (by kernel_rfl) rfl (fun _ _ _ h => h) (by rfl) ?_ (by assumption) ?_
        rotate_left
        · (intro w hSw; (try dsimp only at hSw); (try simp only [List.getElem_toArray, List.getElem_cons_zero, List.getElem_cons_succ]); go_simp; try with_reducible rfl)
        try simp only [Act.put, List.setIfInBounds_toArray, List.set_cons_zero, List.set_cons_succ]
        refine wpAnyH_done (by kernel_rfl) ?_ _
        refine NoPanic.normal ?_
        go_wp2
        go_roundw
        case rel => exact ⟨j + 1, by omega, by omega, by go_num, by rw [HNx.out], HMe⟩
        case measure => simp [intOf]; omega
      | false =>
        cases p with
        | false =>
          rw [Bool.false_or, Bool.false_and] at HNx
          go_wp2
          refine wp_region_noPanic ?_
          refine wp_region_held_drew (S := (fun V => (V.cell? ⟨w1.heap.size, 0, none⟩ = some (.int .i64 k1) ∧ V.cell? ⟨w1.heap.size, 1, none⟩ = some (.bool t1) ∧ V.cell? ⟨w1.heap.size, 2, none⟩ = some (.slice a1 m1 c1) ∧ V.cell? ⟨w1.heap.size, 3, none⟩ = some (.slice b1 n1 d1) ∧ V.cell? ⟨w1.heap.size, 4, none⟩ = some (.slice g1 l1 z1)) ∧ V.cell? ⟨w8.heap.size, 0, none⟩ = some (.int .i64 5) ∧ V.cell? ⟨w8.heap.size, 1, none⟩ = some (.bool false) ∧ V.cell? ⟨w8.heap.size, 2, none⟩ = some (.slice none 0 0) ∧ V.cell? ⟨w8.heap.size, 3, none⟩ = some (.slice none 0 0) ∧ V.cell? ⟨w8.heap.size, 4, none⟩ = some (.slice (some ⟨w7.heap.size, 0, none⟩) 1 1))) (by kernel_rfl) ?_ (fun hHeld => ?_)
          · exact hse
          refine tkV (i := 0) (d := some 90) (v := ?_) rfl (by kernel_rfl) (by kernel_rfl) (by kernel_rfl) rfl (fun _ _ _ h => h) (by rfl) ?_ (by assumption) ?_
          rotate_left
          · (intro w hSw; (try dsimp only at hSw); (try simp only [List.getElem_toArray, List.getElem_cons_zero]); go_simp; try with_reducible rfl)
          try simp only [Act.put, List.setIfInBounds_toArray, List.set_cons_zero, List.set_cons_succ]
          refine tkV (i := 1) (d := some 91) (v := ?_) rfl (by kernel_rfl) (by kernel_rfl) (by kernel_rfl) rfl (fun _ _ _ h => h) (by rfl) ?_ (by assumption) ?_
          rotate_left
          · (intro w hSw; (try dsimp only at hSw); (try simp only [List.getElem_toArray, List.getElem_cons_zero, List.getElem_cons_succ]); go_simp; try with_reducible rfl)
          try simp only [Act.put, List.setIfInBounds_toArray, List.set_cons_zero, List.set_cons_succ]
          refine tkV (i := 2) (d := some 92) (v := ?_) rfl (by kernel_rfl) (by kernel_rfl) (by kernel_rfl) rfl (fun _ _ _ h => h) (by rfl) ?_ (by assumption) ?_
          rotate_left
          · (intro w hSw; (try dsimp only at hSw); (try simp only [List.getElem_toArray, List.getElem_cons_zero, List.getElem_cons_succ]); go_simp; try with_reducible rfl)
          try simp only [Act.put, List.setIfInBounds_toArray, List.set_cons_zero, List.set_cons_succ]
          refine tkV (i := 3) (d := some 93) (v := ?_) rfl (by kernel_rfl) (by kernel_rfl) (by kernel_rfl) rfl (fun _ _ _ h => h) (by rfl) ?_ (by assumption) ?_
          rotate_left
          · (intro w hSw; (try dsimp only at hSw); (try simp only [List.getElem_toArray, List.getElem_cons_zero, List.getElem_cons_succ]); go_simp; try with_reducible rfl)
          try simp only [Act.put, List.setIfInBounds_toArray, List.set_cons_zero, List.set_cons_succ]
          refine tkV (i := 4) (d := some 94) (v := ?_) rfl (by kernel_rfl) (by kernel_rfl) (by kernel_rfl) rfl (fun _ _ _ h => h) (by rfl) ?_ (by assumption) ?_
          rotate_left
          · (intro w hSw; (try dsimp only at hSw); (try simp only [List.getElem_toArray, List.getElem_cons_zero, List.getElem_cons_succ]); go_simp; try with_reducible rfl)
          try simp only [Act.put, List.setIfInBounds_toArray, List.set_cons_zero, List.set_cons_succ]
          refine tkV (i := 5) (d := some 95) (v := ?_) rfl (by kernel_rfl) (by kernel_rfl) (by kernel_rfl) rfl (fun _ _ _ h => h) (by rfl) ?_ (by assumption) ?_
          rotate_left
          · (intro w hSw; (try dsimp only at hSw); (try simp only [List.getElem_toArray, List.getElem_cons_zero, List.getElem_cons_succ]); go_simp; try with_reducible rfl)
          try simp only [Act.put, List.setIfInBounds_toArray, List.set_cons_zero, List.set_cons_succ]
          refine wpAnyH_ready (rs := [6]) (by kernel_rfl) (by simp) (AllReadyH.cons rfl (fun K hK => ?_) AllReadyH.nil)
          try simp only [List.getElem_toArray, List.getElem_cons_zero, List.getElem_cons_succ]
          go_simp
          refine (HA.out _ HMe.out).mono ?_
          rintro r wf ⟨rfl, hbf⟩
          have HMf := hid0 (HMe.out.past hbf)
          have hsf := HSk19.out _ HMf.out
          clear hbf
          go_wp2_with fail
          refine hK.out _ _ ?_ (fun hHeld6 => ?_)
          · exact hsf
          clear hK K
          (try simp only [Act.put]); (try simp only [List.setIfInBounds_toArray]); (try simp only [List.set_cons_succ]); (try simp only [List.set_cons_zero])
          refine tkV (i := 7) (d := some 97) (v := ?_) rfl (by kernel_rfl) (by kernel_rfl) (by kernel_rfl) rfl (fun _ _ _ h => h) (by rfl) ?_ (by assumption) ?_
          rotate_left
          · (intro w hSw; (try dsimp only at hSw); (try simp only [List.getElem_toArray, List.getElem_cons_zero, List.getElem_cons_succ]); go_simp; try with_reducible rfl)
          try simp only [Act.put, List.setIfInBounds_toArray, List.set_cons_zero, List.set_cons_succ]
          refine tkU (i := 8) (d := some 98) rfl (by kernel_rfl) (by kernel_rfl) (by kernel_rfl) rfl (fun _ _ _ h => h) (by rfl) (by assumption) ?_
          try simp only [Act.put, List.setIfInBounds_toArray, List.set_cons_zero, List.set_cons_succ]
          refine tkU (i := 9) (d := some 99) rfl (by kernel_rfl) (by kernel_rfl) (by kernel_rfl) rfl (fun _ _ _ h => h) (by rfl) (by assumption) ?_
          try simp only [Act.put, List.setIfInBounds_toArray, List.set_cons_zero, List.set_cons_succ]
          refine tkU (i := 10) (d := some 100) rfl (by kernel_rfl) (by kernel_rfl) (by kernel_rfl) rfl (fun _ _ _ h => h) (by rfl) (by assumption) ?_
          try simp only [Act.put, List.setIfInBounds_toArray, List.set_cons_zero, List.set_cons_succ]
          refine tkU (i := 11) (d := some 101) rfl (by kernel_rfl) (by kernel_rfl) (by kernel_rfl) rfl (fun _ _ _ h => h) (by rfl) (by assumption) ?_
          try simp only [Act.put, List.setIfInBounds_toArray, List.set_cons_zero, List.set_cons_succ]
          refine wpAnyH_ready (rs := [12]) (by kernel_rfl) (by simp) (AllReadyH.cons rfl (fun K hK => ?_) AllReadyH.nil)
          try simp only [List.getElem_toArray, List.getElem_cons_zero, List.getElem_cons_succ]
          go_simp
          refine hK.out _ _ ?_ (fun hHeld12 => ?_)
          · assumption
          clear hK K
          (try simp only [Act.put]); (try simp only [List.setIfInBounds_toArray]); (try simp only [List.set_cons_succ]); (try simp only [List.set_cons_zero])
          refine tkV (i := 13) (d := some 103) (v := ?_) rfl (by kernel_rfl) (by kernel_rfl) (by kernel_rfl) rfl (fun _ _ _ h => h) (by rfl) ?_ (by assumption) ?_
          rotate_left
          · (intro w hSw; (try dsimp only at hSw); (try simp only [List.getElem_toArray, List.getElem_cons_zero, List.getElem_cons_succ]); go_simp; try with_reducible rfl)
          try simp only [Act.put, List.setIfInBounds_toArray, List.set_cons_zero, List.set_cons_succ]
          refine tkV (i := 14) (d := some 104) (v := ?_) rfl (by kernel_rfl) (by kernel_rfl) (by kernel_rfl) rfl (fun _ _ _ h => h) (by rfl) ?_ (by assumption) ?_
          rotate_left
          · (intro w hSw; (try dsimp only at hSw); (try simp only [List.getElem_toArray, List.getElem_cons_zero, List.getElem_cons_succ]); go_simp; try with_reducible rfl)
          try simp only [Act.put, List.setIfInBounds_toArray, List.set_cons_zero, List.set_cons_succ]
          refine tkV (i := 15) (d := some 13) (v := ?_) rfl (by kernel_rfl) (by kernel_rfl) (by kernel_rfl) rfl (fun _ _ _ h => h) (by rfl) ?_ (by assumption) ?_
          rotate_left
          · (intro w hSw; (try dsimp only at hSw); (try simp only [List.getElem_toArray, List.getElem_cons_zero, List.getElem_cons_succ]); go_simp; try with_reducible rfl)
          try simp only [Act.put, List.setIfInBounds_toArray, List.set_cons_zero, List.set_cons_succ]
          refine wpAnyH_done (by kernel_rfl) ?_ _
          refine NoPanic.normal ?_
          go_wp2
          go_roundw
          case rel => exact ⟨j + 1, by omega, by omega, by go_num, by rw [HNx.out], HMf⟩
          case measure => simp [intOf]; omega
        | true =>
          rw [Bool.false_or, Bool.true_and] at HNx
          go_wp2
          refine wp_region_noPanic ?_
          refine wp_region_held_drew (S := (fun V => (V.cell? ⟨w1.heap.size, 0, none⟩ = some (.int .i64 k1) ∧ V.cell? ⟨w1.heap.size, 1, none⟩ = some (.bool t1) ∧ V.cell? ⟨w1.heap.size, 2, none⟩ = some (.slice a1 m1 c1) ∧ V.cell? ⟨w1.heap.size, 3, none⟩ = some (.slice b1 n1 d1) ∧ V.cell? ⟨w1.heap.size, 4, none⟩ = some (.slice g1 l1 z1)) ∧ V.cell? ⟨w8.heap.size, 0, none⟩ = some (.int .i64 5) ∧ V.cell? ⟨w8.heap.size, 1, none⟩ = some (.bool false) ∧ V.cell? ⟨w8.heap.size, 2, none⟩ = some (.slice none 0 0) ∧ V.cell? ⟨w8.heap.size, 3, none⟩ = some (.slice none 0 0) ∧ V.cell? ⟨w8.heap.size, 4, none⟩ = some (.slice (some ⟨w7.heap.size, 0, none⟩) 1 1))) (by kernel_rfl) ?_ (fun hHeld => ?_)
          · exact hse
          refine tkV (i := 0) (d := some 90) (v := ?_) rfl (by kernel_rfl) (by kernel_rfl) (by kernel_rfl) rfl (fun _ _ _ h => h) (by rfl) ?_ (by assumption) ?_
          rotate_left
          · (intro w hSw; (try dsimp only at hSw); (try simp only [List.getElem_toArray, List.getElem_cons_zero]); go_simp; try with_reducible rfl)
          try simp only [Act.put, List.setIfInBounds_toArray, List.set_cons_zero, List.set_cons_succ]
          refine tkV (i := 1) (d := some 91) (v := ?_) rfl (by kernel_rfl) (by kernel_rfl) (by kernel_rfl) rfl (fun _ _ _ h => h) (by rfl) ?_ (by assumption) ?_
          rotate_left
          · (intro w hSw; (try dsimp only at hSw); (try simp only [List.getElem_toArray, List.getElem_cons_zero, List.getElem_cons_succ]); go_simp; try with_reducible rfl)
          try simp only [Act.put, List.setIfInBounds_toArray, List.set_cons_zero, List.set_cons_succ]
          refine tkV (i := 2) (d := some 92) (v := ?_) rfl (by kernel_rfl) (by kernel_rfl) (by kernel_rfl) rfl (fun _ _ _ h => h) (by rfl) ?_ (by assumption) ?_
          rotate_left
          · (intro w hSw; (try dsimp only at hSw); (try simp only [List.getElem_toArray, List.getElem_cons_zero, List.getElem_cons_succ]); go_simp; try with_reducible rfl)
          try simp only [Act.put, List.setIfInBounds_toArray, List.set_cons_zero, List.set_cons_succ]
          refine tkV (i := 3) (d := some 93) (v := ?_) rfl (by kernel_rfl) (by kernel_rfl) (by kernel_rfl) rfl (fun _ _ _ h => h) (by rfl) ?_ (by assumption) ?_
          rotate_left
          · (intro w hSw; (try dsimp only at hSw); (try simp only [List.getElem_toArray, List.getElem_cons_zero, List.getElem_cons_succ]); go_simp; try with_reducible rfl)
          try simp only [Act.put, List.setIfInBounds_toArray, List.set_cons_zero, List.set_cons_succ]
          refine tkV (i := 4) (d := some 94) (v := ?_) rfl (by kernel_rfl) (by kernel_rfl) (by kernel_rfl) rfl (fun _ _ _ h => h) (by rfl) ?_ (by assumption) ?_
          rotate_left
          · (intro w hSw; (try dsimp only at hSw); (try simp only [List.getElem_toArray, List.getElem_cons_zero, List.getElem_cons_succ]); go_simp; try with_reducible rfl)
          try simp only [Act.put, List.setIfInBounds_toArray, List.set_cons_zero, List.set_cons_succ]
          refine tkV (i := 5) (d := some 95) (v := ?_) rfl (by kernel_rfl) (by kernel_rfl) (by kernel_rfl) rfl (fun _ _ _ h => h) (by rfl) ?_ (by assumption) ?_
          rotate_left
          · (intro w hSw; (try dsimp only at hSw); (try simp only [List.getElem_toArray, List.getElem_cons_zero, List.getElem_cons_succ]); go_simp; try with_reducible rfl)
          try simp only [Act.put, List.setIfInBounds_toArray, List.set_cons_zero, List.set_cons_succ]
          refine wpAnyH_ready (rs := [6]) (by kernel_rfl) (by simp) (AllReadyH.cons rfl (fun K hK => ?_) AllReadyH.nil)
          try simp only [List.getElem_toArray, List.getElem_cons_zero, List.getElem_cons_succ]
          go_simp
          refine (HA.out _ HMe.out).mono ?_
          rintro r wf ⟨rfl, hbf⟩
          have HMf := hid0 (HMe.out.past hbf)
          have hsf := HSk19.out _ HMf.out
          clear hbf
          go_wp2_with fail
          refine hK.out _ _ ?_ (fun hHeld6 => ?_)
          · exact hsf
          clear hK K
          (try simp only [Act.put]); (try simp only [List.setIfInBounds_toArray]); (try simp only [List.set_cons_succ]); (try simp only [List.set_cons_zero])
          refine tkV (i := 7) (d := some 97) (v := ?_) rfl (by kernel_rfl) (by kernel_rfl) (by kernel_rfl) rfl (fun _ _ _ h => h) (by rfl) ?_ (by assumption) ?_
          rotate_left
          · (intro w hSw; (try dsimp only at hSw); (try simp only [List.getElem_toArray, List.getElem_cons_zero, List.getElem_cons_succ]); go_simp; try with_reducible rfl)
          try simp only [Act.put, List.setIfInBounds_toArray, List.set_cons_zero, List.set_cons_succ]
          refine tkV (i := 8) (d := some 98) (v := ?_) rfl (by kernel_rfl) (by kernel_rfl) (by kernel_rfl) rfl (fun _ _ _ h => h) (by rfl) ?_ (by assumption) ?_
          rotate_left
          · (intro w hSw; (try dsimp only at hSw); (try simp only [List.getElem_toArray, List.getElem_cons_zero, List.getElem_cons_succ]); go_simp; try with_reducible rfl)
          try simp only [Act.put, List.setIfInBounds_toArray, List.set_cons_zero, List.set_cons_succ]
          refine tkV (i := 9) (d := some 99) (v := ?_) rfl (by kernel_rfl) (by kernel_rfl) (by kernel_rfl) rfl (fun _ _ _ h => h) (by rfl) ?_ (by assumption) ?_
          rotate_left
          · (intro w hSw; (try dsimp only at hSw); (try simp only [List.getElem_toArray, List.getElem_cons_zero, List.getElem_cons_succ]); go_simp; try with_reducible rfl)
          try simp only [Act.put, List.setIfInBounds_toArray, List.set_cons_zero, List.set_cons_succ]
          refine tkV (i := 10) (d := some 100) (v := ?_) rfl (by kernel_rfl) (by kernel_rfl) (by kernel_rfl) rfl (fun _ _ _ h => h) (by rfl) ?_ (by assumption) ?_
          rotate_left
          · (intro w hSw; (try dsimp only at hSw); (try simp only [List.getElem_toArray, List.getElem_cons_zero, List.getElem_cons_succ]); go_simp; try with_reducible rfl)
          try simp only [Act.put, List.setIfInBounds_toArray, List.set_cons_zero, List.set_cons_succ]
          refine tkV (i := 11) (d := some 101) (v := ?_) rfl (by kernel_rfl) (by kernel_rfl) (by kernel_rfl) rfl (fun _ _ _ h => h) (by rfl) ?_ (by assumption) ?_
          rotate_left
          · (intro w hSw; (try dsimp only at hSw); (try simp only [List.getElem_toArray, List.getElem_cons_zero, List.getElem_cons_succ]); go_simp; try with_reducible rfl)
          try simp only [Act.put, List.setIfInBounds_toArray, List.set_cons_zero, List.set_cons_succ]
          refine wpAnyH_ready (rs := [12]) (by kernel_rfl) (by simp) (AllReadyH.cons rfl (fun K hK => ?_) AllReadyH.nil)
          try simp only [List.getElem_toArray, List.getElem_cons_zero, List.getElem_cons_succ]
          go_simp
          refine (HC.out _ HMf.out).mono ?_
          rintro r wg ⟨rfl, hbg⟩
          have HMg := hid0 (HMf.out.past hbg)
          have hsg := HSk19.out _ HMg.out
          clear hbg
          go_wp2_with fail
          refine hK.out _ _ ?_ (fun hHeld12 => ?_)
          · exact hsg
          clear hK K
          (try simp only [Act.put]); (try simp only [List.setIfInBounds_toArray]); (try simp only [List.set_cons_succ]); (try simp only [List.set_cons_zero])
          refine tkV (i := 13) (d := some 103) (v := ?_) rfl (by kernel_rfl) (by kernel_rfl) (by kernel_rfl) rfl (fun _ _ _ h => h) (by rfl) ?_ (by assumption) ?_
          rotate_left
          · (intro w hSw; (try dsimp only at hSw); (try simp only [List.getElem_toArray, List.getElem_cons_zero, List.getElem_cons_succ]); go_simp; try with_reducible rfl)
          try simp only [Act.put, List.setIfInBounds_toArray, List.set_cons_zero, List.set_cons_succ]
          refine tkV (i := 14) (d := some 104) (v := ?_) rfl (by kernel_rfl) (by kernel_rfl) (by kernel_rfl) rfl (fun _ _ _ h => h) (by rfl) ?_ (by assumption) ?_
          rotate_left
          · (intro w hSw; (try dsimp only at hSw); (try simp only [List.getElem_toArray, List.getElem_cons_zero, List.getElem_cons_succ]); go_simp; try with_reducible rfl)
          try simp only [Act.put, List.setIfInBounds_toArray, List.set_cons_zero, List.set_cons_succ]
          refine tkV (i := 15) (d := some 13) (v := ?_) rfl (by kernel_rfl) (by kernel_rfl) (by kernel_rfl) rfl (fun _ _ _ h => h) (by rfl) ?_ (by assumption) ?_
          rotate_left
          · (intro w hSw; (try dsimp only at hSw); (try simp only [List.getElem_toArray, List.getElem_cons_zero, List.getElem_cons_succ]); go_simp; try with_reducible rfl)
          try simp only [Act.put, List.setIfInBounds_toArray, List.set_cons_zero, List.set_cons_succ]
          refine wpAnyH_done (by kernel_rfl) ?_ _
          refine NoPanic.normal ?_
          go_wp2
          go_roundw
          case rel => exact ⟨j + 1, by omega, by omega, by go_num, by rw [HNx.out], HMg⟩
          case measure => simp [intOf]; omega
    · have hjI : ¬ (j : Int) ≤ (l.length : Int) := by omega
      obtain rfl : j = l.length + 1 := by omega
      generalize moreB a (.mk 5 false [] [] [a]) l (l.length + 1) = mo at *
      have HMe := hid0 (HMr.out.past (Below.refl wr.heap.size wr).drew)
      have hse := HSk20.out _ HMe.out
      go_wp2
      refine wp_region_noPanic ?_
      refine wp_region_held_drew (S := (fun V => (V.cell? ⟨w1.heap.size, 0, none⟩ = some (.int .i64 k1) ∧ V.cell? ⟨w1.heap.size, 1, none⟩ = some (.bool t1) ∧ V.cell? ⟨w1.heap.size, 2, none⟩ = some (.slice a1 m1 c1) ∧ V.cell? ⟨w1.heap.size, 3, none⟩ = some (.slice b1 n1 d1) ∧ V.cell? ⟨w1.heap.size, 4, none⟩ = some (.slice g1 l1 z1)) ∧ (V.cell? ⟨w8.heap.size, 0, none⟩ = some (.int .i64 5) ∧ V.cell? ⟨w8.heap.size, 1, none⟩ = some (.bool false) ∧ V.cell? ⟨w8.heap.size, 2, none⟩ = some (.slice none 0 0) ∧ V.cell? ⟨w8.heap.size, 3, none⟩ = some (.slice none 0 0) ∧ V.cell? ⟨w8.heap.size, 4, none⟩ = some (.slice (some ⟨w7.heap.size, 0, none⟩) 1 1)) ∧ V.cell? ⟨w10.heap.size, 0, none⟩ = some (.int .i64 6) ∧ V.cell? ⟨w10.heap.size, 1, none⟩ = some (.bool false) ∧ V.cell? ⟨w10.heap.size, 2, none⟩ = some (.slice none 0 0) ∧ V.cell? ⟨w10.heap.size, 3, none⟩ = some (.slice none 0 0) ∧ V.cell? ⟨w10.heap.size, 4, none⟩ = some (.slice (some ⟨w9.heap.size, 0, none⟩) 1 1))) (by kernel_rfl) ?_ (fun hHeld => ?_)
      · exact hse
      refine tkV (i := 0) (d := some 105) (v := ?_) rfl (by kernel_rfl) (by kernel_rfl) (by kernel_rfl) rfl (fun _ _ _ h => h) (by rfl) ?_ (by assumption) ?_
      rotate_left
      · (intro w hSw; (try dsimp only at hSw); (try simp only [List.getElem_toArray, List.getElem_cons_zero]); go_simp; try with_reducible rfl)
      try simp only [Act.put, List.setIfInBounds_toArray, List.set_cons_zero, List.set_cons_succ]
      refine tkV (i := 1) (d := some 106) (v := ?_) rfl (by kernel_rfl) (by kernel_rfl) (by kernel_rfl) rfl (fun _ _ _ h => h) (by rfl) ?_ (by assumption) ?_
      rotate_left
      · (intro w hSw; (try dsimp only at hSw); (try simp only [List.getElem_toArray, List.getElem_cons_zero, List.getElem_cons_succ]); go_simp; try with_reducible rfl)
      try simp only [Act.put, List.setIfInBounds_toArray, List.set_cons_zero, List.set_cons_succ]
      refine tkV (i := 3) (d := some 108) (v := ?_) rfl (by kernel_rfl) (by kernel_rfl) (by kernel_rfl) rfl (fun _ _ _ h => h) (by rfl) ?_ (by assumption) ?_
      rotate_left
      · (intro w hSw; (try dsimp only at hSw); (try simp only [List.getElem_toArray, List.getElem_cons_zero, List.getElem_cons_succ]); go_simp; try with_reducible rfl)
      try simp only [Act.put, List.setIfInBounds_toArray, List.set_cons_zero, List.set_cons_succ]
      refine tkV (i := 4) (d := some 109) (v := ?_) rfl (by kernel_rfl) (by kernel_rfl) (by kernel_rfl) rfl (fun _ _ _ h => h) (by rfl) ?_ (by assumption) ?_
      rotate_left
      · (intro w hSw; (try dsimp only at hSw); (try simp only [List.getElem_toArray, List.getElem_cons_zero, List.getElem_cons_succ]); go_simp; try with_reducible rfl)
      try simp only [Act.put, List.setIfInBounds_toArray, List.set_cons_zero, List.set_cons_succ]
      refine tkV (i := 5) (d := some 110) (v := ?_) rfl (by kernel_rfl) (by kernel_rfl) (by kernel_rfl) rfl (fun _ _ _ h => h) (by rfl) ?_ (by assumption) ?_
      rotate_left
      · (intro w hSw; (try dsimp only at hSw); (try simp only [List.getElem_toArray, List.getElem_cons_zero, List.getElem_cons_succ]); go_simp; try with_reducible rfl)
      try simp only [Act.put, List.setIfInBounds_toArray, List.set_cons_zero, List.set_cons_succ]
      refine wpAnyH_ready (rs := [2]) (by kernel_rfl) (by simp) (AllReadyH.cons rfl (fun K hK => ?_) AllReadyH.nil)
      try simp only [List.getElem_toArray, List.getElem_cons_zero, List.getElem_cons_succ]
      go_simp
      refine (HMst.out _ HMe.out).mono ?_
      rintro r wf ⟨rfl, hbf⟩
      have HMf := hid0 (HMe.out.past hbf)
      have hsf := HSk20.out _ HMf.out
      clear hbf
      go_wp2_with fail
      refine hK.out _ _ ?_ (fun hHeld2 => ?_)
      · exact hsf
      clear hK K
      (try simp only [Act.put]); (try simp only [List.setIfInBounds_toArray]); (try simp only [List.set_cons_succ]); (try simp only [List.set_cons_zero])
      refine tkV (i := 6) (d := some 111) (v := ?_) rfl (by kernel_rfl) (by kernel_rfl) (by kernel_rfl) rfl (fun _ _ _ h => h) (by rfl) ?_ (by assumption) ?_
      rotate_left
      · (intro w hSw; (try dsimp only at hSw); (try simp only [List.getElem_toArray, List.getElem_cons_zero, List.getElem_cons_succ]); go_simp; try with_reducible rfl)
      try simp only [Act.put, List.setIfInBounds_toArray, List.set_cons_zero, List.set_cons_succ]
      refine tkV (i := 7) (d := some 112) (v := ?_) rfl (by kernel_rfl) (by kernel_rfl) (by kernel_rfl) rfl (fun _ _ _ h => h) (by rfl) ?_ (by assumption) ?_
      rotate_left
      · (intro w hSw; (try dsimp only at hSw); (try simp only [List.getElem_toArray, List.getElem_cons_zero, List.getElem_cons_succ]); go_simp; try with_reducible rfl)
      try simp only [Act.put, List.setIfInBounds_toArray, List.set_cons_zero, List.set_cons_succ]
      refine tkV (i := 8) (d := some 113) (v := ?_) rfl (by kernel_rfl) (by kernel_rfl) (by kernel_rfl) rfl (fun _ _ _ h => h) (by rfl) ?_ (by assumption) ?_
      rotate_left
      · (intro w hSw; (try dsimp only at hSw); (try simp only [List.getElem_toArray, List.getElem_cons_zero, List.getElem_cons_succ]); go_simp; try with_reducible rfl)
      try simp only [Act.put, List.setIfInBounds_toArray, List.set_cons_zero, List.set_cons_succ]
      refine tkV (i := 9) (d := some 114) (v := .bool false) rfl (by kernel_rfl) (by kernel_rfl) (by kernel_rfl) rfl (fun _ _ _ h => h) (by rfl) ?_ (by assumption) ?_
      · (intro w hSw; (try dsimp only at hSw); (try simp only [List.getElem_toArray, List.getElem_cons_zero, List.getElem_cons_succ]); go_simp; try with_reducible rfl)
      try simp only [Act.put, List.setIfInBounds_toArray, List.set_cons_zero, List.set_cons_succ]
      refine tkV (i := 10) (d := some 115) (v := ?_) rfl (by kernel_rfl) (by kernel_rfl) (by kernel_rfl) rfl (fun _ _ _ h => h) (by rfl) ?_ (by assumption) ?_
      rotate_left
      · (intro w hSw; (try dsimp only at hSw); (try simp only [List.getElem_toArray, List.getElem_cons_zero, List.getElem_cons_succ]); go_simp; try with_reducible rfl)
      try simp only [Act.put, List.setIfInBounds_toArray, List.set_cons_zero, List.set_cons_succ]
      refine tkV (i := 11) (d := some 116) (v := ?_) rfl (by kernel_rfl) (by kernel_rfl) (by kernel_rfl) rfl (fun _ _ _ h => h) (by rfl) ?_ (by assumption) ?_
      rotate_left
      · (intro w hSw; (try dsimp only at hSw); (try simp only [List.getElem_toArray, List.getElem_cons_zero, List.getElem_cons_succ]); go_simp; try with_reducible rfl)
      try simp only [Act.put, List.setIfInBounds_toArray, List.set_cons_zero, List.set_cons_succ]
      refine tkV (i := 12) (d := some 117) (v := ?_) rfl (by kernel_rfl) (by kernel_rfl) (by kernel_rfl) rfl (fun _ _ _ h => h) (by rfl) ?_ (by assumption) ?_
      rotate_left
      · (intro w hSw; (try dsimp only at hSw); (try simp only [List.getElem_toArray, List.getElem_cons_zero, List.getElem_cons_succ]); go_simp; try with_reducible rfl)
      try simp only [Act.put, List.setIfInBounds_toArray, List.set_cons_zero, List.set_cons_succ]
      refine tkV (i := 14) (d := some 119) (v := ?_) rfl (by kernel_rfl) (by kernel_rfl) (by kernel_rfl) rfl (fun _ _ _ h => h) (by rfl) ?_ (by assumption) ?_
      rotate_left
      · (intro w hSw; (try dsimp only at hSw); (try simp only [List.getElem_toArray, List.getElem_cons_zero, List.getElem_cons_succ]); go_simp; try with_reducible rfl)
      try simp only [Act.put, List.setIfInBounds_toArray, List.set_cons_zero, List.set_cons_succ]
      refine tkV (i := 15) (d := some 120) (v := ?_) rfl (by kernel_rfl) (by kernel_rfl) (by kernel_rfl) rfl (fun _ _ _ h => h) (by rfl) ?_ (by assumption) ?_
      rotate_left
      · (intro w hSw; (try dsimp only at hSw); (try simp only [List.getElem_toArray, List.getElem_cons_zero, List.getElem_cons_succ]); go_simp; try with_reducible rfl)
      try simp only [Act.put, List.setIfInBounds_toArray, List.set_cons_zero, List.set_cons_succ]
      refine tkV (i := 16) (d := some 121) (v := ?_) rfl (by kernel_rfl) (by kernel_rfl) (by kernel_rfl) rfl (fun _ _ _ h => h) (by rfl) ?_ (by assumption) ?_
      rotate_left
      · (intro w hSw; (try dsimp only at hSw); (try simp only [List.getElem_toArray, List.getElem_cons_zero, List.getElem_cons_succ]); go_simp; try with_reducible rfl)
      try simp only [Act.put, List.setIfInBounds_toArray, List.set_cons_zero, List.set_cons_succ]
      refine wpAnyH_ready (rs := [13]) (by kernel_rfl) (by simp) (AllReadyH.cons rfl (fun K hK => ?_) AllReadyH.nil)
      try simp only [List.getElem_toArray, List.getElem_cons_zero, List.getElem_cons_succ]
      go_simp
      refine (HMpl.out _ HMf.out).mono ?_
      rintro r wg ⟨rfl, hbg⟩
      have HMg := hid0 (HMf.out.past hbg)
      have hsg := HSk20.out _ HMg.out
      clear hbg
      go_wp2_with fail
      refine hK.out _ _ ?_ (fun hHeld13 => ?_)
      · exact hsg
      clear hK K
      (try simp only [Act.put]); (try simp only [List.setIfInBounds_toArray]); (try simp only [List.set_cons_succ]); (try simp only [List.set_cons_zero])
      refine wpAnyH_ready (rs := [17]) (by kernel_rfl) (by simp) (AllReadyH.cons rfl (fun K hK => ?_) AllReadyH.nil)
      try simp only [List.getElem_toArray, List.getElem_cons_zero, List.getElem_cons_succ]
      go_simp
      refine (HSp2.out _ HMg.out).mono ?_
      rintro r wh ⟨rfl, hbh⟩
      have HMh := hid0 (HMg.out.past hbh)
      have hsh := HSk20.out _ HMh.out
      clear hbh
      go_wp2_with fail
      refine hK.out _ _ ?_ (fun hHeld17 => ?_)
      · exact hsh
      clear hK K
      (try simp only [Act.put]); (try simp only [List.setIfInBounds_toArray]); (try simp only [List.set_cons_succ]); (try simp only [List.set_cons_zero])
      refine tkV (i := 18) (d := some 123) (v := .bool false) rfl (by kernel_rfl) (by kernel_rfl) (by kernel_rfl) rfl (fun _ _ _ h => h) (by rfl) ?_ (by assumption) ?_
      · (intro w hSw; (try dsimp only at hSw); (try simp only [List.getElem_toArray, List.getElem_cons_zero, List.getElem_cons_succ]); go_simp; try with_reducible rfl)
      try simp only [Act.put, List.setIfInBounds_toArray, List.set_cons_zero, List.set_cons_succ]
      refine tkV (i := 19) (d := some 124) (v := ?_) rfl (by kernel_rfl) (by kernel_rfl) (by kernel_rfl) rfl (fun _ _ _ h => h) (by rfl) ?_ (by assumption) ?_
      rotate_left
      · (intro w hSw; (try dsimp only at hSw); (try simp only [List.getElem_toArray, List.getElem_cons_zero, List.getElem_cons_succ]); go_simp; try with_reducible rfl)
      try simp only [Act.put, List.setIfInBounds_toArray, List.set_cons_zero, List.set_cons_succ]
      refine wpAnyH_done (by kernel_rfl) ?_ _
      refine NoPanic.normal ?_
      have hcx := HBox.out _ HMh.out.bel
      go_wp2_with (first
        | (go_at_call 12
           refine (HSet.out _ (Below.later HBb.out HMh.out.bel)).mono ?_
           rintro r wS ⟨gS, cS, hS, dS, rfl, q1, q2, q3⟩
           have HMS := hid0 (HMh.out.past q3)
           have HQ1 := hid0 q1
           have HQ2 := hid0 q2
           clear q1 q2 q3)
        | fail)
      obtain ⟨hbX, hrX, _⟩ := laid (rfl : wS.alloc (.cells #[.int .i64 2, .bool tA, .slice gS (nmK NA 3).length cS, .slice hS (ptK PA).length dS, .slice none 0 0] 28) = _)
      generalize wS.alloc (.cells #[.int .i64 2, .bool tA, .slice gS (nmK NA 3).length cS, .slice hS (ptK PA).length dS, .slice none 0 0] 28) = wX at *
      have HMX := hid0 (HMS.out.past hbX)
      have HIs : Hid (ExIs wX tt (.mk 2 tA (nmK NA 3) (ptK PA) []) ⟨.int .i64 2, .bool tA, .slice gS (nmK NA 3).length cS, .slice hS (ptK PA).length dS, .slice none 0 0⟩) := hid0 ((set_is cS dS HQ1.out HQ2.out (by have := nmK_len NA 3; omega) (by have := pts_len PA; omega)).tt.past hbX)
      have HRX := hid0 hrX
      have HBX := hid0 hbX
      clear hbX hrX
      have HMz := hid0 (fun (V : World) (hV : Below wX.heap.size wX V) => match_at (.mk 2 tA (nmK NA 3) (ptK PA) []) _ tt l (some ⟨gw, ow, none⟩) cv A V (by have := HLe.out; omega) (HIs.out.past hV) (HMX.out.past hV).e3 (HMX.out.past hV).wv.ka)
      unfold EV.v at HMz
      simp only [] at HMz
      by_cases ho : l.length = 1
      · obtain ⟨⟨s1, p1⟩, hu⟩ := List.length_eq_one_iff.1 ho
        rw [show mtB (.mk 2 tA (nmK NA 3) (ptK PA) []) l = holdsF tA (nmK NA 3) (ptK PA) s1 p1 by rw [hu]; exact eq_set1 tA NA PA (s1, p1)] at HMz
        have hoB : ((l.length : Int) == 1) = true := by simp; omega
        have ho1 : (0 : Int) < (l.length : Int) := by omega
        have ho0 : 0 < l.length := by omega
        clear ho
        have HHo := hid0 (fun (V : World) (hV : Below wX.heap.size wX V) => holds_any tA (nmK NA 3) (ptK PA) gS hS cS dS s1 p1 V (by have := nmK_len NA 3; omega) (by have := pts_len PA; omega) ((HQ1.out.sa.below HBX.out).below hV) ((HQ2.out.ra.below HBX.out).below hV))
        have HSz : Hid (∀ V, Below wX.heap.size wX V → (V.cell? ⟨wS.heap.size, 0, none⟩ = some (.int .i64 2) ∧ V.cell? ⟨wS.heap.size, 1, none⟩ = some (.bool tA) ∧ V.cell? ⟨wS.heap.size, 2, none⟩ = some (.slice gS (nmK NA 3).length cS) ∧ V.cell? ⟨wS.heap.size, 3, none⟩ = some (.slice hS (ptK PA).length dS) ∧ V.cell? ⟨wS.heap.size, 4, none⟩ = some (.slice none 0 0)) ∧ V.cell? ⟨gw, ow, none⟩ = some (.string s1) ∧ V.cell? ⟨gw, ow + 1, none⟩ = some (.int .i64 p1)) := hid0 (fun V hV => ⟨(rowE (kept hV HRX.out)).1, by
          have hk := (HMX.out.past hV).wv.ka
          rw [hu] at hk
          obtain ⟨b', o', e', _, h1, h2⟩ := hk.at' 0 (by simp)
          cases e'
          exact ⟨by simpa using h1, by simpa using h2⟩⟩)
        have HU := hid0 hu
        clear hu
        generalize holdsF tA (nmK NA 3) (ptK PA) s1 p1 = hd at *
        have HBd := hid0 (Below.refl wX.heap.size wX).drew
        have hsx := HSz.out _ HBd.out
        refine wp_region_noPanic ?_
        refine wp_region_held_drew (S := (fun V => (V.cell? ⟨wS.heap.size, 0, none⟩ = some (.int .i64 2) ∧ V.cell? ⟨wS.heap.size, 1, none⟩ = some (.bool tA) ∧ V.cell? ⟨wS.heap.size, 2, none⟩ = some (.slice gS (nmK NA 3).length cS) ∧ V.cell? ⟨wS.heap.size, 3, none⟩ = some (.slice hS (ptK PA).length dS) ∧ V.cell? ⟨wS.heap.size, 4, none⟩ = some (.slice none 0 0)) ∧ V.cell? ⟨gw, ow, none⟩ = some (.string s1) ∧ V.cell? ⟨gw, ow + 1, none⟩ = some (.int .i64 p1))) (by kernel_rfl) ?_ (fun hHeld => ?_)
        · exact hsx
        refine tkV (i := 0) (d := some 130) (v := ?_) rfl (by kernel_rfl) (by kernel_rfl) (by kernel_rfl) rfl (fun _ _ _ h => h) (by rfl) ?_ (by assumption) ?_
        rotate_left
        · (intro w hSw; (try dsimp only at hSw); (try simp only [List.getElem_toArray, List.getElem_cons_zero]); go_simp; try with_reducible rfl)
        try simp only [Act.put, List.setIfInBounds_toArray, List.set_cons_zero, List.set_cons_succ]
        refine tkV (i := 1) (d := some 131) (v := ?_) rfl (by kernel_rfl) (by kernel_rfl) (by kernel_rfl) rfl (fun _ _ _ h => h) (by rfl) ?_ (by assumption) ?_
        rotate_left
        · (intro w hSw; (try dsimp only at hSw); (try simp only [List.getElem_toArray, List.getElem_cons_zero, List.getElem_cons_succ]); go_simp; try with_reducible rfl)
        try simp only [Act.put, List.setIfInBounds_toArray, List.set_cons_zero, List.set_cons_succ]
        refine tkV (i := 3) (d := some 133) (v := ?_) rfl (by kernel_rfl) (by kernel_rfl) (by kernel_rfl) rfl (fun _ _ _ h => h) (by rfl) ?_ (by assumption) ?_
        rotate_left
        · (intro w hSw; (try dsimp only at hSw); (try simp only [List.getElem_toArray, List.getElem_cons_zero, List.getElem_cons_succ]); go_simp; try with_reducible rfl)
        try simp only [Act.put, List.setIfInBounds_toArray, List.set_cons_zero, List.set_cons_succ]
        refine tkV (i := 4) (d := some 134) (v := ?_) rfl (by kernel_rfl) (by kernel_rfl) (by kernel_rfl) rfl (fun _ _ _ h => h) (by rfl) ?_ (by assumption) ?_
        rotate_left
        · (intro w hSw; (try dsimp only at hSw); (try simp only [List.getElem_toArray, List.getElem_cons_zero, List.getElem_cons_succ]); go_simp; try with_reducible rfl)
        try simp only [Act.put, List.setIfInBounds_toArray, List.set_cons_zero, List.set_cons_succ]
        refine tkV (i := 5) (d := some 135) (v := ?_) rfl (by kernel_rfl) (by kernel_rfl) (by kernel_rfl) rfl (fun _ _ _ h => h) (by rfl) ?_ (by assumption) ?_
        rotate_left
        · (intro w hSw; (try dsimp only at hSw); (try simp only [List.getElem_toArray, List.getElem_cons_zero, List.getElem_cons_succ]); go_simp; try with_reducible rfl)
        try simp only [Act.put, List.setIfInBounds_toArray, List.set_cons_zero, List.set_cons_succ]
        refine wpAnyH_ready (rs := [2]) (by kernel_rfl) (by simp) (AllReadyH.cons rfl (fun K hK => ?_) AllReadyH.nil)
        try simp only [List.getElem_toArray, List.getElem_cons_zero, List.getElem_cons_succ]
        go_simp
        refine (HMz.out _ HBd.out).mono ?_
        rintro r wY ⟨rfl, hbY⟩
        have HBY := hid0 (Below.later HBd.out hbY)
        have hsY := HSz.out _ HBY.out
        clear hbY
        go_wp2_with fail
        refine hK.out _ _ ?_ (fun hHeld2 => ?_)
        · exact hsY
        clear hK K
        (try simp only [Act.put]); (try simp only [List.setIfInBounds_toArray]); (try simp only [List.set_cons_succ]); (try simp only [List.set_cons_zero])
        refine tkV (i := 6) (d := some 136) (v := ?_) rfl (by kernel_rfl) (by kernel_rfl) (by kernel_rfl) rfl (fun _ _ _ h => h) (by rfl) ?_ (by assumption) ?_
        rotate_left
        · (intro w hSw; (try dsimp only at hSw); (try simp only [List.getElem_toArray, List.getElem_cons_zero, List.getElem_cons_succ]); go_simp; try with_reducible rfl)
        try simp only [Act.put, List.setIfInBounds_toArray, List.set_cons_zero, List.set_cons_succ]
        refine tkV (i := 7) (d := some 137) (v := ?_) rfl (by kernel_rfl) (by kernel_rfl) (by kernel_rfl) rfl (fun _ _ _ h => h) (by rfl) ?_ (by assumption) ?_
        rotate_left
        · (intro w hSw; (try dsimp only at hSw); (try simp only [List.getElem_toArray, List.getElem_cons_zero, List.getElem_cons_succ]); go_simp; try with_reducible rfl)
        try simp only [Act.put, List.setIfInBounds_toArray, List.set_cons_zero, List.set_cons_succ]
        refine tkV (i := 8) (d := some 138) (v := ?_) rfl (by kernel_rfl) (by kernel_rfl) (by kernel_rfl) rfl (fun _ _ _ h => h) (by rfl) ?_ (by assumption) ?_
        rotate_left
        · (intro w hSw; (try dsimp only at hSw); (try simp only [List.getElem_toArray, List.getElem_cons_zero, List.getElem_cons_succ]); go_simp; try with_reducible rfl)
        try simp only [Act.put, List.setIfInBounds_toArray, List.set_cons_zero, List.set_cons_succ]
        refine tkV (i := 9) (d := some 139) (v := ?_) rfl (by kernel_rfl) (by kernel_rfl) (by kernel_rfl) rfl (fun _ _ _ h => h) (by rfl) ?_ (by assumption) ?_
        rotate_left
        · (intro w hSw; (try dsimp only at hSw); (try simp only [List.getElem_toArray, List.getElem_cons_zero, List.getElem_cons_succ]); go_simp; try with_reducible rfl)
        try simp only [Act.put, List.setIfInBounds_toArray, List.set_cons_zero, List.set_cons_succ]
        refine tkV (i := 10) (d := some 140) (v := ?_) rfl (by kernel_rfl) (by kernel_rfl) (by kernel_rfl) rfl (fun _ _ _ h => h) (by rfl) ?_ (by assumption) ?_
        rotate_left
        · (intro w hSw; (try dsimp only at hSw); (try simp only [List.getElem_toArray, List.getElem_cons_zero, List.getElem_cons_succ]); go_simp; try with_reducible rfl)
        try simp only [Act.put, List.setIfInBounds_toArray, List.set_cons_zero, List.set_cons_succ]
        refine tkV (i := 11) (d := some 141) (v := ?_) rfl (by kernel_rfl) (by kernel_rfl) (by kernel_rfl) rfl (fun _ _ _ h => h) (by rfl) ?_ (by assumption) ?_
        rotate_left
        · (intro w hSw; (try dsimp only at hSw); (try simp only [List.getElem_toArray, List.getElem_cons_zero, List.getElem_cons_succ]); go_simp; try with_reducible rfl)
        try simp only [Act.put, List.setIfInBounds_toArray, List.set_cons_zero, List.set_cons_succ]
        refine wpAnyH_ready (rs := [12]) (by kernel_rfl) (by simp) (AllReadyH.cons rfl (fun K hK => ?_) AllReadyH.nil)
        try simp only [List.getElem_toArray, List.getElem_cons_zero, List.getElem_cons_succ]
        go_simp
        refine (HHo.out _ HBY.out).mono ?_
        rintro r wZ ⟨rfl, hbZ⟩
        have HBZ := hid0 (Below.later HBY.out hbZ)
        have hsZ := HSz.out _ HBZ.out
        clear hbZ
        go_wp2_with fail
        refine hK.out _ _ ?_ (fun hHeld12 => ?_)
        · exact hsZ
        clear hK K
        (try simp only [Act.put]); (try simp only [List.setIfInBounds_toArray]); (try simp only [List.set_cons_succ]); (try simp only [List.set_cons_zero])
        refine tkV (i := 13) (d := some 143) (v := ?_) rfl (by kernel_rfl) (by kernel_rfl) (by kernel_rfl) rfl (fun _ _ _ h => h) (by rfl) ?_ (by assumption) ?_
        rotate_left
        · (intro w hSw; (try dsimp only at hSw); (try simp only [List.getElem_toArray, List.getElem_cons_zero, List.getElem_cons_succ]); go_simp; try with_reducible rfl)
        try simp only [Act.put, List.setIfInBounds_toArray, List.set_cons_zero, List.set_cons_succ]
        refine tkV (i := 14) (d := some 144) (v := .bool true) rfl (by kernel_rfl) (by kernel_rfl) (by kernel_rfl) rfl (fun _ _ _ h => h) (by rfl) ?_ (by assumption) ?_
        · (intro w hSw; (try dsimp only at hSw); (try simp only [List.getElem_toArray, List.getElem_cons_zero, List.getElem_cons_succ]); go_simp; try with_reducible rfl)
        try simp only [Act.put, List.setIfInBounds_toArray, List.set_cons_zero, List.set_cons_succ]
        refine tkV (i := 15) (d := some 2) (v := ?_) rfl (by kernel_rfl) (by kernel_rfl) (by kernel_rfl) rfl (fun _ _ _ h => h) (by rfl) ?_ (by assumption) ?_
        rotate_left
        · (intro w hSw; (try dsimp only at hSw); (try simp only [List.getElem_toArray, List.getElem_cons_zero, List.getElem_cons_succ]); go_simp; try with_reducible rfl)
        try simp only [Act.put, List.setIfInBounds_toArray, List.set_cons_zero, List.set_cons_succ]
        refine wpAnyH_done (by kernel_rfl) ?_ _
        refine NoPanic.normal ?_
        go_wp2
        go_ret
        exact ⟨rfl, Below.later HBb.out (HMX.out.past HBZ.out).bel⟩
      · have hoB : ((l.length : Int) == 1) = false := by simp; have := HZ.out; omega
        rw [eq_set0 tA NA PA l (by have := HZ.out; omega)] at HMz
        have HSz : Hid (∀ V, Below wX.heap.size wX V → V.cell? ⟨wS.heap.size, 0, none⟩ = some (.int .i64 2) ∧ V.cell? ⟨wS.heap.size, 1, none⟩ = some (.bool tA) ∧ V.cell? ⟨wS.heap.size, 2, none⟩ = some (.slice gS (nmK NA 3).length cS) ∧ V.cell? ⟨wS.heap.size, 3, none⟩ = some (.slice hS (ptK PA).length dS) ∧ V.cell? ⟨wS.heap.size, 4, none⟩ = some (.slice none 0 0)) := hid0 (fun V hV => (rowE (kept hV HRX.out)).1)
        have HBd := hid0 (Below.refl wX.heap.size wX).drew
        have hsx := HSz.out _ HBd.out
        refine wp_region_noPanic ?_
        refine wp_region_held_drew (S := (fun V => V.cell? ⟨wS.heap.size, 0, none⟩ = some (.int .i64 2) ∧ V.cell? ⟨wS.heap.size, 1, none⟩ = some (.bool tA) ∧ V.cell? ⟨wS.heap.size, 2, none⟩ = some (.slice gS (nmK NA 3).length cS) ∧ V.cell? ⟨wS.heap.size, 3, none⟩ = some (.slice hS (ptK PA).length dS) ∧ V.cell? ⟨wS.heap.size, 4, none⟩ = some (.slice none 0 0))) (by kernel_rfl) ?_ (fun hHeld => ?_)
        · exact hsx
        refine tkV (i := 0) (d := some 130) (v := ?_) rfl (by kernel_rfl) (by kernel_rfl) (by kernel_rfl) rfl (fun _ _ _ h => h) (by rfl) ?_ (by assumption) ?_
        rotate_left
        · (intro w hSw; (try dsimp only at hSw); (try simp only [List.getElem_toArray, List.getElem_cons_zero]); go_simp; try with_reducible rfl)
        try simp only [Act.put, List.setIfInBounds_toArray, List.set_cons_zero, List.set_cons_succ]
        refine tkV (i := 1) (d := some 131) (v := ?_) rfl (by kernel_rfl) (by kernel_rfl) (by kernel_rfl) rfl (fun _ _ _ h => h) (by rfl) ?_ (by assumption) ?_
        rotate_left
        · (intro w hSw; (try dsimp only at hSw); (try simp only [List.getElem_toArray, List.getElem_cons_zero, List.getElem_cons_succ]); go_simp; try with_reducible rfl)
        try simp only [Act.put, List.setIfInBounds_toArray, List.set_cons_zero, List.set_cons_succ]
        refine tkV (i := 3) (d := some 133) (v := ?_) rfl (by kernel_rfl) (by kernel_rfl) (by kernel_rfl) rfl (fun _ _ _ h => h) (by rfl) ?_ (by assumption) ?_
        rotate_left
        · (intro w hSw; (try dsimp only at hSw); (try simp only [List.getElem_toArray, List.getElem_cons_zero, List.getElem_cons_succ]); go_simp; try with_reducible rfl)
        try simp only [Act.put, List.setIfInBounds_toArray, List.set_cons_zero, List.set_cons_succ]
        refine tkV (i := 4) (d := some 134) (v := ?_) rfl (by kernel_rfl) (by kernel_rfl) (by kernel_rfl) rfl (fun _ _ _ h => h) (by rfl) ?_ (by assumption) ?_
        rotate_left
        · (intro w hSw; (try dsimp only at hSw); (try simp only [List.getElem_toArray, List.getElem_cons_zero, List.getElem_cons_succ]); go_simp; try with_reducible rfl)
        try simp only [Act.put, List.setIfInBounds_toArray, List.set_cons_zero, List.set_cons_succ]
        refine tkV (i := 5) (d := some 135) (v := ?_) rfl (by kernel_rfl) (by kernel_rfl) (by kernel_rfl) rfl (fun _ _ _ h => h) (by rfl) ?_ (by assumption) ?_
        rotate_left
        · (intro w hSw; (try dsimp only at hSw); (try simp only [List.getElem_toArray, List.getElem_cons_zero, List.getElem_cons_succ]); go_simp; try with_reducible rfl)
        try simp only [Act.put, List.setIfInBounds_toArray, List.set_cons_zero, List.set_cons_succ]
        refine wpAnyH_ready (rs := [2]) (by kernel_rfl) (by simp) (AllReadyH.cons rfl (fun K hK => ?_) AllReadyH.nil)
        try simp only [List.getElem_toArray, List.getElem_cons_zero, List.getElem_cons_succ]
        go_simp
        refine (HMz.out _ HBd.out).mono ?_
        rintro r wY ⟨rfl, hbY⟩
        have HBY := hid0 (Below.later HBd.out hbY)
        have hsY := HSz.out _ HBY.out
        clear hbY
        go_wp2_with fail
        refine hK.out _ _ ?_ (fun hHeld2 => ?_)
        · exact hsY
        clear hK K
        (try simp only [Act.put]); (try simp only [List.setIfInBounds_toArray]); (try simp only [List.set_cons_succ]); (try simp only [List.set_cons_zero])
        refine tkV (i := 6) (d := some 136) (v := ?_) rfl (by kernel_rfl) (by kernel_rfl) (by kernel_rfl) rfl (fun _ _ _ h => h) (by rfl) ?_ (by assumption) ?_
        rotate_left
        · (intro w hSw; (try dsimp only at hSw); (try simp only [List.getElem_toArray, List.getElem_cons_zero, List.getElem_cons_succ]); go_simp; try with_reducible rfl)
        try simp only [Act.put, List.setIfInBounds_toArray, List.set_cons_zero, List.set_cons_succ]
        refine tkU (i := 7) (d := some 137) rfl (by kernel_rfl) (by kernel_rfl) (by kernel_rfl) rfl (fun _ _ _ h => h) (by rfl) (by assumption) ?_
        try simp only [Act.put, List.setIfInBounds_toArray, List.set_cons_zero, List.set_cons_succ]
        refine tkU (i := 8) (d := some 138) rfl (by kernel_rfl) (by kernel_rfl) (by kernel_rfl) rfl (fun _ _ _ h => h) (by rfl) (by assumption) ?_
        try simp only [Act.put, List.setIfInBounds_toArray, List.set_cons_zero, List.set_cons_succ]
        refine tkU (i := 9) (d := some 139) rfl (by kernel_rfl) (by kernel_rfl) (by kernel_rfl) rfl (fun _ _ _ h => h) (by rfl) (by assumption) ?_
        try simp only [Act.put, List.setIfInBounds_toArray, List.set_cons_zero, List.set_cons_succ]
        refine tkU (i := 10) (d := some 140) rfl (by kernel_rfl) (by kernel_rfl) (by kernel_rfl) rfl (fun _ _ _ h => h) (by rfl) (by assumption) ?_
        try simp only [Act.put, List.setIfInBounds_toArray, List.set_cons_zero, List.set_cons_succ]
        refine tkU (i := 11) (d := some 141) rfl (by kernel_rfl) (by kernel_rfl) (by kernel_rfl) rfl (fun _ _ _ h => h) (by rfl) (by assumption) ?_
        try simp only [Act.put, List.setIfInBounds_toArray, List.set_cons_zero, List.set_cons_succ]
        refine wpAnyH_ready (rs := [12]) (by kernel_rfl) (by simp) (AllReadyH.cons rfl (fun K hK => ?_) AllReadyH.nil)
        try simp only [List.getElem_toArray, List.getElem_cons_zero, List.getElem_cons_succ]
        go_simp
        refine hK.out _ _ ?_ (fun hHeld12 => ?_)
        · assumption
        clear hK K
        (try simp only [Act.put]); (try simp only [List.setIfInBounds_toArray]); (try simp only [List.set_cons_succ]); (try simp only [List.set_cons_zero])
        refine tkV (i := 13) (d := some 143) (v := ?_) rfl (by kernel_rfl) (by kernel_rfl) (by kernel_rfl) rfl (fun _ _ _ h => h) (by rfl) ?_ (by assumption) ?_
        rotate_left
        · (intro w hSw; (try dsimp only at hSw); (try simp only [List.getElem_toArray, List.getElem_cons_zero, List.getElem_cons_succ]); go_simp; try with_reducible rfl)
        try simp only [Act.put, List.setIfInBounds_toArray, List.set_cons_zero, List.set_cons_succ]
        refine tkV (i := 14) (d := some 144) (v := .bool true) rfl (by kernel_rfl) (by kernel_rfl) (by kernel_rfl) rfl (fun _ _ _ h => h) (by rfl) ?_ (by assumption) ?_
        · (intro w hSw; (try dsimp only at hSw); (try simp only [List.getElem_toArray, List.getElem_cons_zero, List.getElem_cons_succ]); go_simp; try with_reducible rfl)
        try simp only [Act.put, List.setIfInBounds_toArray, List.set_cons_zero, List.set_cons_succ]
        refine tkV (i := 15) (d := some 2) (v := ?_) rfl (by kernel_rfl) (by kernel_rfl) (by kernel_rfl) rfl (fun _ _ _ h => h) (by rfl) ?_ (by assumption) ?_
        rotate_left
        · (intro w hSw; (try dsimp only at hSw); (try simp only [List.getElem_toArray, List.getElem_cons_zero, List.getElem_cons_succ]); go_simp; try with_reducible rfl)
        try simp only [Act.put, List.setIfInBounds_toArray, List.set_cons_zero, List.set_cons_succ]
        refine wpAnyH_done (by kernel_rfl) ?_ _
        refine NoPanic.normal ?_
        go_wp2
        go_ret
        exact ⟨rfl, Below.later HBb.out (HMX.out.past HBY.out).bel⟩
end Go.Proofs.YtolnoojbcbdfiaaDoor
namespace Go.Proofs.YtolnoojbcbdfiaaDoor
open Go.RowKit Go.Shelf
theorem exprMeans_any (eA eB : Ex) (xA xB : EV) (lw : List Kd) (aw : Option Addr) (cw : Nat) (A : Nat → Addr) (w : World) (hA : ExIn w eA xA) (hB : ExIn w eB xB) (hw : KA w w.heap.size aw lw) (hE : E3 w A) :
    Calls Tryd.prog 3 #[.agg #[xA.k, xA.t, xA.n, xA.p, xA.r, xB.k, xB.t, xB.n, xB.p, xB.r, .slice aw lw.length cw]] w fun r w' => r = .returned (.bool true) ∧ Below w.heap.size w w' := by
  by_cases hz : (wordK lw).length = 0
  · cases hin : mtB (tidyE 3 eA) (wordK lw) with
    | false => exact means_00 eA eB xA xB lw aw cw A w hA hB hw hE hz hin
    | true => exact means_01 eA eB xA xB lw aw cw A w hA hB hw hE hz hin
  · cases hin : mtB (tidyE 3 eA) (wordK lw) with
    | false => exact means_10 eA eB xA xB lw aw cw A w hA hB hw hE hz hin
    | true => exact means_11 eA eB xA xB lw aw cw A w hA hB hw hE hz hin
end Go.Proofs.YtolnoojbcbdfiaaDoor
namespace Go.Proofs.YtolnoojbcbdfiaaDoor
open Go.ChangeShapes Go.WideShapes Go.ChangeAt Go.RowKit
theorem own : ownKnob Tryd.prog.godebug = none := by kernel_rfl
/-- The settled world, the listed variables holding what their initialisers lay. -/
def laidWorld (hold : World) : World := { hold with heap := ((((((((hold.heap.modify 0 fun | .cells _ t frozen => .cells #[.iface 136 (.pointer (some ⟨hold.heap.size + 0, 0, none⟩))] t frozen | o => o).modify 1 fun | .cells _ t frozen => .cells #[.iface 136 (.pointer (some ⟨hold.heap.size + 1, 0, none⟩))] t frozen | o => o).modify 2 fun | .cells _ t frozen => .cells #[.iface 136 (.pointer (some ⟨hold.heap.size + 2, 0, none⟩))] t frozen | o => o).modify 4 fun | .cells _ t frozen => .cells (Go.Pinned.utf8FirstZ.map fun n => Value.int .u8 (Int.ofNat n)).toArray t frozen | o => o).modify 5 fun | .cells _ t frozen => .cells #[.int .u8 128, .int .u8 191, .int .u8 160, .int .u8 191, .int .u8 128, .int .u8 159, .int .u8 144, .int .u8 191, .int .u8 128, .int .u8 143, .int .u8 0, .int .u8 0, .int .u8 0, .int .u8 0, .int .u8 0, .int .u8 0, .int .u8 0, .int .u8 0, .int .u8 0, .int .u8 0, .int .u8 0, .int .u8 0, .int .u8 0, .int .u8 0, .int .u8 0, .int .u8 0, .int .u8 0, .int .u8 0, .int .u8 0, .int .u8 0, .int .u8 0, .int .u8 0] t frozen | o => o).push (.cells #[.string ⟨#[97, 98, 111, 118, 101, 32, 97, 32, 108, 105, 109, 105, 116]⟩] 153)).push (.cells #[.string ⟨#[97, 32, 110, 117, 109, 98, 101, 114, 32, 111, 114, 32, 97, 110, 32, 97, 114, 103, 117, 109, 101, 110, 116, 32, 105, 115, 32, 111, 117, 116, 32, 111, 102, 32, 105, 116, 115, 32, 112, 108, 97, 99, 101]⟩] 153)).push (.cells #[.string ⟨#[110, 111, 116, 32, 116, 104, 101, 32, 111, 110, 101, 32, 102, 111, 114, 109, 32, 116, 104, 97, 116, 32, 105, 115, 32, 119, 114, 105, 116, 116, 101, 110]⟩] 153)) }
set_option maxRecDepth 100000 in
theorem door_shaped (os : Os) (args : Array Value) : ((laidWorld (World.holding Tryd.prog os ⟨#[], #[], []⟩)).forCall (fun _ _ => 0) ⟨#[], args, []⟩).Shaped Tryd.prog :=
  World.shaped_of_RefB (by kernel_rfl) (by kernel_rfl)
/-- An input that fits, at a world that is written out. -/
theorem witness_row_shaped {H : Type} {enc : TypeId × Value → H} {C : Checked} {os : Os} {f : FuncId} {fn : Func} {s : OpenSpec} {conds : List PathCond} {apart : Bool} {laid : List (String × DataW Unit)} (w0 : World) (args : Array Value) (hos : w0.os = os)
    (hsh : (w0.forCall (fun _ _ => 0) ⟨#[], args, []⟩).Shaped C.prog)
    (hok : Input.okWideB C.prog (w0.forCall (fun _ _ => 0) ⟨#[], args, []⟩) f ⟨#[], args, []⟩ = true)
    (hrow : s.preRow enc C.prog fn conds apart laid (w0.forCall (fun _ _ => 0) ⟨#[], args, []⟩).memory args) :
    ∃ (w : World) (tape : Tape) (i : Input), w.os = os ∧ (w.forCall tape i).Shaped C.prog ∧ i.vars = [] ∧ Input.okWide C.prog (w.forCall tape i) .any w.heap.size f i ∧
      s.preRow enc C.prog fn conds apart laid (w.forCall tape i).memory i.args ∧ ({} : Assume).holds C.prog (lone (Frame.enter C.prog f i.args .normal) [] (w.forCall tape i)) :=
  ⟨w0, fun _ _ => 0, ⟨#[], args, []⟩, hos, hsh, (Input.okWide_of_okWideB (base := 0) hok).1, (Input.okWide_of_okWideB hok).2, hrow, by
    simp only [Assume.holds]
    exact ⟨by simp, by simp, by simp, by simp, by simp⟩⟩
theorem laidOut : laidOutB Tryd.prog = true := by kernel_rfl
set_option maxRecDepth 10000 in
/-- The frame of a law of one parameter that answers true, writes nothing that was there, and lists no variable among its readings. -/
theorem law_contract {H : Type} {enc : TypeId × Value → H} {f : FuncId} {fn : Func} {s : ChangeSpec} {t : TypeId} (hp : fn.params = #[t]) (hrt : fn.resultTypes = #[4]) (hvars : s.vars = [])
    (hfn : ∀ (K : Type) (d : DataW K), s.fn K [d] = { results := [.lit (.bool true)], args := [d] }) (hread : Tryd.prog.readableRec t = true) (hrow : t < Tryd.prog.types.size)
    (W : World) (base : Nat) (args : Array Value) (ds gs : List (DataW H)) (before : List MemPlace)
    (hval : ∀ (j : Nat) t v, fn.params[j]? = some t → args[j]? = some v → Value.okWide Tryd.prog W .any base t v)
    (hW : DataW.Whole enc Tryd.prog fn.params.toList s.vars false W args.toList ds gs before)
    (hsz : (DataW.weightsEach Tryd.prog (fn.params.toList ++ s.plain.varTypes Tryd.prog) (ds ++ gs)).all (· ≤ reachBytes) = true)
    (walk : ∀ (v : Value) (d : DataW H) (p : List MemPlace), Value.okWide Tryd.prog W .any base t v → DataW.Trod enc Tryd.prog W 0 (fun _ => true) true t v d p → (∀ x ∈ p, x.block < W.heap.size) → (∀ x ∈ d.weights Tryd.prog t, x ≤ reachBytes) → ds = [d] → gs = [] →
      Calls Tryd.prog f #[v] W fun e W' => e = .returned (.bool true) ∧ Below W.heap.size W W') :
    Calls Tryd.prog f args W fun e W' => ∃ v, e = .returned v ∧ s.post enc Tryd.prog fn false true false false W args v W' := by
  have hW' := hW
  obtain ⟨p, q, hA0, hV, rfl, hfz, hnd⟩ := hW
  have hA : DataW.TrodAll enc Tryd.prog W 0 (fun _ => true) true fn.params.toList args.toList ds p := hA0
  rw [hp] at hA hval hsz
  obtain ⟨v0, vs0, d0, ds0, p0, q0, hargs, rfl, rfl, h0, r0⟩ := trodAll_cons hA
  obtain ⟨rfl, rfl, rfl⟩ := trodAll_nil r0
  obtain rfl : args = #[v0] := by cases args; simp_all
  rw [hvars] at hV
  obtain ⟨rfl, rfl⟩ := trodVars_none hV
  have hlt : ∀ x ∈ p0, x.block < W.heap.size := fun x hx => by have := hW'.lt x (by simpa using hx); simpa using this
  have hw : ∀ x ∈ d0.weights Tryd.prog t, x ≤ reachBytes := fun x hx => by
    have := List.all_eq_true.1 hsz x (DataW.weights_mem_each (j := 0) (by simp) (by simp) x hx)
    simpa using this
  refine (walk v0 d0 p0 (hval 0 t v0 rfl rfl) h0 hlt hw rfl rfl).mono fun e W' ⟨he, hb⟩ => ?_
  subst he
  refine ⟨_, rfl, [d0], [], _, [], p0 ++ [], [], hW', ?_, ?_, ?_, hb.frame _, fun h => by cases h⟩
  · rw [hrt, show ([d0] ++ ([] : List (DataW H))) = [d0] from rfl, hfn]
    exact trodAll_cons_mk (shut_bool Tryd.underlying4 true) trodAll_mk0
  · rw [hp, show ([d0] ++ ([] : List (DataW H))) = [d0] from rfl, hfn]
    exact trodAll_cons_mk (Below.trod laidOut hread hrow h0 hb hlt) trodAll_mk0
  · rw [hvars, show ([d0] ++ ([] : List (DataW H))) = [d0] from rfl, hfn]
    rfl
set_option maxRecDepth 10000 in
/-- The same frame for a law without parameters. -/
theorem law_contract0 {H : Type} {enc : TypeId × Value → H} {f : FuncId} {fn : Func} {s : ChangeSpec} (hp : fn.params = #[]) (hrt : fn.resultTypes = #[4]) (hvars : s.vars = [])
    (hfn : ∀ (K : Type), s.fn K [] = { results := [.lit (.bool true)], args := [] })
    (W : World) (args : Array Value) (ds gs : List (DataW H)) (before : List MemPlace)
    (hW : DataW.Whole enc Tryd.prog fn.params.toList s.vars false W args.toList ds gs before)
    (walk : Calls Tryd.prog f #[] W fun e W' => e = .returned (.bool true) ∧ Below W.heap.size W W') :
    Calls Tryd.prog f args W fun e W' => ∃ v, e = .returned v ∧ s.post enc Tryd.prog fn false true false false W args v W' := by
  have hW' := hW
  obtain ⟨p, q, hA0, hV, rfl, hfz, hnd⟩ := hW
  have hA : DataW.TrodAll enc Tryd.prog W 0 (fun _ => true) true fn.params.toList args.toList ds p := hA0
  rw [hp] at hA
  obtain ⟨hargs, rfl, rfl⟩ := trodAll_nil hA
  obtain rfl : args = #[] := by cases args; simp_all
  rw [hvars] at hV
  obtain ⟨rfl, rfl⟩ := trodVars_none hV
  refine walk.mono fun e W' ⟨he, hb⟩ => ?_
  subst he
  refine ⟨_, rfl, [], [], _, [], [], [], hW', ?_, ?_, ?_, hb.frame _, fun h => by cases h⟩
  · rw [hrt, show (([] : List (DataW H)) ++ []) = [] from rfl, hfn]
    exact trodAll_cons_mk (shut_bool Tryd.underlying4 true) trodAll_mk0
  · rw [hp, show (([] : List (DataW H)) ++ []) = [] from rfl, hfn]
    exact trodAll_mk0
  · rw [hvars, show (([] : List (DataW H)) ++ []) = [] from rfl, hfn]
    rfl
end Go.Proofs.YtolnoojbcbdfiaaDoor
namespace Go.Proofs.YtolnoojbcbdfiaaDoor
open Go.ChangeShapes Go.WideShapes Go.ChangeAt Go.RowKit Go.Joins
theorem cellsStrX : Tryd.prog.cellsOf 9 = 1 := by kernel_rfl
theorem cellsIntX : Tryd.prog.cellsOf 3 = 1 := by kernel_rfl
theorem cellsBoolX : Tryd.prog.cellsOf 4 = 1 := by kernel_rfl
theorem cellsSetX : Tryd.prog.cellsOf 25 = 3 := by kernel_rfl
theorem cellsExprX : Tryd.prog.cellsOf 28 = 5 := by kernel_rfl
theorem cellsRangeX : Tryd.prog.cellsOf 56 = 2 := by kernel_rfl
theorem cellsKindX : Tryd.prog.cellsOf 42 = 2 := by kernel_rfl
theorem cellsStrsX : Tryd.prog.cellsOf 22 = 1 := by kernel_rfl
theorem cellsRangesX : Tryd.prog.cellsOf 23 = 1 := by kernel_rfl
theorem cellsExprsX : Tryd.prog.cellsOf 26 = 1 := by kernel_rfl
theorem cellsKindsX : Tryd.prog.cellsOf 29 = 1 := by kernel_rfl
/-- A slice that is read: the cells of each of its elements. -/
theorem open_rows {H : Type} {enc : TypeId × Value → H} {W : World} {t e : TypeId} {m : Nat} {n : Nat} {c : Value} {x : DataW H × List MemPlace} (ht : Tryd.prog.underlying t = some (.slice e)) (hm : Tryd.prog.cellsOf e = m) (hm0 : 0 < m)
    (h : DataW.trod enc Tryd.prog W 0 (fun _ => true) true n t [c] = some x) :
    c = .slice none 0 0 ∨ ∃ (a : Addr) (len cap k : Nat), n = k + 1 ∧ c = .slice (some a) len cap ∧ ∀ i, i < len → ∃ (cs : List Value) (y : DataW H × List MemPlace), cs.length = m ∧ a = ⟨a.block, a.off, none⟩ ∧ (∀ j, j < m → W.cell? ⟨a.block, a.off + i * m + j, none⟩ = cs[j]?) ∧ DataW.trod enc Tryd.prog W 0 (fun _ => true) true k e cs = some y := by
  rcases DataW.trod_slice ht h with ⟨h0, _⟩ | ⟨a, len, cap, elems, rest, k, hk, hc, _, hb, hl, hmx, hlen, hel, _, _⟩
  · simp only [List.cons.injEq, and_true] at h0
    exact .inl h0
  · simp only [List.cons.injEq, and_true] at hc
    rw [hm] at hel
    have key : ∀ i, i < len → ∃ cs y, W.cells? 0 (a.add (i * m)) m = some cs ∧ DataW.trod enc Tryd.prog W 0 (fun _ => true) true k e cs = some y := fun i hi => by
      have h1 := hel i hi
      rw [List.getElem?_eq_getElem (by omega), Option.bind_eq_some_iff] at h1
      obtain ⟨cs, h2, h3⟩ := h1
      exact ⟨cs, _, h2, h3⟩
    refine .inr ⟨a, len, cap, k, hk, hc, fun i hi => ?_⟩
    obtain ⟨cs, y, h1, h2⟩ := key i hi
    obtain ⟨cs0, y0, g1, _⟩ := key 0 (by omega)
    obtain ⟨_, hl0, hc0⟩ := World.cells?_some g1
    have hsp : a.spot = none := by
      have q := hc0 0 (by omega)
      rw [Deep.add_add, List.getElem?_eq_getElem (by omega)] at q
      exact World.cell?_spot (a := a.add 0) (by simpa using q)
    obtain ⟨_, hlc, hcc⟩ := World.cells?_some h1
    obtain ⟨ab, ao, asp⟩ := a
    simp only at hsp
    subst hsp
    refine ⟨cs, y, hlc, rfl, fun j hj => ?_, h2⟩
    have q := hcc j hj
    rw [Deep.add_add, WideShapes.add_plain] at q
    rw [Nat.add_assoc]
    exact q
theorem lt_of_cellX {W : World} {b o : Nat} {u : Value} (h : W.cell? ⟨b, o, none⟩ = some u) : b < W.heap.size := World.block_lt_of_cell? W _ h
/-- Names that are read. -/
theorem open_namesX {H : Type} {enc : TypeId × Value → H} {W : World} {n : Nat} {c : Value} {x : DataW H × List MemPlace} (h : DataW.trod enc Tryd.prog W 0 (fun _ => true) true n 22 [c] = some x) :
    ∃ (a : Option Addr) (N : List ByteArray) (cap : Nat), c = .slice a N.length cap ∧ SA W a N := by
  rcases open_rows Tryd.underlying22 cellsStrX (by omega) h with rfl | ⟨a, len, cap, k, _, rfl, hx⟩
  · exact ⟨none, [], 0, rfl, ⟨fun k h => absurd h (Nat.not_lt_zero _)⟩⟩
  · obtain ⟨T, hT⟩ := Deep.choose_lt (n := len) (p := fun i s => a = ⟨a.block, a.off, none⟩ ∧ W.cell? ⟨a.block, a.off + i, none⟩ = some (.string s)) (fun i hi => by
      obtain ⟨cs, y, h1, h2, h3, h4⟩ := hx i hi
      obtain ⟨s, e, _⟩ := DataW.trod_string Tryd.underlying9 h4
      have q := h3 0 (by omega)
      rw [e] at q
      exact ⟨s, h2, by simpa using q⟩)
    have hlen : ((List.range len).map T).length = len := by simp
    refine ⟨some a, (List.range len).map T, cap, by rw [hlen], ⟨fun k hk => ?_⟩⟩
    rw [hlen] at hk
    have et : ((List.range len).map T)[k]'(by rw [hlen]; exact hk) = T k := by simp
    obtain ⟨p1, p2⟩ := hT k hk
    rw [et]
    exact ⟨a.block, a.off, by rw [← p1], lt_of_cellX p2, p2⟩
set_option maxRecDepth 100000 in
/-- Ranges that are read. -/
theorem open_rangesX {H : Type} {enc : TypeId × Value → H} {W : World} {n : Nat} {c : Value} {x : DataW H × List MemPlace} (h : DataW.trod enc Tryd.prog W 0 (fun _ => true) true n 23 [c] = some x) :
    ∃ (a : Option Addr) (P : List (Int × Int)) (cap : Nat), c = .slice a P.length cap ∧ RA W a P := by
  rcases open_rows Tryd.underlying23 cellsRangeX (by omega) h with rfl | ⟨a, len, cap, k, _, rfl, hx⟩
  · exact ⟨none, [], 0, rfl, ⟨fun k h => absurd h (Nat.not_lt_zero _)⟩⟩
  · obtain ⟨T, hT⟩ := Deep.choose_lt (n := len) (p := fun i (s : Int × Int) => a = ⟨a.block, a.off, none⟩ ∧ W.cell? ⟨a.block, a.off + i * 2, none⟩ = some (.int .i64 s.1) ∧ W.cell? ⟨a.block, a.off + i * 2 + 1, none⟩ = some (.int .i64 s.2)) (fun i hi => by
      obtain ⟨cs, y, h1, h2, h3, h4⟩ := hx i hi
      obtain ⟨xs, k2, _, _, _, hxl, hfs⟩ := DataW.trod_struct Tryd.underlying56 h4
      match cs, h1 with
      | [v0, v1], _ =>
        obtain ⟨y0, y1, rfl⟩ : ∃ y0 y1, xs = [y0, y1] := by
          match xs, hxl with
          | [y0, y1], _ => exact ⟨y0, y1, rfl⟩
        have f0 := hfs 0 _ rfl
        have f1 := hfs 1 _ rfl
        simp [cellsIntX] at f0 f1
        obtain ⟨m0, e0, _⟩ := DataW.trod_int Tryd.underlying3 f0
        obtain ⟨m1, e1, _⟩ := DataW.trod_int Tryd.underlying3 f1
        simp only [List.cons.injEq, and_true] at e0 e1
        subst e0 e1
        exact ⟨(m0, m1), h2, h3 0 (by omega), h3 1 (by omega)⟩)
    have hlen : ((List.range len).map T).length = len := by simp
    refine ⟨some a, (List.range len).map T, cap, by rw [hlen], ⟨fun k hk => ?_⟩⟩
    rw [hlen] at hk
    have et : ((List.range len).map T)[k]'(by rw [hlen]; exact hk) = T k := by simp
    obtain ⟨p1, p2, p3⟩ := hT k hk
    rw [et]
    exact ⟨a.block, a.off, by rw [← p1], p2, p3⟩
set_option maxRecDepth 100000 in
/-- Units that are read. -/
theorem open_kindsX {H : Type} {enc : TypeId × Value → H} {W : World} {n : Nat} {c : Value} {x : DataW H × List MemPlace} (h : DataW.trod enc Tryd.prog W 0 (fun _ => true) true n 29 [c] = some x) :
    ∃ (a : Option Addr) (l : List Kd) (cap : Nat), c = .slice a l.length cap ∧ KA W W.heap.size a l := by
  rcases open_rows Tryd.underlying29 cellsKindX (by omega) h with rfl | ⟨a, len, cap, k, _, rfl, hx⟩
  · exact ⟨none, [], 0, rfl, ⟨fun k h => absurd h (Nat.not_lt_zero _)⟩⟩
  · obtain ⟨T, hT⟩ := Deep.choose_lt (n := len) (p := fun i (s : Kd) => a = ⟨a.block, a.off, none⟩ ∧ W.cell? ⟨a.block, a.off + i * 2, none⟩ = some (.string s.1) ∧ W.cell? ⟨a.block, a.off + i * 2 + 1, none⟩ = some (.int .i64 s.2)) (fun i hi => by
      obtain ⟨cs, y, h1, h2, h3, h4⟩ := hx i hi
      obtain ⟨xs, k2, _, _, _, hxl, hfs⟩ := DataW.trod_struct Tryd.underlying42 h4
      match cs, h1 with
      | [v0, v1], _ =>
        obtain ⟨y0, y1, rfl⟩ : ∃ y0 y1, xs = [y0, y1] := by
          match xs, hxl with
          | [y0, y1], _ => exact ⟨y0, y1, rfl⟩
        have f0 := hfs 0 _ rfl
        have f1 := hfs 1 _ rfl
        simp [cellsStrX] at f0
        simp [cellsIntX] at f1
        obtain ⟨m0, e0, _⟩ := DataW.trod_string Tryd.underlying9 f0
        obtain ⟨m1, e1, _⟩ := DataW.trod_int Tryd.underlying3 f1
        simp only [List.cons.injEq, and_true] at e0 e1
        subst e0 e1
        exact ⟨(m0, m1), h2, h3 0 (by omega), h3 1 (by omega)⟩)
    have hlen : ((List.range len).map T).length = len := by simp
    refine ⟨some a, (List.range len).map T, cap, by rw [hlen], ⟨fun k hk => ?_⟩⟩
    rw [hlen] at hk
    have et : ((List.range len).map T)[k]'(by rw [hlen]; exact hk) = T k := by simp
    obtain ⟨p1, p2, p3⟩ := hT k hk
    rw [et]
    exact ⟨a.block, a.off, by rw [← p1], lt_of_cellX p2, p2, p3⟩
instance : Inhabited (Ex × EV) := ⟨(.mk 0 false [] [] [], ⟨.nilIface, .nilIface, .nilIface, .nilIface, .nilIface⟩)⟩
set_option maxRecDepth 100000 in
/-- An expression that is read. -/
theorem open_expr {H : Type} {enc : TypeId × Value → H} {W : World} : ∀ (n : Nat) (cs : List Value) (x : DataW H × List MemPlace), DataW.trod enc Tryd.prog W 0 (fun _ => true) true n 28 cs = some x → ∃ t : Ex × EV, cs = evC t.2 ∧ ExIn W t.1 t.2 := by
  intro n
  induction n using Nat.strongRecOn with
  | _ n ih =>
    intro cs x h
    obtain ⟨xs, k, hk, _, hlen, hxl, hfs⟩ := DataW.trod_struct Tryd.underlying28 h
    rw [cellsExprX] at hlen
    match cs, hlen with
    | [v0, v1, v2, v3, v4], _ =>
      obtain ⟨y0, y1, y2, rfl⟩ : ∃ y0 y1 y2, xs = [y0, y1, y2] := by
        match xs, hxl with
        | [y0, y1, y2], _ => exact ⟨y0, y1, y2, rfl⟩
      have f0 := hfs 0 _ rfl
      have f1 := hfs 1 _ rfl
      have f2 := hfs 2 _ rfl
      simp [cellsIntX] at f0
      simp [cellsSetX] at f1
      simp [cellsExprsX] at f2
      obtain ⟨m0, e0, _⟩ := DataW.trod_int Tryd.underlying3 f0
      simp only [List.cons.injEq, and_true] at e0
      obtain ⟨zs, k1, _, _, _, hzl, hgs⟩ := DataW.trod_struct Tryd.underlying25 f1
      obtain ⟨z0, z1, z2, rfl⟩ : ∃ z0 z1 z2, zs = [z0, z1, z2] := by
        match zs, hzl with
        | [z0, z1, z2], _ => exact ⟨z0, z1, z2, rfl⟩
      have g0 := hgs 0 _ rfl
      have g1 := hgs 1 _ rfl
      have g2 := hgs 2 _ rfl
      simp [cellsBoolX] at g0
      simp [cellsStrsX] at g1
      simp [cellsRangesX] at g2
      obtain ⟨nt, e1, _⟩ := DataW.trod_bool Tryd.underlying4 g0
      simp only [List.cons.injEq, and_true] at e1
      obtain ⟨a, N, ca, rfl, hN⟩ := open_namesX g1
      obtain ⟨b, P, cb, rfl, hP⟩ := open_rangesX g2
      subst e0 e1
      rcases open_rows Tryd.underlying26 cellsExprX (by omega) f2 with rfl | ⟨c, len, cap, k2, hk2, rfl, hx⟩
      · exact ⟨(.mk m0 nt N P [], ⟨.int .i64 m0, .bool nt, .slice a N.length ca, .slice b P.length cb, .slice none 0 0⟩), rfl, .mk m0 nt N P [] a ca b cb none 0 (fun _ => ⟨.nilIface, .nilIface, .nilIface, .nilIface, .nilIface⟩) hN hP (fun i hi => absurd hi (Nat.not_lt_zero _)) (fun i hi => absurd hi (Nat.not_lt_zero _))⟩
      · obtain ⟨T, hT⟩ := Deep.choose_lt (n := len) (p := fun i (t : Ex × EV) => c = ⟨c.block, c.off, none⟩ ∧ Five W c.block (c.off + i * 5) t.2 ∧ ExIn W t.1 t.2) (fun i hi => by
          obtain ⟨cs, y, h1, h2, h3, h4⟩ := hx i hi
          obtain ⟨t, e, ht⟩ := ih k2 (by omega) cs y h4
          rw [e] at h3
          exact ⟨t, h2, ⟨h3 0 (by omega), h3 1 (by omega), h3 2 (by omega), h3 3 (by omega), h3 4 (by omega)⟩, ht⟩)
        have hlen2 : ((List.range len).map fun i => (T i).1).length = len := by simp
        refine ⟨(.mk m0 nt N P ((List.range len).map fun i => (T i).1), ⟨.int .i64 m0, .bool nt, .slice a N.length ca, .slice b P.length cb, .slice (some c) ((List.range len).map fun i => (T i).1).length cap⟩), by rw [hlen2]; rfl, .mk m0 nt N P _ a ca b cb (some c) cap (fun i => (T i).2) hN hP (fun i hi => ?_) (fun i hi => ?_)⟩
        · rw [hlen2] at hi
          obtain ⟨p1, p2, _⟩ := hT i hi
          exact ⟨c.block, c.off, by rw [← p1], p2⟩
        · have hi' : i < len := by rw [hlen2] at hi; exact hi
          have et : ((List.range len).map fun i => (T i).1)[i]'hi = (T i).1 := by simp
          rw [et]
          exact (hT i hi').2.2
end Go.Proofs.YtolnoojbcbdfiaaDoor
namespace Go.Proofs.YtolnoojbcbdfiaaDoor
open Go.ChangeShapes Go.WideShapes Go.ChangeAt Go.RowKit Go.Joins
theorem star : ("*" ++ "errors.errorString" : String) = "*errors.errorString" := by decide
theorem errRow (u : TypeId) (h : Tryd.prog.typeName? 3 u = some "*errors.errorString") : u = 136 :=
  typeName_ptr_named (nm := "errors.errorString") (by rw [star]; kernel_rfl) (by kernel_rfl) (by decide) u (by rw [star]; exact h)
theorem cellsErr : Tryd.prog.cellsOf 153 = 1 := by kernel_rfl
theorem cellsStr : Tryd.prog.cellsOf 9 = 1 := by kernel_rfl
theorem err_of {W : World} {n : String} {g : Nat} {text : List UInt8} {r : List (String × DataW Unit)} (h : laidMet Tryd.prog ((n, .iface "*errors.errorString" (.ptr (.agg [.lit (.string text)]))) :: r) W)
    (hg : Tryd.prog.globalNamed n = some g) (ht : (Tryd.prog.globals[g]?).map (·.type) = some 49) : ∃ a : Addr, W.cell? ⟨g, 0, none⟩ = some (.iface 136 (.pointer (some a))) := by
  obtain ⟨a, s, hv, _, _, _⟩ := laid_sentinel h hg ht Tryd.underlying49 errRow Tryd.underlying136 Tryd.underlying153 rfl rfl Tryd.underlying9 cellsErr cellsStr
  exact ⟨a, by simpa using World.var?_cell hg hv 0⟩
theorem laid_tail {P : Program} {w : World} {x : String × DataW Unit} {l : List (String × DataW Unit)} (h : laidMet P (x :: l) w) : laidMet P l w := by
  obtain ⟨ps, hl, hnd, hrows⟩ := h
  obtain ⟨g0, t0, cs0, f0, p0, q0, hg0, ht0, hv0, hd0, hl', rfl⟩ := hl
  exact ⟨q0, hl', (List.nodup_append.1 hnd).2.1, fun b off hb => hrows b off (List.mem_append_right _ hb)⟩
theorem cellsTwoX : Tryd.prog.cellsOf 31 = 11 := by kernel_rfl
set_option maxRecDepth 100000 in
theorem exprMeans_walk {H : Type} (enc : TypeId × Value → H) (W : World) (base : Nat) (hL : laidMetH Tryd.prog Rows.exprMeansRow.laid W) (v : Value) (d : DataW H) (p : List MemPlace) (hv : Value.okWide Tryd.prog W .any base 31 v)
    (h0 : DataW.Trod enc Tryd.prog W 0 (fun _ => true) true 31 v d p) (_hlt : ∀ x ∈ p, x.block < W.heap.size) (_hw : ∀ x ∈ d.weights Tryd.prog 31, x ≤ reachBytes) :
    Calls Tryd.prog 3 #[v] W fun e W' => e = .returned (.bool true) ∧ Below W.heap.size W W' := by
  obtain ⟨fuel, hf⟩ := h0
  have hcs : ∃ cs, v = .agg cs := by
    simp only [Value.okWide, Tryd.underlying31] at hv
    obtain ⟨cs, h1, _⟩ := hv
    exact ⟨cs, h1⟩
  obtain ⟨cs, rfl⟩ := hcs
  obtain ⟨xs, n, _, hx, hlen, hxl, hfs⟩ := DataW.trod_struct Tryd.underlying31 hf
  rw [cellsTwoX] at hlen
  obtain ⟨l⟩ := cs
  match l, hlen with
  | [c0, c1, c2, c3, c4, c5, c6, c7, c8, c9, c10], _ =>
    obtain ⟨z0, z1, z2, rfl⟩ : ∃ z0 z1 z2, xs = [z0, z1, z2] := by
      match xs, hxl with
      | [z0, z1, z2], _ => exact ⟨z0, z1, z2, rfl⟩
    have g0 := hfs 0 _ rfl
    have g1 := hfs 1 _ rfl
    have g2 := hfs 2 _ rfl
    simp [Value.cells, cellsExprX] at g0
    simp [Value.cells, cellsExprX] at g1
    simp [Value.cells, cellsKindsX] at g2
    obtain ⟨⟨eA, xA⟩, q0, hA⟩ := open_expr _ _ _ g0
    obtain ⟨⟨eB, xB⟩, q1, hB⟩ := open_expr _ _ _ g1
    obtain ⟨aw, lw, cw, rfl, hw⟩ := open_kindsX g2
    simp only [evC, List.cons.injEq, and_true] at q0 q1
    obtain ⟨rfl, rfl, rfl, rfl, rfl⟩ := q0
    obtain ⟨rfl, rfl, rfl, rfl, rfl⟩ := q1
    have hL0 : laidMet Tryd.prog Rows.exprMeansRow.laid W := hL
    have hL1 := laid_tail hL0
    have hL2 := laid_tail hL1
    have hL3 := laid_tail hL2
    obtain ⟨A1, h1⟩ := err_of hL1 (g := 1) (by kernel_rfl) (by kernel_rfl)
    obtain ⟨A0, h0⟩ := err_of hL2 (g := 0) (by kernel_rfl) (by kernel_rfl)
    obtain ⟨A2, h2⟩ := err_of hL3 (g := 2) (by kernel_rfl) (by kernel_rfl)
    exact exprMeans_any eA eB xA xB lw aw cw (fun i => match i with | 0 => A0 | 1 => A1 | _ => A2) W hA hB hw ⟨h0, h1, h2⟩
set_option maxRecDepth 100000 in
theorem exprMeans_lifted (os : Os) (started : os.Started) (H : Type) (enc : TypeId × Value → H) (F : Stop.Interp) :
    ReturnsInHanded {} Tryd.checked os 3 .any ((OpenSpec.ofChange Rows.exprMeansSpec).preRow enc Tryd.prog Tryd.f3 Rows.exprMeansRow.domain false Rows.exprMeansRow.laid) (((OpenSpec.ofChange Rows.exprMeansSpec).at F).post enc Tryd.prog Tryd.f3 false true false false) := by
  refine returnsInHanded_of_row (C := Tryd.checked) (s := OpenSpec.ofChange Rows.exprMeansSpec) own started (by kernel_rfl) Tryd.func3
    (witness_row_shaped (enc := enc) (C := Tryd.checked) (World.laidAll Tryd.prog os Rows.exprMeansRow.laid) #[.agg #[.int .i64 0, .bool false, .slice none 0 0, .slice none 0 0, .slice none 0 0, .int .i64 0, .bool false, .slice none 0 0, .slice none 0 0, .slice none 0 0, .slice none 0 0]] (World.laidAll_os _ _ _) (World.shaped_of_ZipB (by kernel_rfl) (by kernel_rfl)) (by kernel_rfl)
      (OpenSpec.preRow_of_cond 8 (x := ([.agg [.agg [.lit (.int .i64 0), .agg [.lit (.bool false), .nil, .nil], .nil], .agg [.lit (.int .i64 0), .agg [.lit (.bool false), .nil, .nil], .nil], .nil]], [], [])) (by kernel_rfl) (by kernel_rfl) (fun k hk => by cases hk) (by kernel_rfl) (laidMet_laidAll _ (by kernel_rfl) (by kernel_rfl)))) ?_
  intro W base args ds gs before hval hW _ _ hsz hL _ _
  exact law_contract rfl rfl rfl (fun _ _ => rfl) (by kernel_rfl) (of_decide_eq_true (by kernel_rfl)) W base args ds gs before hval hW hsz (fun v d p hv h0 hlt hw _ _ => exprMeans_walk enc W base hL v d p hv h0 hlt hw )
theorem exprMeans_said : Rows.ExprMeansSaid :=
  OpenClaim.holds_of_cond 3 Tryd.f3 rfl rfl rfl rfl rfl rfl rfl ⟨rfl, rfl, rfl, rfl, rfl⟩ rfl rfl rfl rfl rfl (by kernel_rfl) Tryd.func3 (by kernel_rfl)
    (of_decide_eq_true (by kernel_rfl)) (by unfold Func.isWrapper; first | (rw [if_pos (by decide +kernel)]; kernel_rfl) | (rw [if_neg (by decide +kernel)]; exact ⟨rfl, rfl⟩))
    (fun os started H enc _ F => by rw [OpenClaim.pre_eq_preRow]; exact exprMeans_lifted os started H enc F)
theorem exprMeans_plain (f : FuncId) (fn : Func) (hf : Tryd.pinned.checked.prog.funcNamed "caesura/caesuralaw8.ExprMeans" = some f) (hfn : Tryd.pinned.checked.prog.funcs[f]? = some fn) :
    true = Tryd.pinned.checked.prog.looks [] ∧ ∀ (j : Nat) t, fn.params[j]? = some t → Tryd.pinned.checked.prog.wantsStandIn t = false := by
  obtain rfl : f = 3 := Option.some.inj ((show Tryd.prog.funcNamed "caesura/caesuralaw8.ExprMeans" = some 3 by kernel_rfl).symm.trans hf) |>.symm
  obtain rfl : fn = Tryd.f3 := (Option.some.inj (Tryd.func3.symm.trans hfn)).symm
  refine ⟨by kernel_rfl, fun j t ht => ?_⟩
  rw [Tryd.params3] at ht
  obtain rfl : t = 31 := by simpa using Array.mem_of_getElem? ht
  exact (show Tryd.prog.wantsStandIn 31 = false by kernel_rfl)
theorem exprMeans_card : Rows.ExprMeansCardSaid :=
  Claim7.holds_tied_plain_at .later [] _ _ _ _ exprMeans_said (fun _ h => by cases h) (by kernel_rfl) (fun _ h => by cases h) exprMeans_row_tie rfl ⟨rfl, rfl⟩ (by kernel_rfl) rfl exprMeans_plain (by kernel_rfl)
end Go.Proofs.YtolnoojbcbdfiaaDoor
