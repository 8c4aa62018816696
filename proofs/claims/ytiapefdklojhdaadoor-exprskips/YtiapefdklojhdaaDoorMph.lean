/-
  ExYj0W, ExYj1W, Door, ExOpP, SkpP.
-/
import Derived.Test.YtiapefdklojhdaaDoorMpg
import Derived.Test.YtiapefdklojhdaaDoorCards
import Derived.Test.YtiapefdklojhdaaDoorTie
import Derived.WalkKit
import Derived.ProofKit
import Derived.OpenShut
import Derived.Deep.DeepHandedRow
import Derived.Lib.LaidTab
import Derived.Lib.SmallJoins
import Derived.Test.YtiapefdklojhdaaDoorMpe
import Derived.Test.YtiapefdklojhdaaDoorMpd
import Derived.ChangeSlices
import Derived.Deep.Slices
import Derived.Stop.LaidErr
import Derived.Lib.LaidU8
import Derived.Shelf.Vars
import Derived.Lay
import Derived.LaidMore
namespace Go.Proofs.YtiapefdklojhdaaDoor
open Go.RowKit Go.Shelf
set_option maxRecDepth 10000 in
set_option maxHeartbeats 6400000 in
theorem skips_0 (eA : Ex) (xA : EV) (tS : Bool) (NS : List ByteArray) (PS : List (Int × Int)) (aS bS : Option Addr) (cS dS : Nat) (lw : List Kd) (aw : Option Addr) (cw : Nat) (A : Nat → Addr) (w : World) (hA : ExIn w eA xA) (hNS : SA w aS NS) (hPS : RA w bS PS) (hw : KA w w.heap.size aw lw) (hE : E3 w A) (hlen : (wordK lw).length ≤ 8) :
    Calls Tryd.prog 3 #[.agg #[xA.k, xA.t, xA.n, xA.p, xA.r, .bool tS, .slice aS NS.length cS, .slice bS PS.length dS, .slice aw lw.length cw]] w fun r w' => r = .returned (.bool true) ∧ Below w.heap.size w w' := by
  have HTA := hid0 (fun (V : World) (hV : Below w.heap.size w V) => tidy_any 3 (by omega) eA V xA (hA.past hV))
  have HSO := hid0 (fun (V : World) (hV : Below w.heap.size w V) => setOf_any tS NS PS aS bS cS dS V (hNS.below hV) (hPS.below hV))
  have HWd := hid0 (fun (V : World) (hV : Below w.heap.size w V) => wordOf_any lw aw cw V ((hw.below hV).up hV.size))
  have HFi := hid0 (fun (V : World) (hV : Below w.heap.size w V) => first_any A V (hE.below hV))
  have HE := hid0 hE
  have HWa := hid0 (tidy_wf 3 eA)
  have HLe : Hid ((wordK lw).length ≤ 12) := hid0 (by unfold wordK; rw [List.length_map, List.length_take]; omega)
  unfold WordP at HWd
  unfold SetR at HSO
  generalize tidyE 3 eA = e at *
  generalize wordK lw = l0 at *
  have HSz : Hid (e.size ≤ 40) := hid0 HWa.out.2
  obtain ⟨kA, tA, aA, mA, cA, bA, nA, dA, gA, lA, zA, rfl⟩ : ∃ k t a m c b n d g l z, xA = ⟨.int .i64 k, .bool t, .slice a m c, .slice b n d, .slice g l z⟩ := by
    cases hA with
    | mk k nt N P L a ca b cb c cc vs hN hP hL hR => exact ⟨_, _, _, _, _, _, _, _, _, _, _, rfl⟩
  unfold EV.v at HTA
  simp only [] at HTA ⊢
  clear hA hw hE hNS hPS
  have HMy : Hid (mayF (nmK NS 3) (ptK PS) = true) := hid0 (by unfold mayF; rw [names_may, points_may]; rfl)
  have HL4 : Hid ((nmK NS 3).length + (ptK PS).length ≤ 4) := hid0 (by have := nmK_len NS 3; have := pts_len PS; omega)
  obtain ⟨wb, hwb⟩ : ∃ wb, w.alloc (.cells #[.int .i64 kA, .bool tA, .slice aA mA cA, .slice bA nA dA, .slice gA lA zA, .bool tS, .slice aS NS.length cS, .slice bS PS.length dS, .slice aw lw.length cw] 31) = wb := ⟨_, rfl⟩
  obtain ⟨hbb, hrb, hsb⟩ := laid hwb
  have HBb := hid0 hbb
  have HBox : Hid (∀ V, Below wb.heap.size wb V → V.cell? ⟨w.heap.size, 0, none⟩ = some (.int .i64 kA) ∧ V.cell? ⟨w.heap.size, 1, none⟩ = some (.bool tA) ∧ V.cell? ⟨w.heap.size, 2, none⟩ = some (.slice aA mA cA) ∧ V.cell? ⟨w.heap.size, 3, none⟩ = some (.slice bA nA dA) ∧ V.cell? ⟨w.heap.size, 4, none⟩ = some (.slice gA lA zA) ∧ V.cell? ⟨w.heap.size, 5, none⟩ = some (.bool tS) ∧ V.cell? ⟨w.heap.size, 6, none⟩ = some (.slice aS NS.length cS) ∧ V.cell? ⟨w.heap.size, 7, none⟩ = some (.slice bS PS.length dS) ∧ V.cell? ⟨w.heap.size, 8, none⟩ = some (.slice aw lw.length cw)) := hid0 (fun V hV => by
    have hr := kept hV hrb
    refine ⟨?_, ?_, ?_, ?_, ?_, ?_, ?_, ?_, ?_⟩ <;> (rw [cell_of_row _ _ _ _ _ _ hr]; rfl))
  have hc0 := HBox.out wb (Below.refl _ _)
  have HLb := hid0 hlen
  have hl8 : ¬ (8 : Int) < (l0.length : Int) := by omega
  obtain ⟨l, hl⟩ : ∃ l, l = l0 := ⟨_, rfl⟩
  have HLt := hid0 hl
  have HLl : Hid (l.length ≤ 8) := hid0 (by rw [hl]; exact hlen)
  subst hl
  clear hbb hrb hsb hlen
  have HSp := hid0 (fun (V : World) (x : EV) (hx : ExIs V (fun _ => True) e x) (g h : Option Addr) (ce cf : Nat) (hN : SQ V (fun _ => True) g (nmK NS 3)) (hP : RQ V (fun _ => True) h (ptK PS)) (h3 : E3 V A) => skip_any e x (fun _ => True) tS (nmK NS 3) (ptK PS) g h ce cf A V 4 (by omega) HWa.out.1 (by have := HSz.out; omega) HMy.out HL4.out hx hN hP h3)
  have HOkL := hid0 (wf_ok (wov_wf (trail_wf (nt := tS) HMy.out HL4.out) rfl 4 e HWa.out.1) (by omega) (by have := wov_size (trailE tS (nmK NS 3) (ptK PS)) (trail_size tS (nmK NS 3) (ptK PS)) e; have := HSz.out; omega))
  go_enter Tryd.func3, Tryd.ntmps3
  go_wp2_with (first
    | (go_at_call 10
       refine (HCl.out w5 HM5.out).mono ?_
       rintro r w6 ⟨rfl, hb6⟩
       have HM6 := hid0 (HM5.out.past hb6)
       obtain ⟨⟨i0, i1, i2, i3, i4⟩, _⟩ := rowE HM6.out.re
       clear hb6)
    | (go_at_call 11
       refine (HMe.out w6 HM6.out).mono ?_
       rintro r w7 ⟨rfl, hb7⟩
       have HM7 := hid0 (HM6.out.past hb7)
       clear hb7)
    | (go_at_call 9
       refine (HFi.out _ (Below.later HBb.out HM4.out.bel)).mono ?_
       rintro r w5 ⟨rfl, hb5⟩
       have HM5 := hid0 (HM4.out.past hb5)
       obtain ⟨⟨j0, j1, j2, j3, j4⟩, _⟩ := rowE HM5.out.rf
       clear hb5)
    | (go_at_call 8
       refine HCs.out.mono ?_
       rintro r w4 ⟨yf, rfl, q1, q2⟩
       obtain ⟨k5, t5, a5, m5, c5, b5, n5, d5, g5, l5, z5, rfl⟩ := q1.flatB
       obtain ⟨v4, hv4⟩ : ∃ v4, w4.alloc (.cells #[.int .i64 k5, .bool t5, .slice a5 m5 c5, .slice b5 n5 d5, .slice g5 l5 z5] 28) = v4 := ⟨_, rfl⟩
       obtain ⟨b4', r4', _⟩ := laid hv4
       have hb4 := Below.later q2 b4'
       have HM4 : Hid (SW wb v4 A e (wovE (trailE tS (nmK NS 3) (ptK PS)) e) (nmK NS 3) (ptK PS) l av gS hS w1.heap.size w2.heap.size w4.heap.size ⟨.int .i64 k1, .bool t1, .slice a1 m1 c1, .slice b1 n1 d1, .slice g1 l1 z1⟩ ⟨.int .i64 k5, .bool t5, .slice a5 m5 c5, .slice b5 n5 d5, .slice g5 l5 z5⟩ (.bool tS) (.slice gS (nmK NS 3).length eS) (.slice hS (ptK PS).length fS)) := hid0 ⟨Below.later HB3.out hb4, HE3.out.below hb4, (HKa.out.below hb4).up hb4.size, HIe3.out.past hb4, q1.past b4', HSn3.out.keeps ⟨hb4.size, fun g o _ hl => hb4.cell (p := ⟨g, o, none⟩) hl⟩, HSp3.out.keeps ⟨hb4.size, fun g o _ hl => hb4.cell (p := ⟨g, o, none⟩) hl⟩, kept hb4 HRe3.out, kept hb4 HRs3.out, r4'⟩
       have HMe := hid0 (fun (V : World) (h : SW wb V A e (wovE (trailE tS (nmK NS 3) (ptK PS)) e) (nmK NS 3) (ptK PS) l av gS hS w1.heap.size w2.heap.size w4.heap.size ⟨.int .i64 k1, .bool t1, .slice a1 m1 c1, .slice b1 n1 d1, .slice g1 l1 z1⟩ ⟨.int .i64 k5, .bool t5, .slice a5 m5 c5, .slice b5 n5 d5, .slice g5 l5 z5⟩ (.bool tS) (.slice gS (nmK NS 3).length eS) (.slice hS (ptK PS).length fS)) => match_at e _ (fun _ => True) l av cv A V (by have := HLl.out; omega) h.ie h.e3 h.ka)
       have HMf := hid0 (fun (V : World) (h : SW wb V A e (wovE (trailE tS (nmK NS 3) (ptK PS)) e) (nmK NS 3) (ptK PS) l av gS hS w1.heap.size w2.heap.size w4.heap.size ⟨.int .i64 k1, .bool t1, .slice a1 m1 c1, .slice b1 n1 d1, .slice g1 l1 z1⟩ ⟨.int .i64 k5, .bool t5, .slice a5 m5 c5, .slice b5 n5 d5, .slice g5 l5 z5⟩ (.bool tS) (.slice gS (nmK NS 3).length eS) (.slice hS (ptK PS).length fS)) => match_at (wovE (trailE tS (nmK NS 3) (ptK PS)) e) _ (fun _ => True) l av cv A V (by have := HLl.out; omega) h.iff h.e3 h.ka)
       have HCl := hid0 (fun (V : World) (h : SW wb V A e (wovE (trailE tS (nmK NS 3) (ptK PS)) e) (nmK NS 3) (ptK PS) l av gS hS w1.heap.size w2.heap.size w4.heap.size ⟨.int .i64 k1, .bool t1, .slice a1 m1 c1, .slice b1 n1 d1, .slice g1 l1 z1⟩ ⟨.int .i64 k5, .bool t5, .slice a5 m5 c5, .slice b5 n5 d5, .slice g5 l5 z5⟩ (.bool tS) (.slice gS (nmK NS 3).length eS) (.slice hS (ptK PS).length fS)) => check_any mayF (wovE (trailE tS (nmK NS 3) (ptK PS)) e) _ (fun _ => True) A V h.iff (allM_of h.iff) h.e3)
       rw [errC_ok HOkL.out] at HCl
       unfold EV.v at HMe HMf HCl
       simp only [] at HMe HMf HCl
       unfold EV.v
       clear q1 q2 b4' r4' hb4)
    | (go_at_call 7
       refine (HWd.out _ (Below.later HBb.out HB2.out)).mono ?_
       rintro r w3 ⟨vw, rfl, q1, q2⟩
       have HB3 := hid0 (Below.later HB2.out q2)
       have HIe3 := hid0 (HIe2.out.past q2)
       have HRe3 : Hid (R5' w3 w1.heap.size ⟨.int .i64 k1, .bool t1, .slice a1 m1 c1, .slice b1 n1 d1, .slice g1 l1 z1⟩) := hid0 (kept q2 HRe2.out)
       have HRs3 := hid0 (kept q2 HRs2.out)
       have HSn3 := hid0 (HSn2.out.keeps ⟨q2.size, fun g o _ hl => q2.cell (p := ⟨g, o, none⟩) hl⟩)
       have HSp3 := hid0 (HSp2.out.keeps ⟨q2.size, fun g o _ hl => q2.cell (p := ⟨g, o, none⟩) hl⟩)
       have HE3 := hid0 (HE.out.below (Below.later HBb.out HB3.out))
       obtain ⟨av, cv, rfl, hka⟩ := q1.ka
       have HKa := hid0 hka
       have HCs := hid0 (HSp.out w3 _ HIe3.out gS hS eS fS HSn3.out HSp3.out HE3.out)
       unfold EV.v SkipR at HCs
       simp only [] at HCs
       obtain ⟨⟨s0, s1, s2, s3, s4⟩, _⟩ := rowE HRe3.out
       obtain ⟨⟨p0, p1, p2⟩, _⟩ := row3 HRs3.out
       clear q1 q2 hka)
    | (go_at_call 6
       refine (HSO.out _ (Below.later HBb.out HB1.out)).mono ?_
       rintro r w2 ⟨gS, eS, hS, fS, rfl, q1, q2, q3⟩
       obtain ⟨v2, hv2⟩ : ∃ v2, w2.alloc (.cells #[.bool tS, .slice gS (nmK NS 3).length eS, .slice hS (ptK PS).length fS] 25) = v2 := ⟨_, rfl⟩
       obtain ⟨b2', r2', _⟩ := laid hv2
       have hb2 := Below.later q3 b2'
       have HB2 := hid0 (Below.later HB1.out hb2)
       have HSn2 : Hid (SQ v2 (fun _ => True) gS (nmK NS 3)) := hid0 (SQ.keeps (w := w2) ⟨fun k' hk' => by
         obtain ⟨b', off', e', _, h'⟩ := q1.at' k' hk'
         exact ⟨b', off', e', trivial, h'⟩⟩ ⟨b2'.size, fun g o _ hl => b2'.cell (p := ⟨g, o, none⟩) hl⟩)
       have HSp2 : Hid (RQ v2 (fun _ => True) hS (ptK PS)) := hid0 (RQ.keeps (w := w2) ⟨fun k' hk' => by
         obtain ⟨b', off', e', _, h'⟩ := q2.at' k' hk'
         exact ⟨b', off', e', trivial, h'⟩⟩ ⟨b2'.size, fun g o _ hl => b2'.cell (p := ⟨g, o, none⟩) hl⟩)
       have HRs2 := hid0 r2'
       have HIe2 := hid0 (HIe1.out.past hb2)
       have HRe2 : Hid (R5' v2 w1.heap.size ⟨.int .i64 k1, .bool t1, .slice a1 m1 c1, .slice b1 n1 d1, .slice g1 l1 z1⟩) := hid0 (kept hb2 HRe1.out)
       have hc2 := HBox.out v2 HB2.out
       clear q1 q2 q3 b2' r2' hb2)
    | (go_at_call 5
       refine (HTA.out _ HBb.out).mono ?_
       rintro r w1 hr
       obtain ⟨k1, t1, a1, m1, c1, b1, n1, d1, g1, l1, z1, rfl, q1, q2⟩ := hr.shape
       obtain ⟨v1, hv1⟩ : ∃ v1, w1.alloc (.cells #[.int .i64 k1, .bool t1, .slice a1 m1 c1, .slice b1 n1 d1, .slice g1 l1 z1] 28) = v1 := ⟨_, rfl⟩
       obtain ⟨b1', r1', _⟩ := laid hv1
       have HB1 := hid0 (Below.later q2 b1')
       have HIe1 := hid0 ((q1.past b1').mono (Q' := fun _ => True) (fun _ _ _ => trivial))
       have HRe1 : Hid (R5' v1 w1.heap.size ⟨.int .i64 k1, .bool t1, .slice a1 m1 c1, .slice b1 n1 d1, .slice g1 l1 z1⟩) := hid0 r1'
       have hc1 := HBox.out v1 HB1.out
       clear hr q1 q2 b1' r1')
    | fail)
  have HLn : Hid (l.length = l.length) := hid0 rfl
  have HL8 : Hid (l.length ≤ 8) := hid0 (by have := HLl.out; omega)
  have HWo := hid0 (fun (V : World) (h : SW wb V A e (wovE (trailE tS (nmK NS 3) (ptK PS)) e) (nmK NS 3) (ptK PS) l av gS hS w1.heap.size w2.heap.size w4.heap.size ⟨.int .i64 k1, .bool t1, .slice a1 m1 c1, .slice b1 n1 d1, .slice g1 l1 z1⟩ ⟨.int .i64 k5, .bool t5, .slice a5 m5 c5, .slice b5 n5 d5, .slice g5 l5 z5⟩ (.bool tS) (.slice gS (nmK NS 3).length eS) (.slice hS (ptK PS).length fS)) (b : Nat) => without_any l b av cv V HL8.out h.ka)
  obtain ⟨pw, hpw⟩ : ∃ pw, pw = 2 ^ l.length := ⟨_, rfl⟩
  have hp256 : pw ≤ 256 := by rw [hpw]; exact Nat.le_trans (Nat.pow_le_pow_right (by decide) HL8.out) (by decide)
  have HPw := hid0 hpw
  have hsh : ((2 : Int) ^ l.length) = (pw : Int) := by rw [hpw, Int.natCast_pow]; rfl
  clear hpw
  go_loopw [9, 10, 11, 12, 13, 14] (fun wt bt _ _ _ _ wr => ∃ (j q : Nat), Hid (q = 2 * j) ∧ 1 ≤ j ∧ (j = 1 ∨ 2 * (j - 1) < pw) ∧ bt = .int .i64 (q : Int) ∧ wt = .bool (wantB (hdF tS (nmK NS 3) (ptK PS)) e l j) ∧ Hid (SW wb wr A e (wovE (trailE tS (nmK NS 3) (ptK PS)) e) (nmK NS 3) (ptK PS) l av gS hS w1.heap.size w2.heap.size w4.heap.size ⟨.int .i64 k1, .bool t1, .slice a1 m1 c1, .slice b1 n1 d1, .slice g1 l1 z1⟩ ⟨.int .i64 k5, .bool t5, .slice a5 m5 c5, .slice b5 n5 d5, .slice g5 l5 z5⟩ (.bool tS) (.slice gS (nmK NS 3).length eS) (.slice hS (ptK PS).length fS))) (fun _ bt _ _ _ _ _ => 600 - (intOf bt).toNat)
  case atStart => exact ⟨1, 2, hid0 rfl, Nat.le_refl _, .inl rfl, rfl, by rw [wantB_one], HM7⟩
  case round =>
    obtain ⟨j, q, HQ, hj1, hj2, rfl, rfl, HMr⟩ := hrel
    by_cases hlt : q < pw
    · have hltI : (q : Int) < (pw : Int) := by omega
      have HCw := hid0 (HWo.out wr HMr.out q)
      unfold WithR at HCw
      have HWs := hid0 (wantB_succ (hdF tS (nmK NS 3) (ptK PS)) e l j)
      rw [← HQ.out] at HWs
      have HGl := hid0 (gone_len l q)
      have HLf := hid0 (left_len l q)
      generalize goneL l q = gl' at *
      generalize leftL l q = ll' at *
      go_wp2_with (first
        | (go_at_call 12
           refine HCw.out.mono ?_
           rintro r w8 ⟨vl, vg, rfl, q1, q2, q3⟩
           have HM8 := hid0 (HMr.out.past q3)
           obtain ⟨al, cl, rfl, hkl⟩ := q1.ka
           obtain ⟨ag, cg, rfl, hkg⟩ := q2.ka
           have HKl := hid0 hkl
           have HKg := hid0 hkg
           clear q1 q2 q3 hkl hkg)
        | fail)
      generalize wantB (hdF tS (nmK NS 3) (ptK PS)) e l j = wj at *
      go_loopw [13, 14] (fun ft it wi => ∃ (i : Nat), i ≤ gl'.length ∧ it = .int .i64 (i : Int) ∧ ft = .bool ((gl'.take i).all (hdF tS (nmK NS 3) (ptK PS))) ∧ Hid (SW wb wi A e (wovE (trailE tS (nmK NS 3) (ptK PS)) e) (nmK NS 3) (ptK PS) l av gS hS w1.heap.size w2.heap.size w4.heap.size ⟨.int .i64 k1, .bool t1, .slice a1 m1 c1, .slice b1 n1 d1, .slice g1 l1 z1⟩ ⟨.int .i64 k5, .bool t5, .slice a5 m5 c5, .slice b5 n5 d5, .slice g5 l5 z5⟩ (.bool tS) (.slice gS (nmK NS 3).length eS) (.slice hS (ptK PS).length fS)) ∧ Hid (Below w8.heap.size w8 wi)) (fun _ it _ => gl'.length - (intOf it).toNat)
      case atStart => exact ⟨0, Nat.zero_le _, rfl, rfl, HM8, hid0 (Below.refl _ _)⟩
      case round =>
        obtain ⟨i, hi', rfl, rfl, HMi, HBi⟩ := hrel
        have hgl8 : gl'.length ≤ 8 := Nat.le_trans HGl.out HL8.out
        by_cases hil : i < gl'.length
        · have hiI : (i : Int) < (gl'.length : Int) := by omega
          have hiI0 : (0 : Int) ≤ (i : Int) := by omega
          obtain ⟨bg, og, rfl, hbg, hg0, hg1⟩ := HKg.out.at' i hil
          have HTk : Hid ((gl'.take (i + 1)).all (hdF tS (nmK NS 3) (ptK PS)) = ((gl'.take i).all (hdF tS (nmK NS 3) (ptK PS)) && (hdF tS (nmK NS 3) (ptK PS)) gl'[i])) := hid0 (by rw [List.take_add_one, List.getElem?_eq_getElem hil, List.all_append]; simp)
          have HHo := hid0 (fun (V : World) (h : SW wb V A e (wovE (trailE tS (nmK NS 3) (ptK PS)) e) (nmK NS 3) (ptK PS) l av gS hS w1.heap.size w2.heap.size w4.heap.size ⟨.int .i64 k1, .bool t1, .slice a1 m1 c1, .slice b1 n1 d1, .slice g1 l1 z1⟩ ⟨.int .i64 k5, .bool t5, .slice a5 m5 c5, .slice b5 n5 d5, .slice g5 l5 z5⟩ (.bool tS) (.slice gS (nmK NS 3).length eS) (.slice hS (ptK PS).length fS)) => holds_any tS (nmK NS 3) (ptK PS) gS hS eS fS gl'[i].1 gl'[i].2 V (by have := HL4.out; omega) (by have := HL4.out; omega) h.sn.sa h.sp.ra)
          have HSk := hid0 (fun (V : World) (h : SW wb V A e (wovE (trailE tS (nmK NS 3) (ptK PS)) e) (nmK NS 3) (ptK PS) l av gS hS w1.heap.size w2.heap.size w4.heap.size ⟨.int .i64 k1, .bool t1, .slice a1 m1 c1, .slice b1 n1 d1, .slice g1 l1 z1⟩ ⟨.int .i64 k5, .bool t5, .slice a5 m5 c5, .slice b5 n5 d5, .slice g5 l5 z5⟩ (.bool tS) (.slice gS (nmK NS 3).length eS) (.slice hS (ptK PS).length fS)) (hV : Below w8.heap.size w8 V) => (show (V.cell? ⟨w2.heap.size, 0, none⟩ = some (.bool tS) ∧ V.cell? ⟨w2.heap.size, 1, none⟩ = some (.slice gS (nmK NS 3).length eS) ∧ V.cell? ⟨w2.heap.size, 2, none⟩ = some (.slice hS (ptK PS).length fS)) ∧ V.cell? ⟨bg, og + i * 2, none⟩ = some (.string gl'[i].1) ∧ V.cell? ⟨bg, og + i * 2 + 1, none⟩ = some (.int .i64 gl'[i].2) from ⟨(row3 h.rs).1, (hV.cell (p := ⟨bg, og + i * 2, none⟩) hbg).trans hg0, (hV.cell (p := ⟨bg, og + i * 2 + 1, none⟩) hbg).trans hg1⟩))
          have HMd := hid0 (HMi.out.past (Below.refl wr.heap.size wr).drew)
          have HBd := hid0 (Below.later HBi.out (Below.refl wr.heap.size wr).drew)
          have hsd := HSk.out _ HMd.out HBd.out
          have HHe : Hid (holdsF tS (nmK NS 3) (ptK PS) gl'[i].1 gl'[i].2 = (hdF tS (nmK NS 3) (ptK PS)) gl'[i]) := hid0 rfl
          rw [HHe.out] at HHo
          generalize (hdF tS (nmK NS 3) (ptK PS)) gl'[i] = hv at *
          generalize gl'[i].1 = us at *
          generalize gl'[i].2 = up at *
          generalize (gl'.take i).all (hdF tS (nmK NS 3) (ptK PS)) = fi at *
          clear hg0 hg1 HHe
          cases fi with
          | true =>
            rw [Bool.true_and] at HTk
            go_wp2
            refine wp_region_noPanic ?_
            refine wp_region_held_drew (S := (fun V => (V.cell? ⟨w2.heap.size, 0, none⟩ = some (.bool tS) ∧ V.cell? ⟨w2.heap.size, 1, none⟩ = some (.slice gS (nmK NS 3).length eS) ∧ V.cell? ⟨w2.heap.size, 2, none⟩ = some (.slice hS (ptK PS).length fS)) ∧ V.cell? ⟨bg, og + i * 2, none⟩ = some (.string us) ∧ V.cell? ⟨bg, og + i * 2 + 1, none⟩ = some (.int .i64 up))) (by kernel_rfl) ?_ (fun hHeld => ?_)
            · exact hsd
            refine tkV (i := 0) (d := some 69) (v := ?_) rfl (by kernel_rfl) (by kernel_rfl) (by kernel_rfl) rfl (fun _ _ _ h => h) (by rfl) ?_ (by assumption) ?_
            rotate_left
            · (intro w hSw; (try dsimp only at hSw); (try simp only [List.getElem_toArray, List.getElem_cons_zero]); go_simp; try with_reducible rfl)
            try simp only [Act.put, List.setIfInBounds_toArray, List.set_cons_zero, List.set_cons_succ]
            refine tkV (i := 1) (d := some 70) (v := ?_) rfl (by kernel_rfl) (by kernel_rfl) (by kernel_rfl) rfl (fun _ _ _ h => h) (by rfl) ?_ (by assumption) ?_
            rotate_left
            · (intro w hSw; (try dsimp only at hSw); (try simp only [List.getElem_toArray, List.getElem_cons_zero, List.getElem_cons_succ]); go_simp; try with_reducible rfl)
            try simp only [Act.put, List.setIfInBounds_toArray, List.set_cons_zero, List.set_cons_succ]
            refine tkV (i := 2) (d := some 71) (v := ?_) rfl (by kernel_rfl) (by kernel_rfl) (by kernel_rfl) rfl (fun _ _ _ h => h) (by rfl) ?_ (by assumption) ?_
            rotate_left
            · (intro w hSw; (try dsimp only at hSw); (try simp only [List.getElem_toArray, List.getElem_cons_zero, List.getElem_cons_succ]); go_simp; try with_reducible rfl)
            try simp only [Act.put, List.setIfInBounds_toArray, List.set_cons_zero, List.set_cons_succ]
            refine tkV (i := 3) (d := some 72) (v := ?_) rfl (by kernel_rfl) (by kernel_rfl) (by kernel_rfl) rfl (fun _ _ _ h => h) (by rfl) ?_ (by assumption) ?_
            rotate_left
            · (intro w hSw; (try dsimp only at hSw); (try simp only [List.getElem_toArray, List.getElem_cons_zero, List.getElem_cons_succ]); go_simp; try with_reducible rfl)
            try simp only [Act.put, List.setIfInBounds_toArray, List.set_cons_zero, List.set_cons_succ]
            refine tkV (i := 4) (d := some 73) (v := ?_) rfl (by kernel_rfl) (by kernel_rfl) (by kernel_rfl) rfl (fun _ _ _ h => h) (by rfl) ?_ (by assumption) ?_
            rotate_left
            · (intro w hSw; (try dsimp only at hSw); (try simp only [List.getElem_toArray, List.getElem_cons_zero, List.getElem_cons_succ]); go_simp; try with_reducible rfl)
            try simp only [Act.put, List.setIfInBounds_toArray, List.set_cons_zero, List.set_cons_succ]
            refine tkV (i := 5) (d := some 74) (v := ?_) rfl (by kernel_rfl) (by kernel_rfl) (by kernel_rfl) rfl (fun _ _ _ h => h) (by rfl) ?_ (by assumption) ?_
            rotate_left
            · (intro w hSw; (try dsimp only at hSw); (try simp only [List.getElem_toArray, List.getElem_cons_zero, List.getElem_cons_succ]); go_simp; try with_reducible rfl)
            try simp only [Act.put, List.setIfInBounds_toArray, List.set_cons_zero, List.set_cons_succ]
            refine tkV (i := 6) (d := some 75) (v := ?_) rfl (by kernel_rfl) (by kernel_rfl) (by kernel_rfl) rfl (fun _ _ _ h => h) (by rfl) ?_ (by assumption) ?_
            rotate_left
            · (intro w hSw; (try dsimp only at hSw); (try simp only [List.getElem_toArray, List.getElem_cons_zero, List.getElem_cons_succ]); go_simp; try with_reducible rfl)
            try simp only [Act.put, List.setIfInBounds_toArray, List.set_cons_zero, List.set_cons_succ]
            refine wpAnyH_ready (rs := [7]) (by kernel_rfl) (by simp) (AllReadyH.cons rfl (fun K hK => ?_) AllReadyH.nil)
            try simp only [List.getElem_toArray, List.getElem_cons_zero, List.getElem_cons_succ]
            go_simp
            refine (HHo.out _ HMd.out).mono ?_
            rintro r wh ⟨rfl, hbh⟩
            have HMh := hid0 (HMd.out.past hbh)
            have HBh := hid0 (Below.later HBd.out hbh)
            have hsh' := HSk.out _ HMh.out HBh.out
            clear hbh
            go_wp2_with fail
            refine hK.out _ _ ?_ (fun hHeld7 => ?_)
            · exact hsh'
            clear hK K
            (try simp only [Act.put]); (try simp only [List.setIfInBounds_toArray]); (try simp only [List.set_cons_succ]); (try simp only [List.set_cons_zero])
            refine tkV (i := 8) (d := some 77) (v := ?_) rfl (by kernel_rfl) (by kernel_rfl) (by kernel_rfl) rfl (fun _ _ _ h => h) (by rfl) ?_ (by assumption) ?_
            rotate_left
            · (intro w hSw; (try dsimp only at hSw); (try simp only [List.getElem_toArray, List.getElem_cons_zero, List.getElem_cons_succ]); go_simp; try with_reducible rfl)
            try simp only [Act.put, List.setIfInBounds_toArray, List.set_cons_zero, List.set_cons_succ]
            refine tkV (i := 9) (d := some 13) (v := ?_) rfl (by kernel_rfl) (by kernel_rfl) (by kernel_rfl) rfl (fun _ _ _ h => h) (by rfl) ?_ (by assumption) ?_
            rotate_left
            · (intro w hSw; (try dsimp only at hSw); (try simp only [List.getElem_toArray, List.getElem_cons_zero, List.getElem_cons_succ]); go_simp; try with_reducible rfl)
            try simp only [Act.put, List.setIfInBounds_toArray, List.set_cons_zero, List.set_cons_succ]
            refine wpAnyH_done (by kernel_rfl) ?_ _
            refine NoPanic.normal ?_
            go_wp2
            go_roundw
            case rel => exact ⟨i + 1, by omega, by go_num, by rw [HTk.out], HMh, HBh⟩
            case measure => simp [intOf]; omega
          | false =>
            rw [Bool.false_and] at HTk
            go_wp2
            refine wp_region_noPanic ?_
            refine wp_region_held_drew (S := (fun V => (V.cell? ⟨w2.heap.size, 0, none⟩ = some (.bool tS) ∧ V.cell? ⟨w2.heap.size, 1, none⟩ = some (.slice gS (nmK NS 3).length eS) ∧ V.cell? ⟨w2.heap.size, 2, none⟩ = some (.slice hS (ptK PS).length fS)) ∧ V.cell? ⟨bg, og + i * 2, none⟩ = some (.string us) ∧ V.cell? ⟨bg, og + i * 2 + 1, none⟩ = some (.int .i64 up))) (by kernel_rfl) ?_ (fun hHeld => ?_)
            · exact hsd
            refine tkV (i := 0) (d := some 69) (v := ?_) rfl (by kernel_rfl) (by kernel_rfl) (by kernel_rfl) rfl (fun _ _ _ h => h) (by rfl) ?_ (by assumption) ?_
            rotate_left
            · (intro w hSw; (try dsimp only at hSw); (try simp only [List.getElem_toArray, List.getElem_cons_zero]); go_simp; try with_reducible rfl)
            try simp only [Act.put, List.setIfInBounds_toArray, List.set_cons_zero, List.set_cons_succ]
            refine tkV (i := 1) (d := some 70) (v := ?_) rfl (by kernel_rfl) (by kernel_rfl) (by kernel_rfl) rfl (fun _ _ _ h => h) (by rfl) ?_ (by assumption) ?_
            rotate_left
            · (intro w hSw; (try dsimp only at hSw); (try simp only [List.getElem_toArray, List.getElem_cons_zero, List.getElem_cons_succ]); go_simp; try with_reducible rfl)
            try simp only [Act.put, List.setIfInBounds_toArray, List.set_cons_zero, List.set_cons_succ]
            refine tkU (i := 2) (d := some 71) rfl (by kernel_rfl) (by kernel_rfl) (by kernel_rfl) rfl (fun _ _ _ h => h) (by rfl) (by assumption) ?_
            try simp only [Act.put, List.setIfInBounds_toArray, List.set_cons_zero, List.set_cons_succ]
            refine tkU (i := 3) (d := some 72) rfl (by kernel_rfl) (by kernel_rfl) (by kernel_rfl) rfl (fun _ _ _ h => h) (by rfl) (by assumption) ?_
            try simp only [Act.put, List.setIfInBounds_toArray, List.set_cons_zero, List.set_cons_succ]
            refine tkU (i := 4) (d := some 73) rfl (by kernel_rfl) (by kernel_rfl) (by kernel_rfl) rfl (fun _ _ _ h => h) (by rfl) (by assumption) ?_
            try simp only [Act.put, List.setIfInBounds_toArray, List.set_cons_zero, List.set_cons_succ]
            refine tkU (i := 5) (d := some 74) rfl (by kernel_rfl) (by kernel_rfl) (by kernel_rfl) rfl (fun _ _ _ h => h) (by rfl) (by assumption) ?_
            try simp only [Act.put, List.setIfInBounds_toArray, List.set_cons_zero, List.set_cons_succ]
            refine tkU (i := 6) (d := some 75) rfl (by kernel_rfl) (by kernel_rfl) (by kernel_rfl) rfl (fun _ _ _ h => h) (by rfl) (by assumption) ?_
            try simp only [Act.put, List.setIfInBounds_toArray, List.set_cons_zero, List.set_cons_succ]
            refine wpAnyH_ready (rs := [7]) (by kernel_rfl) (by simp) (AllReadyH.cons rfl (fun K hK => ?_) AllReadyH.nil)
            try simp only [List.getElem_toArray, List.getElem_cons_zero, List.getElem_cons_succ]
            go_simp
            refine hK.out _ _ ?_ (fun hHeld7 => ?_)
            · assumption
            clear hK K
            (try simp only [Act.put]); (try simp only [List.setIfInBounds_toArray]); (try simp only [List.set_cons_succ]); (try simp only [List.set_cons_zero])
            refine tkV (i := 8) (d := some 77) (v := ?_) rfl (by kernel_rfl) (by kernel_rfl) (by kernel_rfl) rfl (fun _ _ _ h => h) (by rfl) ?_ (by assumption) ?_
            rotate_left
            · (intro w hSw; (try dsimp only at hSw); (try simp only [List.getElem_toArray, List.getElem_cons_zero, List.getElem_cons_succ]); go_simp; try with_reducible rfl)
            try simp only [Act.put, List.setIfInBounds_toArray, List.set_cons_zero, List.set_cons_succ]
            refine tkV (i := 9) (d := some 13) (v := ?_) rfl (by kernel_rfl) (by kernel_rfl) (by kernel_rfl) rfl (fun _ _ _ h => h) (by rfl) ?_ (by assumption) ?_
            rotate_left
            · (intro w hSw; (try dsimp only at hSw); (try simp only [List.getElem_toArray, List.getElem_cons_zero, List.getElem_cons_succ]); go_simp; try with_reducible rfl)
            try simp only [Act.put, List.setIfInBounds_toArray, List.set_cons_zero, List.set_cons_succ]
            refine wpAnyH_done (by kernel_rfl) ?_ _
            refine NoPanic.normal ?_
            go_wp2
            go_roundw
            case rel => exact ⟨i + 1, by omega, by go_num, by rw [HTk.out], HMd, HBd⟩
            case measure => simp [intOf]; omega
        · have hiI : ¬ (i : Int) < (gl'.length : Int) := by omega
          have HAl : Hid ((gl'.take i).all (hdF tS (nmK NS 3) (ptK PS)) = gl'.all (hdF tS (nmK NS 3) (ptK PS))) := hid0 (by rw [List.take_of_length_le (by omega)])
          rw [HAl.out]
          have HMl := hid0 (fun (V : World) (h : SW wb V A e (wovE (trailE tS (nmK NS 3) (ptK PS)) e) (nmK NS 3) (ptK PS) l av gS hS w1.heap.size w2.heap.size w4.heap.size ⟨.int .i64 k1, .bool t1, .slice a1 m1 c1, .slice b1 n1 d1, .slice g1 l1 z1⟩ ⟨.int .i64 k5, .bool t5, .slice a5 m5 c5, .slice b5 n5 d5, .slice g5 l5 z5⟩ (.bool tS) (.slice gS (nmK NS 3).length eS) (.slice hS (ptK PS).length fS)) (hV : Below w8.heap.size w8 V) => match_at e _ (fun _ => True) ll' al cl A V (by have := HLf.out; have := HL8.out; omega) h.ie h.e3 ((HKl.out.below hV).up hV.size))
          unfold EV.v at HMl
          simp only [] at HMl
          obtain ⟨⟨e0, e1, e2, e3, e4⟩, _⟩ := rowE HMi.out.re
          generalize gl'.all (hdF tS (nmK NS 3) (ptK PS)) = ga' at *
          generalize mtB e ll' = me' at *
          have HNx : Hid (wantB (hdF tS (nmK NS 3) (ptK PS)) e l (j + 1) = (wj || (ga' && me'))) := HWs
          clear HAl
          cases wj with
          | true =>
            rw [Bool.true_or] at HNx
            go_wp2
            go_roundw
            case rel => exact ⟨j + 1, q + 2, hid0 (by have := HQ.out; omega), by omega, .inr (by have := HQ.out; omega), by go_num, by rw [HNx.out], HMi⟩
            case measure => simp [intOf]; omega
          | false =>
            cases ga' with
            | false =>
              rw [Bool.false_or, Bool.false_and] at HNx
              go_wp2
              go_roundw
              case rel => exact ⟨j + 1, q + 2, hid0 (by have := HQ.out; omega), by omega, .inr (by have := HQ.out; omega), by go_num, by rw [HNx.out], HMi⟩
              case measure => simp [intOf]; omega
            | true =>
              rw [Bool.false_or, Bool.true_and] at HNx
              go_wp2_with (first
                | (go_at_call 11
                   refine (HMl.out _ HMi.out HBi.out).mono ?_
                   rintro r wm ⟨rfl, hbm⟩
                   have HMm := hid0 (HMi.out.past hbm)
                   clear hbm)
                | fail)
              go_roundw
              case rel => exact ⟨j + 1, q + 2, hid0 (by have := HQ.out; omega), by omega, .inr (by have := HQ.out; omega), by go_num, by rw [HNx.out], HMm⟩
              case measure => simp [intOf]; omega
    · have hltI : ¬ (q : Int) < (pw : Int) := by omega
      have HEq := hid0 (eq_skip tS (nmK NS 3) (ptK PS) HMy.out HL4.out HWa.out.1 (by omega) (by have := HSz.out; omega) l j hj1 (by rw [← HPw.out]; have := HQ.out; omega) (by rw [← HPw.out]; exact hj2))
      rw [HEq.out] at HMf
      generalize wantB (hdF tS (nmK NS 3) (ptK PS)) e l j = wj at *
      obtain ⟨⟨e0, e1, e2, e3, e4⟩, _⟩ := rowE HMr.out.rf
      go_wp2_with (first
        | (go_at_call 11
           refine (HMf.out _ HMr.out).mono ?_
           rintro r wm ⟨rfl, hbm⟩
           have HMm := hid0 (HMr.out.past hbm)
           clear hbm)
        | fail)
      go_ret
      exact ⟨by simp, Below.later HBb.out HMm.out.bel⟩
end Go.Proofs.YtiapefdklojhdaaDoor
namespace Go.Proofs.YtiapefdklojhdaaDoor
open Go.RowKit Go.Shelf
set_option maxRecDepth 10000 in
set_option maxHeartbeats 6400000 in
theorem skips_1 (eA : Ex) (xA : EV) (tS : Bool) (NS : List ByteArray) (PS : List (Int × Int)) (aS bS : Option Addr) (cS dS : Nat) (lw : List Kd) (aw : Option Addr) (cw : Nat) (A : Nat → Addr) (w : World) (hA : ExIn w eA xA) (hNS : SA w aS NS) (hPS : RA w bS PS) (hw : KA w w.heap.size aw lw) (hE : E3 w A) (hlen : ¬ (wordK lw).length ≤ 8) :
    Calls Tryd.prog 3 #[.agg #[xA.k, xA.t, xA.n, xA.p, xA.r, .bool tS, .slice aS NS.length cS, .slice bS PS.length dS, .slice aw lw.length cw]] w fun r w' => r = .returned (.bool true) ∧ Below w.heap.size w w' := by
  have HTA := hid0 (fun (V : World) (hV : Below w.heap.size w V) => tidy_any 3 (by omega) eA V xA (hA.past hV))
  have HSO := hid0 (fun (V : World) (hV : Below w.heap.size w V) => setOf_any tS NS PS aS bS cS dS V (hNS.below hV) (hPS.below hV))
  have HWd := hid0 (fun (V : World) (hV : Below w.heap.size w V) => wordOf_any lw aw cw V ((hw.below hV).up hV.size))
  have HFi := hid0 (fun (V : World) (hV : Below w.heap.size w V) => first_any A V (hE.below hV))
  have HE := hid0 hE
  have HWa := hid0 (tidy_wf 3 eA)
  have HLe : Hid ((wordK lw).length ≤ 12) := hid0 (by unfold wordK; rw [List.length_map, List.length_take]; omega)
  unfold WordP at HWd
  unfold SetR at HSO
  generalize tidyE 3 eA = e at *
  generalize wordK lw = l0 at *
  have HSz : Hid (e.size ≤ 40) := hid0 HWa.out.2
  obtain ⟨kA, tA, aA, mA, cA, bA, nA, dA, gA, lA, zA, rfl⟩ : ∃ k t a m c b n d g l z, xA = ⟨.int .i64 k, .bool t, .slice a m c, .slice b n d, .slice g l z⟩ := by
    cases hA with
    | mk k nt N P L a ca b cb c cc vs hN hP hL hR => exact ⟨_, _, _, _, _, _, _, _, _, _, _, rfl⟩
  unfold EV.v at HTA
  simp only [] at HTA ⊢
  clear hA hw hE hNS hPS
  have HMy : Hid (mayF (nmK NS 3) (ptK PS) = true) := hid0 (by unfold mayF; rw [names_may, points_may]; rfl)
  have HL4 : Hid ((nmK NS 3).length + (ptK PS).length ≤ 4) := hid0 (by have := nmK_len NS 3; have := pts_len PS; omega)
  obtain ⟨wb, hwb⟩ : ∃ wb, w.alloc (.cells #[.int .i64 kA, .bool tA, .slice aA mA cA, .slice bA nA dA, .slice gA lA zA, .bool tS, .slice aS NS.length cS, .slice bS PS.length dS, .slice aw lw.length cw] 31) = wb := ⟨_, rfl⟩
  obtain ⟨hbb, hrb, hsb⟩ := laid hwb
  have HBb := hid0 hbb
  have HBox : Hid (∀ V, Below wb.heap.size wb V → V.cell? ⟨w.heap.size, 0, none⟩ = some (.int .i64 kA) ∧ V.cell? ⟨w.heap.size, 1, none⟩ = some (.bool tA) ∧ V.cell? ⟨w.heap.size, 2, none⟩ = some (.slice aA mA cA) ∧ V.cell? ⟨w.heap.size, 3, none⟩ = some (.slice bA nA dA) ∧ V.cell? ⟨w.heap.size, 4, none⟩ = some (.slice gA lA zA) ∧ V.cell? ⟨w.heap.size, 5, none⟩ = some (.bool tS) ∧ V.cell? ⟨w.heap.size, 6, none⟩ = some (.slice aS NS.length cS) ∧ V.cell? ⟨w.heap.size, 7, none⟩ = some (.slice bS PS.length dS) ∧ V.cell? ⟨w.heap.size, 8, none⟩ = some (.slice aw lw.length cw)) := hid0 (fun V hV => by
    have hr := kept hV hrb
    refine ⟨?_, ?_, ?_, ?_, ?_, ?_, ?_, ?_, ?_⟩ <;> (rw [cell_of_row _ _ _ _ _ _ hr]; rfl))
  have hc0 := HBox.out wb (Below.refl _ _)
  have HLb := hid0 hlen
  have hl8 : (8 : Int) < (l0.length : Int) := by omega
  obtain ⟨l, hl⟩ : ∃ l, l = l0.take 8 := ⟨_, rfl⟩
  have HLl : Hid (l.length = 8) := hid0 (by rw [hl, List.length_take]; omega)
  have HLt := hid0 hl
  clear hl
  clear hbb hrb hsb hlen
  have HSp := hid0 (fun (V : World) (x : EV) (hx : ExIs V (fun _ => True) e x) (g h : Option Addr) (ce cf : Nat) (hN : SQ V (fun _ => True) g (nmK NS 3)) (hP : RQ V (fun _ => True) h (ptK PS)) (h3 : E3 V A) => skip_any e x (fun _ => True) tS (nmK NS 3) (ptK PS) g h ce cf A V 4 (by omega) HWa.out.1 (by have := HSz.out; omega) HMy.out HL4.out hx hN hP h3)
  have HOkL := hid0 (wf_ok (wov_wf (trail_wf (nt := tS) HMy.out HL4.out) rfl 4 e HWa.out.1) (by omega) (by have := wov_size (trailE tS (nmK NS 3) (ptK PS)) (trail_size tS (nmK NS 3) (ptK PS)) e; have := HSz.out; omega))
  go_enter Tryd.func3, Tryd.ntmps3
  go_wp2_with (first
    | (go_at_call 10
       refine (HCl.out w5 HM5.out).mono ?_
       rintro r w6 ⟨rfl, hb6⟩
       have HM6 := hid0 (HM5.out.past hb6)
       obtain ⟨⟨i0, i1, i2, i3, i4⟩, _⟩ := rowE HM6.out.re
       clear hb6)
    | (go_at_call 11
       refine (HMe.out w6 HM6.out).mono ?_
       rintro r w7 ⟨rfl, hb7⟩
       have HM7 := hid0 (HM6.out.past hb7)
       clear hb7)
    | (go_at_call 9
       refine (HFi.out _ (Below.later HBb.out HM4.out.bel)).mono ?_
       rintro r w5 ⟨rfl, hb5⟩
       have HM5 := hid0 (HM4.out.past hb5)
       obtain ⟨⟨j0, j1, j2, j3, j4⟩, _⟩ := rowE HM5.out.rf
       clear hb5)
    | (go_at_call 8
       refine HCs.out.mono ?_
       rintro r w4 ⟨yf, rfl, q1, q2⟩
       obtain ⟨k5, t5, a5, m5, c5, b5, n5, d5, g5, l5, z5, rfl⟩ := q1.flatB
       obtain ⟨v4, hv4⟩ : ∃ v4, w4.alloc (.cells #[.int .i64 k5, .bool t5, .slice a5 m5 c5, .slice b5 n5 d5, .slice g5 l5 z5] 28) = v4 := ⟨_, rfl⟩
       obtain ⟨b4', r4', _⟩ := laid hv4
       have hb4 := Below.later q2 b4'
       have HM4 : Hid (SW wb v4 A e (wovE (trailE tS (nmK NS 3) (ptK PS)) e) (nmK NS 3) (ptK PS) l (some ⟨gw, ow, none⟩) gS hS w1.heap.size w2.heap.size w4.heap.size ⟨.int .i64 k1, .bool t1, .slice a1 m1 c1, .slice b1 n1 d1, .slice g1 l1 z1⟩ ⟨.int .i64 k5, .bool t5, .slice a5 m5 c5, .slice b5 n5 d5, .slice g5 l5 z5⟩ (.bool tS) (.slice gS (nmK NS 3).length eS) (.slice hS (ptK PS).length fS)) := hid0 ⟨Below.later HB3.out hb4, HE3.out.below hb4, (HKa.out.below hb4).up hb4.size, HIe3.out.past hb4, q1.past b4', HSn3.out.keeps ⟨hb4.size, fun g o _ hl => hb4.cell (p := ⟨g, o, none⟩) hl⟩, HSp3.out.keeps ⟨hb4.size, fun g o _ hl => hb4.cell (p := ⟨g, o, none⟩) hl⟩, kept hb4 HRe3.out, kept hb4 HRs3.out, r4'⟩
       have HMe := hid0 (fun (V : World) (h : SW wb V A e (wovE (trailE tS (nmK NS 3) (ptK PS)) e) (nmK NS 3) (ptK PS) l (some ⟨gw, ow, none⟩) gS hS w1.heap.size w2.heap.size w4.heap.size ⟨.int .i64 k1, .bool t1, .slice a1 m1 c1, .slice b1 n1 d1, .slice g1 l1 z1⟩ ⟨.int .i64 k5, .bool t5, .slice a5 m5 c5, .slice b5 n5 d5, .slice g5 l5 z5⟩ (.bool tS) (.slice gS (nmK NS 3).length eS) (.slice hS (ptK PS).length fS)) => match_at e _ (fun _ => True) l (some ⟨gw, ow, none⟩) cv A V (by have := HLl.out; omega) h.ie h.e3 h.ka)
       have HMf := hid0 (fun (V : World) (h : SW wb V A e (wovE (trailE tS (nmK NS 3) (ptK PS)) e) (nmK NS 3) (ptK PS) l (some ⟨gw, ow, none⟩) gS hS w1.heap.size w2.heap.size w4.heap.size ⟨.int .i64 k1, .bool t1, .slice a1 m1 c1, .slice b1 n1 d1, .slice g1 l1 z1⟩ ⟨.int .i64 k5, .bool t5, .slice a5 m5 c5, .slice b5 n5 d5, .slice g5 l5 z5⟩ (.bool tS) (.slice gS (nmK NS 3).length eS) (.slice hS (ptK PS).length fS)) => match_at (wovE (trailE tS (nmK NS 3) (ptK PS)) e) _ (fun _ => True) l (some ⟨gw, ow, none⟩) cv A V (by have := HLl.out; omega) h.iff h.e3 h.ka)
       have HCl := hid0 (fun (V : World) (h : SW wb V A e (wovE (trailE tS (nmK NS 3) (ptK PS)) e) (nmK NS 3) (ptK PS) l (some ⟨gw, ow, none⟩) gS hS w1.heap.size w2.heap.size w4.heap.size ⟨.int .i64 k1, .bool t1, .slice a1 m1 c1, .slice b1 n1 d1, .slice g1 l1 z1⟩ ⟨.int .i64 k5, .bool t5, .slice a5 m5 c5, .slice b5 n5 d5, .slice g5 l5 z5⟩ (.bool tS) (.slice gS (nmK NS 3).length eS) (.slice hS (ptK PS).length fS)) => check_any mayF (wovE (trailE tS (nmK NS 3) (ptK PS)) e) _ (fun _ => True) A V h.iff (allM_of h.iff) h.e3)
       rw [errC_ok HOkL.out] at HCl
       unfold EV.v at HMe HMf HCl
       simp only [] at HMe HMf HCl
       rw [HLl.out] at HMe HMf
       unfold EV.v
       clear q1 q2 b4' r4' hb4)
    | (go_at_call 7
       refine (HWd.out _ (Below.later HBb.out HB2.out)).mono ?_
       rintro r w3 ⟨vw, rfl, q1, q2⟩
       have HB3 := hid0 (Below.later HB2.out q2)
       have HIe3 := hid0 (HIe2.out.past q2)
       have HRe3 : Hid (R5' w3 w1.heap.size ⟨.int .i64 k1, .bool t1, .slice a1 m1 c1, .slice b1 n1 d1, .slice g1 l1 z1⟩) := hid0 (kept q2 HRe2.out)
       have HRs3 := hid0 (kept q2 HRs2.out)
       have HSn3 := hid0 (HSn2.out.keeps ⟨q2.size, fun g o _ hl => q2.cell (p := ⟨g, o, none⟩) hl⟩)
       have HSp3 := hid0 (HSp2.out.keeps ⟨q2.size, fun g o _ hl => q2.cell (p := ⟨g, o, none⟩) hl⟩)
       have HE3 := hid0 (HE.out.below (Below.later HBb.out HB3.out))
       obtain ⟨gw, ow, cv, hcv, rfl, hka⟩ : ∃ gw ow cv, l0.length ≤ cv ∧ vw = .slice (some ⟨gw, ow, none⟩) l0.length cv ∧ KA w3 w3.heap.size (some ⟨gw, ow, none⟩) l0 := by
         obtain ⟨a', cap', e', hk'⟩ := q1.ka
         rcases q1.2 with ⟨ev', hn⟩ | ⟨g', cap, cur, ev', _, _, hc, _⟩
         · exact absurd (by rw [hn]; omega) HLb.out
         · rw [ev'] at e'
           cases e'
           exact ⟨g', 0, cap', hc, ev', hk'⟩
       have HKa := hid0 (show KA w3 w3.heap.size (some ⟨gw, ow, none⟩) l by rw [HLt.out]; exact hka.take 8)
       have hcI : (l0.length : Int) ≤ (cv : Int) := by omega
       have hcI8 : (8 : Int) ≤ (cv : Int) := by omega
       have HCs := hid0 (HSp.out w3 _ HIe3.out gS hS eS fS HSn3.out HSp3.out HE3.out)
       unfold EV.v SkipR at HCs
       simp only [] at HCs
       obtain ⟨⟨s0, s1, s2, s3, s4⟩, _⟩ := rowE HRe3.out
       obtain ⟨⟨p0, p1, p2⟩, _⟩ := row3 HRs3.out
       clear q1 q2 hka)
    | (go_at_call 6
       refine (HSO.out _ (Below.later HBb.out HB1.out)).mono ?_
       rintro r w2 ⟨gS, eS, hS, fS, rfl, q1, q2, q3⟩
       obtain ⟨v2, hv2⟩ : ∃ v2, w2.alloc (.cells #[.bool tS, .slice gS (nmK NS 3).length eS, .slice hS (ptK PS).length fS] 25) = v2 := ⟨_, rfl⟩
       obtain ⟨b2', r2', _⟩ := laid hv2
       have hb2 := Below.later q3 b2'
       have HB2 := hid0 (Below.later HB1.out hb2)
       have HSn2 : Hid (SQ v2 (fun _ => True) gS (nmK NS 3)) := hid0 (SQ.keeps (w := w2) ⟨fun k' hk' => by
         obtain ⟨b', off', e', _, h'⟩ := q1.at' k' hk'
         exact ⟨b', off', e', trivial, h'⟩⟩ ⟨b2'.size, fun g o _ hl => b2'.cell (p := ⟨g, o, none⟩) hl⟩)
       have HSp2 : Hid (RQ v2 (fun _ => True) hS (ptK PS)) := hid0 (RQ.keeps (w := w2) ⟨fun k' hk' => by
         obtain ⟨b', off', e', _, h'⟩ := q2.at' k' hk'
         exact ⟨b', off', e', trivial, h'⟩⟩ ⟨b2'.size, fun g o _ hl => b2'.cell (p := ⟨g, o, none⟩) hl⟩)
       have HRs2 := hid0 r2'
       have HIe2 := hid0 (HIe1.out.past hb2)
       have HRe2 : Hid (R5' v2 w1.heap.size ⟨.int .i64 k1, .bool t1, .slice a1 m1 c1, .slice b1 n1 d1, .slice g1 l1 z1⟩) := hid0 (kept hb2 HRe1.out)
       have hc2 := HBox.out v2 HB2.out
       clear q1 q2 q3 b2' r2' hb2)
    | (go_at_call 5
       refine (HTA.out _ HBb.out).mono ?_
       rintro r w1 hr
       obtain ⟨k1, t1, a1, m1, c1, b1, n1, d1, g1, l1, z1, rfl, q1, q2⟩ := hr.shape
       obtain ⟨v1, hv1⟩ : ∃ v1, w1.alloc (.cells #[.int .i64 k1, .bool t1, .slice a1 m1 c1, .slice b1 n1 d1, .slice g1 l1 z1] 28) = v1 := ⟨_, rfl⟩
       obtain ⟨b1', r1', _⟩ := laid hv1
       have HB1 := hid0 (Below.later q2 b1')
       have HIe1 := hid0 ((q1.past b1').mono (Q' := fun _ => True) (fun _ _ _ => trivial))
       have HRe1 : Hid (R5' v1 w1.heap.size ⟨.int .i64 k1, .bool t1, .slice a1 m1 c1, .slice b1 n1 d1, .slice g1 l1 z1⟩) := hid0 r1'
       have hc1 := HBox.out v1 HB1.out
       clear hr q1 q2 b1' r1')
    | fail)
  have HLn : Hid (l.length = 8) := hid0 HLl.out
  have HL8 : Hid (l.length ≤ 8) := hid0 (by have := HLl.out; omega)
  have HWo := hid0 (fun (V : World) (h : SW wb V A e (wovE (trailE tS (nmK NS 3) (ptK PS)) e) (nmK NS 3) (ptK PS) l (some ⟨gw, ow, none⟩) gS hS w1.heap.size w2.heap.size w4.heap.size ⟨.int .i64 k1, .bool t1, .slice a1 m1 c1, .slice b1 n1 d1, .slice g1 l1 z1⟩ ⟨.int .i64 k5, .bool t5, .slice a5 m5 c5, .slice b5 n5 d5, .slice g5 l5 z5⟩ (.bool tS) (.slice gS (nmK NS 3).length eS) (.slice hS (ptK PS).length fS)) (b : Nat) => without_any l b (some ⟨gw, ow, none⟩) cv V HL8.out h.ka)
  rw [HLl.out] at HWo
  obtain ⟨pw, hpw⟩ : ∃ pw, pw = 2 ^ l.length := ⟨_, rfl⟩
  have hp256 : pw ≤ 256 := by rw [hpw]; exact Nat.le_trans (Nat.pow_le_pow_right (by decide) HL8.out) (by decide)
  have HPw := hid0 hpw
  have hpw8 : pw = 256 := by rw [hpw, HLl.out]
  clear hpw
  go_loopw [9, 10, 11, 12, 13, 14] (fun wt bt _ _ _ _ wr => ∃ (j q : Nat), Hid (q = 2 * j) ∧ 1 ≤ j ∧ (j = 1 ∨ 2 * (j - 1) < pw) ∧ bt = .int .i64 (q : Int) ∧ wt = .bool (wantB (hdF tS (nmK NS 3) (ptK PS)) e l j) ∧ Hid (SW wb wr A e (wovE (trailE tS (nmK NS 3) (ptK PS)) e) (nmK NS 3) (ptK PS) l (some ⟨gw, ow, none⟩) gS hS w1.heap.size w2.heap.size w4.heap.size ⟨.int .i64 k1, .bool t1, .slice a1 m1 c1, .slice b1 n1 d1, .slice g1 l1 z1⟩ ⟨.int .i64 k5, .bool t5, .slice a5 m5 c5, .slice b5 n5 d5, .slice g5 l5 z5⟩ (.bool tS) (.slice gS (nmK NS 3).length eS) (.slice hS (ptK PS).length fS))) (fun _ bt _ _ _ _ _ => 600 - (intOf bt).toNat)
  case atStart => exact ⟨1, 2, hid0 rfl, Nat.le_refl _, .inl rfl, rfl, by rw [wantB_one], HM7⟩
  case round =>
    obtain ⟨j, q, HQ, hj1, hj2, rfl, rfl, HMr⟩ := hrel
    by_cases hlt : q < pw
    · have hltI : (q : Int) < 256 := by omega
      have HCw := hid0 (HWo.out wr HMr.out q)
      unfold WithR at HCw
      have HWs := hid0 (wantB_succ (hdF tS (nmK NS 3) (ptK PS)) e l j)
      rw [← HQ.out] at HWs
      have HGl := hid0 (gone_len l q)
      have HLf := hid0 (left_len l q)
      generalize goneL l q = gl' at *
      generalize leftL l q = ll' at *
      go_wp2_with (first
        | (go_at_call 12
           refine HCw.out.mono ?_
           rintro r w8 ⟨vl, vg, rfl, q1, q2, q3⟩
           have HM8 := hid0 (HMr.out.past q3)
           obtain ⟨al, cl, rfl, hkl⟩ := q1.ka
           obtain ⟨ag, cg, rfl, hkg⟩ := q2.ka
           have HKl := hid0 hkl
           have HKg := hid0 hkg
           clear q1 q2 q3 hkl hkg)
        | fail)
      generalize wantB (hdF tS (nmK NS 3) (ptK PS)) e l j = wj at *
      go_loopw [13, 14] (fun ft it wi => ∃ (i : Nat), i ≤ gl'.length ∧ it = .int .i64 (i : Int) ∧ ft = .bool ((gl'.take i).all (hdF tS (nmK NS 3) (ptK PS))) ∧ Hid (SW wb wi A e (wovE (trailE tS (nmK NS 3) (ptK PS)) e) (nmK NS 3) (ptK PS) l (some ⟨gw, ow, none⟩) gS hS w1.heap.size w2.heap.size w4.heap.size ⟨.int .i64 k1, .bool t1, .slice a1 m1 c1, .slice b1 n1 d1, .slice g1 l1 z1⟩ ⟨.int .i64 k5, .bool t5, .slice a5 m5 c5, .slice b5 n5 d5, .slice g5 l5 z5⟩ (.bool tS) (.slice gS (nmK NS 3).length eS) (.slice hS (ptK PS).length fS)) ∧ Hid (Below w8.heap.size w8 wi)) (fun _ it _ => gl'.length - (intOf it).toNat)
      case atStart => exact ⟨0, Nat.zero_le _, rfl, rfl, HM8, hid0 (Below.refl _ _)⟩
      case round =>
        obtain ⟨i, hi', rfl, rfl, HMi, HBi⟩ := hrel
        have hgl8 : gl'.length ≤ 8 := Nat.le_trans HGl.out HL8.out
        by_cases hil : i < gl'.length
        · have hiI : (i : Int) < (gl'.length : Int) := by omega
          have hiI0 : (0 : Int) ≤ (i : Int) := by omega
          obtain ⟨bg, og, rfl, hbg, hg0, hg1⟩ := HKg.out.at' i hil
          have HTk : Hid ((gl'.take (i + 1)).all (hdF tS (nmK NS 3) (ptK PS)) = ((gl'.take i).all (hdF tS (nmK NS 3) (ptK PS)) && (hdF tS (nmK NS 3) (ptK PS)) gl'[i])) := hid0 (by rw [List.take_add_one, List.getElem?_eq_getElem hil, List.all_append]; simp)
          have HHo := hid0 (fun (V : World) (h : SW wb V A e (wovE (trailE tS (nmK NS 3) (ptK PS)) e) (nmK NS 3) (ptK PS) l (some ⟨gw, ow, none⟩) gS hS w1.heap.size w2.heap.size w4.heap.size ⟨.int .i64 k1, .bool t1, .slice a1 m1 c1, .slice b1 n1 d1, .slice g1 l1 z1⟩ ⟨.int .i64 k5, .bool t5, .slice a5 m5 c5, .slice b5 n5 d5, .slice g5 l5 z5⟩ (.bool tS) (.slice gS (nmK NS 3).length eS) (.slice hS (ptK PS).length fS)) => holds_any tS (nmK NS 3) (ptK PS) gS hS eS fS gl'[i].1 gl'[i].2 V (by have := HL4.out; omega) (by have := HL4.out; omega) h.sn.sa h.sp.ra)
          have HSk := hid0 (fun (V : World) (h : SW wb V A e (wovE (trailE tS (nmK NS 3) (ptK PS)) e) (nmK NS 3) (ptK PS) l (some ⟨gw, ow, none⟩) gS hS w1.heap.size w2.heap.size w4.heap.size ⟨.int .i64 k1, .bool t1, .slice a1 m1 c1, .slice b1 n1 d1, .slice g1 l1 z1⟩ ⟨.int .i64 k5, .bool t5, .slice a5 m5 c5, .slice b5 n5 d5, .slice g5 l5 z5⟩ (.bool tS) (.slice gS (nmK NS 3).length eS) (.slice hS (ptK PS).length fS)) (hV : Below w8.heap.size w8 V) => (show (V.cell? ⟨w2.heap.size, 0, none⟩ = some (.bool tS) ∧ V.cell? ⟨w2.heap.size, 1, none⟩ = some (.slice gS (nmK NS 3).length eS) ∧ V.cell? ⟨w2.heap.size, 2, none⟩ = some (.slice hS (ptK PS).length fS)) ∧ V.cell? ⟨bg, og + i * 2, none⟩ = some (.string gl'[i].1) ∧ V.cell? ⟨bg, og + i * 2 + 1, none⟩ = some (.int .i64 gl'[i].2) from ⟨(row3 h.rs).1, (hV.cell (p := ⟨bg, og + i * 2, none⟩) hbg).trans hg0, (hV.cell (p := ⟨bg, og + i * 2 + 1, none⟩) hbg).trans hg1⟩))
          have HMd := hid0 (HMi.out.past (Below.refl wr.heap.size wr).drew)
          have HBd := hid0 (Below.later HBi.out (Below.refl wr.heap.size wr).drew)
          have hsd := HSk.out _ HMd.out HBd.out
          have HHe : Hid (holdsF tS (nmK NS 3) (ptK PS) gl'[i].1 gl'[i].2 = (hdF tS (nmK NS 3) (ptK PS)) gl'[i]) := hid0 rfl
          rw [HHe.out] at HHo
          generalize (hdF tS (nmK NS 3) (ptK PS)) gl'[i] = hv at *
          generalize gl'[i].1 = us at *
          generalize gl'[i].2 = up at *
          generalize (gl'.take i).all (hdF tS (nmK NS 3) (ptK PS)) = fi at *
          clear hg0 hg1 HHe
          cases fi with
          | true =>
            rw [Bool.true_and] at HTk
            go_wp2
            refine wp_region_noPanic ?_
            refine wp_region_held_drew (S := (fun V => (V.cell? ⟨w2.heap.size, 0, none⟩ = some (.bool tS) ∧ V.cell? ⟨w2.heap.size, 1, none⟩ = some (.slice gS (nmK NS 3).length eS) ∧ V.cell? ⟨w2.heap.size, 2, none⟩ = some (.slice hS (ptK PS).length fS)) ∧ V.cell? ⟨bg, og + i * 2, none⟩ = some (.string us) ∧ V.cell? ⟨bg, og + i * 2 + 1, none⟩ = some (.int .i64 up))) (by kernel_rfl) ?_ (fun hHeld => ?_)
            · exact hsd
            refine tkV (i := 0) (d := some 69) (v := ?_) rfl (by kernel_rfl) (by kernel_rfl) (by kernel_rfl) rfl (fun _ _ _ h => h) (by rfl) ?_ (by assumption) ?_
            rotate_left
            · (intro w hSw; (try dsimp only at hSw); (try simp only [List.getElem_toArray, List.getElem_cons_zero]); go_simp; try with_reducible rfl)
            try simp only [Act.put, List.setIfInBounds_toArray, List.set_cons_zero, List.set_cons_succ]
            refine tkV (i := 1) (d := some 70) (v := ?_) rfl (by kernel_rfl) (by kernel_rfl) (by kernel_rfl) rfl (fun _ _ _ h => h) (by rfl) ?_ (by assumption) ?_
            rotate_left
            · (intro w hSw; (try dsimp only at hSw); (try simp only [List.getElem_toArray, List.getElem_cons_zero, List.getElem_cons_succ]); go_simp; try with_reducible rfl)
            try simp only [Act.put, List.setIfInBounds_toArray, List.set_cons_zero, List.set_cons_succ]
            refine tkV (i := 2) (d := some 71) (v := ?_) rfl (by kernel_rfl) (by kernel_rfl) (by kernel_rfl) rfl (fun _ _ _ h => h) (by rfl) ?_ (by assumption) ?_
            rotate_left
            · (intro w hSw; (try dsimp only at hSw); (try simp only [List.getElem_toArray, List.getElem_cons_zero, List.getElem_cons_succ]); go_simp; try with_reducible rfl)
            try simp only [Act.put, List.setIfInBounds_toArray, List.set_cons_zero, List.set_cons_succ]
            refine tkV (i := 3) (d := some 72) (v := ?_) rfl (by kernel_rfl) (by kernel_rfl) (by kernel_rfl) rfl (fun _ _ _ h => h) (by rfl) ?_ (by assumption) ?_
            rotate_left
            · (intro w hSw; (try dsimp only at hSw); (try simp only [List.getElem_toArray, List.getElem_cons_zero, List.getElem_cons_succ]); go_simp; try with_reducible rfl)
            try simp only [Act.put, List.setIfInBounds_toArray, List.set_cons_zero, List.set_cons_succ]
            refine tkV (i := 4) (d := some 73) (v := ?_) rfl (by kernel_rfl) (by kernel_rfl) (by kernel_rfl) rfl (fun _ _ _ h => h) (by rfl) ?_ (by assumption) ?_
            rotate_left
            · (intro w hSw; (try dsimp only at hSw); (try simp only [List.getElem_toArray, List.getElem_cons_zero, List.getElem_cons_succ]); go_simp; try with_reducible rfl)
            try simp only [Act.put, List.setIfInBounds_toArray, List.set_cons_zero, List.set_cons_succ]
            refine tkV (i := 5) (d := some 74) (v := ?_) rfl (by kernel_rfl) (by kernel_rfl) (by kernel_rfl) rfl (fun _ _ _ h => h) (by rfl) ?_ (by assumption) ?_
            rotate_left
            · (intro w hSw; (try dsimp only at hSw); (try simp only [List.getElem_toArray, List.getElem_cons_zero, List.getElem_cons_succ]); go_simp; try with_reducible rfl)
            try simp only [Act.put, List.setIfInBounds_toArray, List.set_cons_zero, List.set_cons_succ]
            refine tkV (i := 6) (d := some 75) (v := ?_) rfl (by kernel_rfl) (by kernel_rfl) (by kernel_rfl) rfl (fun _ _ _ h => h) (by rfl) ?_ (by assumption) ?_
            rotate_left
            · (intro w hSw; (try dsimp only at hSw); (try simp only [List.getElem_toArray, List.getElem_cons_zero, List.getElem_cons_succ]); go_simp; try with_reducible rfl)
            try simp only [Act.put, List.setIfInBounds_toArray, List.set_cons_zero, List.set_cons_succ]
            refine wpAnyH_ready (rs := [7]) (by kernel_rfl) (by simp) (AllReadyH.cons rfl (fun K hK => ?_) AllReadyH.nil)
            try simp only [List.getElem_toArray, List.getElem_cons_zero, List.getElem_cons_succ]
            go_simp
            refine (HHo.out _ HMd.out).mono ?_
            rintro r wh ⟨rfl, hbh⟩
            have HMh := hid0 (HMd.out.past hbh)
            have HBh := hid0 (Below.later HBd.out hbh)
            have hsh' := HSk.out _ HMh.out HBh.out
            clear hbh
            go_wp2_with fail
            refine hK.out _ _ ?_ (fun hHeld7 => ?_)
            · exact hsh'
            clear hK K
            (try simp only [Act.put]); (try simp only [List.setIfInBounds_toArray]); (try simp only [List.set_cons_succ]); (try simp only [List.set_cons_zero])
            refine tkV (i := 8) (d := some 77) (v := ?_) rfl (by kernel_rfl) (by kernel_rfl) (by kernel_rfl) rfl (fun _ _ _ h => h) (by rfl) ?_ (by assumption) ?_
            rotate_left
            · (intro w hSw; (try dsimp only at hSw); (try simp only [List.getElem_toArray, List.getElem_cons_zero, List.getElem_cons_succ]); go_simp; try with_reducible rfl)
            try simp only [Act.put, List.setIfInBounds_toArray, List.set_cons_zero, List.set_cons_succ]
            refine tkV (i := 9) (d := some 13) (v := ?_) rfl (by kernel_rfl) (by kernel_rfl) (by kernel_rfl) rfl (fun _ _ _ h => h) (by rfl) ?_ (by assumption) ?_
            rotate_left
            · (intro w hSw; (try dsimp only at hSw); (try simp only [List.getElem_toArray, List.getElem_cons_zero, List.getElem_cons_succ]); go_simp; try with_reducible rfl)
            try simp only [Act.put, List.setIfInBounds_toArray, List.set_cons_zero, List.set_cons_succ]
            refine wpAnyH_done (by kernel_rfl) ?_ _
            refine NoPanic.normal ?_
            go_wp2
            go_roundw
            case rel => exact ⟨i + 1, by omega, by go_num, by rw [HTk.out], HMh, HBh⟩
            case measure => simp [intOf]; omega
          | false =>
            rw [Bool.false_and] at HTk
            go_wp2
            refine wp_region_noPanic ?_
            refine wp_region_held_drew (S := (fun V => (V.cell? ⟨w2.heap.size, 0, none⟩ = some (.bool tS) ∧ V.cell? ⟨w2.heap.size, 1, none⟩ = some (.slice gS (nmK NS 3).length eS) ∧ V.cell? ⟨w2.heap.size, 2, none⟩ = some (.slice hS (ptK PS).length fS)) ∧ V.cell? ⟨bg, og + i * 2, none⟩ = some (.string us) ∧ V.cell? ⟨bg, og + i * 2 + 1, none⟩ = some (.int .i64 up))) (by kernel_rfl) ?_ (fun hHeld => ?_)
            · exact hsd
            refine tkV (i := 0) (d := some 69) (v := ?_) rfl (by kernel_rfl) (by kernel_rfl) (by kernel_rfl) rfl (fun _ _ _ h => h) (by rfl) ?_ (by assumption) ?_
            rotate_left
            · (intro w hSw; (try dsimp only at hSw); (try simp only [List.getElem_toArray, List.getElem_cons_zero]); go_simp; try with_reducible rfl)
            try simp only [Act.put, List.setIfInBounds_toArray, List.set_cons_zero, List.set_cons_succ]
            refine tkV (i := 1) (d := some 70) (v := ?_) rfl (by kernel_rfl) (by kernel_rfl) (by kernel_rfl) rfl (fun _ _ _ h => h) (by rfl) ?_ (by assumption) ?_
            rotate_left
            · (intro w hSw; (try dsimp only at hSw); (try simp only [List.getElem_toArray, List.getElem_cons_zero, List.getElem_cons_succ]); go_simp; try with_reducible rfl)
            try simp only [Act.put, List.setIfInBounds_toArray, List.set_cons_zero, List.set_cons_succ]
            refine tkU (i := 2) (d := some 71) rfl (by kernel_rfl) (by kernel_rfl) (by kernel_rfl) rfl (fun _ _ _ h => h) (by rfl) (by assumption) ?_
            try simp only [Act.put, List.setIfInBounds_toArray, List.set_cons_zero, List.set_cons_succ]
            refine tkU (i := 3) (d := some 72) rfl (by kernel_rfl) (by kernel_rfl) (by kernel_rfl) rfl (fun _ _ _ h => h) (by rfl) (by assumption) ?_
            try simp only [Act.put, List.setIfInBounds_toArray, List.set_cons_zero, List.set_cons_succ]
            refine tkU (i := 4) (d := some 73) rfl (by kernel_rfl) (by kernel_rfl) (by kernel_rfl) rfl (fun _ _ _ h => h) (by rfl) (by assumption) ?_
            try simp only [Act.put, List.setIfInBounds_toArray, List.set_cons_zero, List.set_cons_succ]
            refine tkU (i := 5) (d := some 74) rfl (by kernel_rfl) (by kernel_rfl) (by kernel_rfl) rfl (fun _ _ _ h => h) (by rfl) (by assumption) ?_
            try simp only [Act.put, List.setIfInBounds_toArray, List.set_cons_zero, List.set_cons_succ]
            refine tkU (i := 6) (d := some 75) rfl (by kernel_rfl) (by kernel_rfl) (by kernel_rfl) rfl (fun _ _ _ h => h) (by rfl) (by assumption) ?_
            try simp only [Act.put, List.setIfInBounds_toArray, List.set_cons_zero, List.set_cons_succ]
            refine wpAnyH_ready (rs := [7]) (by kernel_rfl) (by simp) (AllReadyH.cons rfl (fun K hK => ?_) AllReadyH.nil)
            try simp only [List.getElem_toArray, List.getElem_cons_zero, List.getElem_cons_succ]
            go_simp
            refine hK.out _ _ ?_ (fun hHeld7 => ?_)
            · assumption
            clear hK K
            (try simp only [Act.put]); (try simp only [List.setIfInBounds_toArray]); (try simp only [List.set_cons_succ]); (try simp only [List.set_cons_zero])
            refine tkV (i := 8) (d := some 77) (v := ?_) rfl (by kernel_rfl) (by kernel_rfl) (by kernel_rfl) rfl (fun _ _ _ h => h) (by rfl) ?_ (by assumption) ?_
            rotate_left
            · (intro w hSw; (try dsimp only at hSw); (try simp only [List.getElem_toArray, List.getElem_cons_zero, List.getElem_cons_succ]); go_simp; try with_reducible rfl)
            try simp only [Act.put, List.setIfInBounds_toArray, List.set_cons_zero, List.set_cons_succ]
            refine tkV (i := 9) (d := some 13) (v := ?_) rfl (by kernel_rfl) (by kernel_rfl) (by kernel_rfl) rfl (fun _ _ _ h => h) (by rfl) ?_ (by assumption) ?_
            rotate_left
            · (intro w hSw; (try dsimp only at hSw); (try simp only [List.getElem_toArray, List.getElem_cons_zero, List.getElem_cons_succ]); go_simp; try with_reducible rfl)
            try simp only [Act.put, List.setIfInBounds_toArray, List.set_cons_zero, List.set_cons_succ]
            refine wpAnyH_done (by kernel_rfl) ?_ _
            refine NoPanic.normal ?_
            go_wp2
            go_roundw
            case rel => exact ⟨i + 1, by omega, by go_num, by rw [HTk.out], HMd, HBd⟩
            case measure => simp [intOf]; omega
        · have hiI : ¬ (i : Int) < (gl'.length : Int) := by omega
          have HAl : Hid ((gl'.take i).all (hdF tS (nmK NS 3) (ptK PS)) = gl'.all (hdF tS (nmK NS 3) (ptK PS))) := hid0 (by rw [List.take_of_length_le (by omega)])
          rw [HAl.out]
          have HMl := hid0 (fun (V : World) (h : SW wb V A e (wovE (trailE tS (nmK NS 3) (ptK PS)) e) (nmK NS 3) (ptK PS) l (some ⟨gw, ow, none⟩) gS hS w1.heap.size w2.heap.size w4.heap.size ⟨.int .i64 k1, .bool t1, .slice a1 m1 c1, .slice b1 n1 d1, .slice g1 l1 z1⟩ ⟨.int .i64 k5, .bool t5, .slice a5 m5 c5, .slice b5 n5 d5, .slice g5 l5 z5⟩ (.bool tS) (.slice gS (nmK NS 3).length eS) (.slice hS (ptK PS).length fS)) (hV : Below w8.heap.size w8 V) => match_at e _ (fun _ => True) ll' al cl A V (by have := HLf.out; have := HL8.out; omega) h.ie h.e3 ((HKl.out.below hV).up hV.size))
          unfold EV.v at HMl
          simp only [] at HMl
          obtain ⟨⟨e0, e1, e2, e3, e4⟩, _⟩ := rowE HMi.out.re
          generalize gl'.all (hdF tS (nmK NS 3) (ptK PS)) = ga' at *
          generalize mtB e ll' = me' at *
          have HNx : Hid (wantB (hdF tS (nmK NS 3) (ptK PS)) e l (j + 1) = (wj || (ga' && me'))) := HWs
          clear HAl
          cases wj with
          | true =>
            rw [Bool.true_or] at HNx
            go_wp2
            go_roundw
            case rel => exact ⟨j + 1, q + 2, hid0 (by have := HQ.out; omega), by omega, .inr (by have := HQ.out; omega), by go_num, by rw [HNx.out], HMi⟩
            case measure => simp [intOf]; omega
          | false =>
            cases ga' with
            | false =>
              rw [Bool.false_or, Bool.false_and] at HNx
              go_wp2
              go_roundw
              case rel => exact ⟨j + 1, q + 2, hid0 (by have := HQ.out; omega), by omega, .inr (by have := HQ.out; omega), by go_num, by rw [HNx.out], HMi⟩
              case measure => simp [intOf]; omega
            | true =>
              rw [Bool.false_or, Bool.true_and] at HNx
              go_wp2_with (first
                | (go_at_call 11
                   refine (HMl.out _ HMi.out HBi.out).mono ?_
                   rintro r wm ⟨rfl, hbm⟩
                   have HMm := hid0 (HMi.out.past hbm)
                   clear hbm)
                | fail)
              go_roundw
              case rel => exact ⟨j + 1, q + 2, hid0 (by have := HQ.out; omega), by omega, .inr (by have := HQ.out; omega), by go_num, by rw [HNx.out], HMm⟩
              case measure => simp [intOf]; omega
    · have hltI : ¬ (q : Int) < 256 := by omega
      have HEq := hid0 (eq_skip tS (nmK NS 3) (ptK PS) HMy.out HL4.out HWa.out.1 (by omega) (by have := HSz.out; omega) l j hj1 (by rw [← HPw.out]; have := HQ.out; omega) (by rw [← HPw.out]; exact hj2))
      rw [HEq.out] at HMf
      generalize wantB (hdF tS (nmK NS 3) (ptK PS)) e l j = wj at *
      obtain ⟨⟨e0, e1, e2, e3, e4⟩, _⟩ := rowE HMr.out.rf
      go_wp2_with (first
        | (go_at_call 11
           refine (HMf.out _ HMr.out).mono ?_
           rintro r wm ⟨rfl, hbm⟩
           have HMm := hid0 (HMr.out.past hbm)
           clear hbm)
        | fail)
      go_ret
      exact ⟨by simp, Below.later HBb.out HMm.out.bel⟩
end Go.Proofs.YtiapefdklojhdaaDoor
namespace Go.Proofs.YtiapefdklojhdaaDoor
open Go.ChangeShapes Go.WideShapes Go.ChangeAt Go.RowKit
theorem own : ownKnob Tryd.prog.godebug = none := by kernel_rfl
/-- The settled world, the listed variables holding what their initialisers lay. -/
def laidWorld (hold : World) : World := { hold with heap := ((((((((hold.heap.modify 0 fun | .cells _ t frozen => .cells #[.iface 144 (.pointer (some ⟨hold.heap.size + 0, 0, none⟩))] t frozen | o => o).modify 1 fun | .cells _ t frozen => .cells #[.iface 144 (.pointer (some ⟨hold.heap.size + 1, 0, none⟩))] t frozen | o => o).modify 2 fun | .cells _ t frozen => .cells #[.iface 144 (.pointer (some ⟨hold.heap.size + 2, 0, none⟩))] t frozen | o => o).modify 4 fun | .cells _ t frozen => .cells (Go.Pinned.utf8FirstZ.map fun n => Value.int .u8 (Int.ofNat n)).toArray t frozen | o => o).modify 5 fun | .cells _ t frozen => .cells #[.int .u8 128, .int .u8 191, .int .u8 160, .int .u8 191, .int .u8 128, .int .u8 159, .int .u8 144, .int .u8 191, .int .u8 128, .int .u8 143, .int .u8 0, .int .u8 0, .int .u8 0, .int .u8 0, .int .u8 0, .int .u8 0, .int .u8 0, .int .u8 0, .int .u8 0, .int .u8 0, .int .u8 0, .int .u8 0, .int .u8 0, .int .u8 0, .int .u8 0, .int .u8 0, .int .u8 0, .int .u8 0, .int .u8 0, .int .u8 0, .int .u8 0, .int .u8 0] t frozen | o => o).push (.cells #[.string ⟨#[97, 32, 110, 117, 109, 98, 101, 114, 32, 111, 114, 32, 97, 110, 32, 97, 114, 103, 117, 109, 101, 110, 116, 32, 105, 115, 32, 111, 117, 116, 32, 111, 102, 32, 105, 116, 115, 32, 112, 108, 97, 99, 101]⟩] 161)).push (.cells #[.string ⟨#[97, 98, 111, 118, 101, 32, 97, 32, 108, 105, 109, 105, 116]⟩] 161)).push (.cells #[.string ⟨#[110, 111, 116, 32, 116, 104, 101, 32, 111, 110, 101, 32, 102, 111, 114, 109, 32, 116, 104, 97, 116, 32, 105, 115, 32, 119, 114, 105, 116, 116, 101, 110]⟩] 161)) }
set_option maxRecDepth 100000 in
theorem door_shaped (os : Os) (args : Array Value) : ((laidWorld (World.holding Tryd.prog os ⟨#[], #[], []⟩)).forCall (fun _ _ => 0) ⟨#[], args, []⟩).Shaped Tryd.prog :=
  World.shaped_of_RefB (by kernel_rfl) (by kernel_rfl)
/-- An input that fits, at a world that is written out. -/
theorem witness_row_shaped {H : Type} {enc : TypeId × Value → H} {C : Checked} {os : Os} {f : FuncId} {fn : Func} {s : OpenSpec} {conds : List PathCond} {apart : Bool} {laid : List (String × DataW Unit)} (w0 : World) (args : Array Value) (hos : w0.os = os)
    (hsh : (w0.forCall (fun _ _ => 0) ⟨#[], args, []⟩).Shaped C.prog)
    (hok : Input.okWideB C.prog (w0.forCall (fun _ _ => 0) ⟨#[], args, []⟩) f ⟨#[], args, []⟩ = true)
    (hrow : s.preRow enc C.prog fn conds apart laid (w0.forCall (fun _ _ => 0) ⟨#[], args, []⟩).memory args) :
    ∃ (w : World) (tape : Tape) (i : Input), w.os = os ∧ (w.forCall tape i).Shaped C.prog ∧ i.vars = [] ∧ Input.okWide C.prog (w.forCall tape i) .any w.heap.size f i ∧
      s.preRow enc C.prog fn conds apart laid (w.forCall tape i).memory i.args ∧ ({} : Assume).holds C.prog (lone (Frame.enter C.prog f i.args .normal) [] (w.forCall tape i)) :=
  ⟨w0, fun _ _ => 0, ⟨#[], args, []⟩, hos, hsh, (Input.okWide_of_okWideB (base := 0) hok).1, (Input.okWide_of_okWideB hok).2, hrow, by
    simp only [Assume.holds]
    exact ⟨by simp, by simp, by simp, by simp, by simp⟩⟩
theorem laidOut : laidOutB Tryd.prog = true := by kernel_rfl
set_option maxRecDepth 10000 in
/-- The frame of a law of one parameter that answers true, writes nothing that was there, and lists no variable among its readings. -/
theorem law_contract {H : Type} {enc : TypeId × Value → H} {f : FuncId} {fn : Func} {s : ChangeSpec} {t : TypeId} (hp : fn.params = #[t]) (hrt : fn.resultTypes = #[4]) (hvars : s.vars = [])
    (hfn : ∀ (K : Type) (d : DataW K), s.fn K [d] = { results := [.lit (.bool true)], args := [d] }) (hread : Tryd.prog.readableRec t = true) (hrow : t < Tryd.prog.types.size)
    (W : World) (base : Nat) (args : Array Value) (ds gs : List (DataW H)) (before : List MemPlace)
    (hval : ∀ (j : Nat) t v, fn.params[j]? = some t → args[j]? = some v → Value.okWide Tryd.prog W .any base t v)
    (hW : DataW.Whole enc Tryd.prog fn.params.toList s.vars false W args.toList ds gs before)
    (hsz : (DataW.weightsEach Tryd.prog (fn.params.toList ++ s.plain.varTypes Tryd.prog) (ds ++ gs)).all (· ≤ reachBytes) = true)
    (walk : ∀ (v : Value) (d : DataW H) (p : List MemPlace), Value.okWide Tryd.prog W .any base t v → DataW.Trod enc Tryd.prog W 0 (fun _ => true) true t v d p → (∀ x ∈ p, x.block < W.heap.size) → (∀ x ∈ d.weights Tryd.prog t, x ≤ reachBytes) → ds = [d] → gs = [] →
      Calls Tryd.prog f #[v] W fun e W' => e = .returned (.bool true) ∧ Below W.heap.size W W') :
    Calls Tryd.prog f args W fun e W' => ∃ v, e = .returned v ∧ s.post enc Tryd.prog fn false true false false W args v W' := by
  have hW' := hW
  obtain ⟨p, q, hA0, hV, rfl, hfz, hnd⟩ := hW
  have hA : DataW.TrodAll enc Tryd.prog W 0 (fun _ => true) true fn.params.toList args.toList ds p := hA0
  rw [hp] at hA hval hsz
  obtain ⟨v0, vs0, d0, ds0, p0, q0, hargs, rfl, rfl, h0, r0⟩ := trodAll_cons hA
  obtain ⟨rfl, rfl, rfl⟩ := trodAll_nil r0
  obtain rfl : args = #[v0] := by cases args; simp_all
  rw [hvars] at hV
  obtain ⟨rfl, rfl⟩ := trodVars_none hV
  have hlt : ∀ x ∈ p0, x.block < W.heap.size := fun x hx => by have := hW'.lt x (by simpa using hx); simpa using this
  have hw : ∀ x ∈ d0.weights Tryd.prog t, x ≤ reachBytes := fun x hx => by
    have := List.all_eq_true.1 hsz x (DataW.weights_mem_each (j := 0) (by simp) (by simp) x hx)
    simpa using this
  refine (walk v0 d0 p0 (hval 0 t v0 rfl rfl) h0 hlt hw rfl rfl).mono fun e W' ⟨he, hb⟩ => ?_
  subst he
  refine ⟨_, rfl, [d0], [], _, [], p0 ++ [], [], hW', ?_, ?_, ?_, hb.frame _, fun h => by cases h⟩
  · rw [hrt, show ([d0] ++ ([] : List (DataW H))) = [d0] from rfl, hfn]
    exact trodAll_cons_mk (shut_bool Tryd.underlying4 true) trodAll_mk0
  · rw [hp, show ([d0] ++ ([] : List (DataW H))) = [d0] from rfl, hfn]
    exact trodAll_cons_mk (Below.trod laidOut hread hrow h0 hb hlt) trodAll_mk0
  · rw [hvars, show ([d0] ++ ([] : List (DataW H))) = [d0] from rfl, hfn]
    rfl
set_option maxRecDepth 10000 in
/-- The same frame for a law without parameters. -/
theorem law_contract0 {H : Type} {enc : TypeId × Value → H} {f : FuncId} {fn : Func} {s : ChangeSpec} (hp : fn.params = #[]) (hrt : fn.resultTypes = #[4]) (hvars : s.vars = [])
    (hfn : ∀ (K : Type), s.fn K [] = { results := [.lit (.bool true)], args := [] })
    (W : World) (args : Array Value) (ds gs : List (DataW H)) (before : List MemPlace)
    (hW : DataW.Whole enc Tryd.prog fn.params.toList s.vars false W args.toList ds gs before)
    (walk : Calls Tryd.prog f #[] W fun e W' => e = .returned (.bool true) ∧ Below W.heap.size W W') :
    Calls Tryd.prog f args W fun e W' => ∃ v, e = .returned v ∧ s.post enc Tryd.prog fn false true false false W args v W' := by
  have hW' := hW
  obtain ⟨p, q, hA0, hV, rfl, hfz, hnd⟩ := hW
  have hA : DataW.TrodAll enc Tryd.prog W 0 (fun _ => true) true fn.params.toList args.toList ds p := hA0
  rw [hp] at hA
  obtain ⟨hargs, rfl, rfl⟩ := trodAll_nil hA
  obtain rfl : args = #[] := by cases args; simp_all
  rw [hvars] at hV
  obtain ⟨rfl, rfl⟩ := trodVars_none hV
  refine walk.mono fun e W' ⟨he, hb⟩ => ?_
  subst he
  refine ⟨_, rfl, [], [], _, [], [], [], hW', ?_, ?_, ?_, hb.frame _, fun h => by cases h⟩
  · rw [hrt, show (([] : List (DataW H)) ++ []) = [] from rfl, hfn]
    exact trodAll_cons_mk (shut_bool Tryd.underlying4 true) trodAll_mk0
  · rw [hp, show (([] : List (DataW H)) ++ []) = [] from rfl, hfn]
    exact trodAll_mk0
  · rw [hvars, show (([] : List (DataW H)) ++ []) = [] from rfl, hfn]
    rfl
end Go.Proofs.YtiapefdklojhdaaDoor
namespace Go.Proofs.YtiapefdklojhdaaDoor
open Go.ChangeShapes Go.WideShapes Go.ChangeAt Go.RowKit Go.Joins
theorem cellsStrX : Tryd.prog.cellsOf 9 = 1 := by kernel_rfl
theorem cellsIntX : Tryd.prog.cellsOf 3 = 1 := by kernel_rfl
theorem cellsBoolX : Tryd.prog.cellsOf 4 = 1 := by kernel_rfl
theorem cellsSetX : Tryd.prog.cellsOf 25 = 3 := by kernel_rfl
theorem cellsExprX : Tryd.prog.cellsOf 28 = 5 := by kernel_rfl
theorem cellsRangeX : Tryd.prog.cellsOf 57 = 2 := by kernel_rfl
theorem cellsKindX : Tryd.prog.cellsOf 46 = 2 := by kernel_rfl
theorem cellsStrsX : Tryd.prog.cellsOf 22 = 1 := by kernel_rfl
theorem cellsRangesX : Tryd.prog.cellsOf 23 = 1 := by kernel_rfl
theorem cellsExprsX : Tryd.prog.cellsOf 26 = 1 := by kernel_rfl
theorem cellsKindsX : Tryd.prog.cellsOf 29 = 1 := by kernel_rfl
/-- A slice that is read: the cells of each of its elements. -/
theorem open_rows {H : Type} {enc : TypeId × Value → H} {W : World} {t e : TypeId} {m : Nat} {n : Nat} {c : Value} {x : DataW H × List MemPlace} (ht : Tryd.prog.underlying t = some (.slice e)) (hm : Tryd.prog.cellsOf e = m) (hm0 : 0 < m)
    (h : DataW.trod enc Tryd.prog W 0 (fun _ => true) true n t [c] = some x) :
    c = .slice none 0 0 ∨ ∃ (a : Addr) (len cap k : Nat), n = k + 1 ∧ c = .slice (some a) len cap ∧ ∀ i, i < len → ∃ (cs : List Value) (y : DataW H × List MemPlace), cs.length = m ∧ a = ⟨a.block, a.off, none⟩ ∧ (∀ j, j < m → W.cell? ⟨a.block, a.off + i * m + j, none⟩ = cs[j]?) ∧ DataW.trod enc Tryd.prog W 0 (fun _ => true) true k e cs = some y := by
  rcases DataW.trod_slice ht h with ⟨h0, _⟩ | ⟨a, len, cap, elems, rest, k, hk, hc, _, hb, hl, hmx, hlen, hel, _, _⟩
  · simp only [List.cons.injEq, and_true] at h0
    exact .inl h0
  · simp only [List.cons.injEq, and_true] at hc
    rw [hm] at hel
    have key : ∀ i, i < len → ∃ cs y, W.cells? 0 (a.add (i * m)) m = some cs ∧ DataW.trod enc Tryd.prog W 0 (fun _ => true) true k e cs = some y := fun i hi => by
      have h1 := hel i hi
      rw [List.getElem?_eq_getElem (by omega), Option.bind_eq_some_iff] at h1
      obtain ⟨cs, h2, h3⟩ := h1
      exact ⟨cs, _, h2, h3⟩
    refine .inr ⟨a, len, cap, k, hk, hc, fun i hi => ?_⟩
    obtain ⟨cs, y, h1, h2⟩ := key i hi
    obtain ⟨cs0, y0, g1, _⟩ := key 0 (by omega)
    obtain ⟨_, hl0, hc0⟩ := World.cells?_some g1
    have hsp : a.spot = none := by
      have q := hc0 0 (by omega)
      rw [Deep.add_add, List.getElem?_eq_getElem (by omega)] at q
      exact World.cell?_spot (a := a.add 0) (by simpa using q)
    obtain ⟨_, hlc, hcc⟩ := World.cells?_some h1
    obtain ⟨ab, ao, asp⟩ := a
    simp only at hsp
    subst hsp
    refine ⟨cs, y, hlc, rfl, fun j hj => ?_, h2⟩
    have q := hcc j hj
    rw [Deep.add_add, WideShapes.add_plain] at q
    rw [Nat.add_assoc]
    exact q
theorem lt_of_cellX {W : World} {b o : Nat} {u : Value} (h : W.cell? ⟨b, o, none⟩ = some u) : b < W.heap.size := World.block_lt_of_cell? W _ h
/-- Names that are read. -/
theorem open_namesX {H : Type} {enc : TypeId × Value → H} {W : World} {n : Nat} {c : Value} {x : DataW H × List MemPlace} (h : DataW.trod enc Tryd.prog W 0 (fun _ => true) true n 22 [c] = some x) :
    ∃ (a : Option Addr) (N : List ByteArray) (cap : Nat), c = .slice a N.length cap ∧ SA W a N := by
  rcases open_rows Tryd.underlying22 cellsStrX (by omega) h with rfl | ⟨a, len, cap, k, _, rfl, hx⟩
  · exact ⟨none, [], 0, rfl, ⟨fun k h => absurd h (Nat.not_lt_zero _)⟩⟩
  · obtain ⟨T, hT⟩ := Deep.choose_lt (n := len) (p := fun i s => a = ⟨a.block, a.off, none⟩ ∧ W.cell? ⟨a.block, a.off + i, none⟩ = some (.string s)) (fun i hi => by
      obtain ⟨cs, y, h1, h2, h3, h4⟩ := hx i hi
      obtain ⟨s, e, _⟩ := DataW.trod_string Tryd.underlying9 h4
      have q := h3 0 (by omega)
      rw [e] at q
      exact ⟨s, h2, by simpa using q⟩)
    have hlen : ((List.range len).map T).length = len := by simp
    refine ⟨some a, (List.range len).map T, cap, by rw [hlen], ⟨fun k hk => ?_⟩⟩
    rw [hlen] at hk
    have et : ((List.range len).map T)[k]'(by rw [hlen]; exact hk) = T k := by simp
    obtain ⟨p1, p2⟩ := hT k hk
    rw [et]
    exact ⟨a.block, a.off, by rw [← p1], lt_of_cellX p2, p2⟩
set_option maxRecDepth 100000 in
/-- Ranges that are read. -/
theorem open_rangesX {H : Type} {enc : TypeId × Value → H} {W : World} {n : Nat} {c : Value} {x : DataW H × List MemPlace} (h : DataW.trod enc Tryd.prog W 0 (fun _ => true) true n 23 [c] = some x) :
    ∃ (a : Option Addr) (P : List (Int × Int)) (cap : Nat), c = .slice a P.length cap ∧ RA W a P := by
  rcases open_rows Tryd.underlying23 cellsRangeX (by omega) h with rfl | ⟨a, len, cap, k, _, rfl, hx⟩
  · exact ⟨none, [], 0, rfl, ⟨fun k h => absurd h (Nat.not_lt_zero _)⟩⟩
  · obtain ⟨T, hT⟩ := Deep.choose_lt (n := len) (p := fun i (s : Int × Int) => a = ⟨a.block, a.off, none⟩ ∧ W.cell? ⟨a.block, a.off + i * 2, none⟩ = some (.int .i64 s.1) ∧ W.cell? ⟨a.block, a.off + i * 2 + 1, none⟩ = some (.int .i64 s.2)) (fun i hi => by
      obtain ⟨cs, y, h1, h2, h3, h4⟩ := hx i hi
      obtain ⟨xs, k2, _, _, _, hxl, hfs⟩ := DataW.trod_struct Tryd.underlying57 h4
      match cs, h1 with
      | [v0, v1], _ =>
        obtain ⟨y0, y1, rfl⟩ : ∃ y0 y1, xs = [y0, y1] := by
          match xs, hxl with
          | [y0, y1], _ => exact ⟨y0, y1, rfl⟩
        have f0 := hfs 0 _ rfl
        have f1 := hfs 1 _ rfl
        simp [cellsIntX] at f0 f1
        obtain ⟨m0, e0, _⟩ := DataW.trod_int Tryd.underlying3 f0
        obtain ⟨m1, e1, _⟩ := DataW.trod_int Tryd.underlying3 f1
        simp only [List.cons.injEq, and_true] at e0 e1
        subst e0 e1
        exact ⟨(m0, m1), h2, h3 0 (by omega), h3 1 (by omega)⟩)
    have hlen : ((List.range len).map T).length = len := by simp
    refine ⟨some a, (List.range len).map T, cap, by rw [hlen], ⟨fun k hk => ?_⟩⟩
    rw [hlen] at hk
    have et : ((List.range len).map T)[k]'(by rw [hlen]; exact hk) = T k := by simp
    obtain ⟨p1, p2, p3⟩ := hT k hk
    rw [et]
    exact ⟨a.block, a.off, by rw [← p1], p2, p3⟩
set_option maxRecDepth 100000 in
/-- Units that are read. -/
theorem open_kindsX {H : Type} {enc : TypeId × Value → H} {W : World} {n : Nat} {c : Value} {x : DataW H × List MemPlace} (h : DataW.trod enc Tryd.prog W 0 (fun _ => true) true n 29 [c] = some x) :
    ∃ (a : Option Addr) (l : List Kd) (cap : Nat), c = .slice a l.length cap ∧ KA W W.heap.size a l := by
  rcases open_rows Tryd.underlying29 cellsKindX (by omega) h with rfl | ⟨a, len, cap, k, _, rfl, hx⟩
  · exact ⟨none, [], 0, rfl, ⟨fun k h => absurd h (Nat.not_lt_zero _)⟩⟩
  · obtain ⟨T, hT⟩ := Deep.choose_lt (n := len) (p := fun i (s : Kd) => a = ⟨a.block, a.off, none⟩ ∧ W.cell? ⟨a.block, a.off + i * 2, none⟩ = some (.string s.1) ∧ W.cell? ⟨a.block, a.off + i * 2 + 1, none⟩ = some (.int .i64 s.2)) (fun i hi => by
      obtain ⟨cs, y, h1, h2, h3, h4⟩ := hx i hi
      obtain ⟨xs, k2, _, _, _, hxl, hfs⟩ := DataW.trod_struct Tryd.underlying46 h4
      match cs, h1 with
      | [v0, v1], _ =>
        obtain ⟨y0, y1, rfl⟩ : ∃ y0 y1, xs = [y0, y1] := by
          match xs, hxl with
          | [y0, y1], _ => exact ⟨y0, y1, rfl⟩
        have f0 := hfs 0 _ rfl
        have f1 := hfs 1 _ rfl
        simp [cellsStrX] at f0
        simp [cellsIntX] at f1
        obtain ⟨m0, e0, _⟩ := DataW.trod_string Tryd.underlying9 f0
        obtain ⟨m1, e1, _⟩ := DataW.trod_int Tryd.underlying3 f1
        simp only [List.cons.injEq, and_true] at e0 e1
        subst e0 e1
        exact ⟨(m0, m1), h2, h3 0 (by omega), h3 1 (by omega)⟩)
    have hlen : ((List.range len).map T).length = len := by simp
    refine ⟨some a, (List.range len).map T, cap, by rw [hlen], ⟨fun k hk => ?_⟩⟩
    rw [hlen] at hk
    have et : ((List.range len).map T)[k]'(by rw [hlen]; exact hk) = T k := by simp
    obtain ⟨p1, p2, p3⟩ := hT k hk
    rw [et]
    exact ⟨a.block, a.off, by rw [← p1], lt_of_cellX p2, p2, p3⟩
instance : Inhabited (Ex × EV) := ⟨(.mk 0 false [] [] [], ⟨.nilIface, .nilIface, .nilIface, .nilIface, .nilIface⟩)⟩
set_option maxRecDepth 100000 in
/-- An expression that is read. -/
theorem open_expr {H : Type} {enc : TypeId × Value → H} {W : World} : ∀ (n : Nat) (cs : List Value) (x : DataW H × List MemPlace), DataW.trod enc Tryd.prog W 0 (fun _ => true) true n 28 cs = some x → ∃ t : Ex × EV, cs = evC t.2 ∧ ExIn W t.1 t.2 := by
  intro n
  induction n using Nat.strongRecOn with
  | _ n ih =>
    intro cs x h
    obtain ⟨xs, k, hk, _, hlen, hxl, hfs⟩ := DataW.trod_struct Tryd.underlying28 h
    rw [cellsExprX] at hlen
    match cs, hlen with
    | [v0, v1, v2, v3, v4], _ =>
      obtain ⟨y0, y1, y2, rfl⟩ : ∃ y0 y1 y2, xs = [y0, y1, y2] := by
        match xs, hxl with
        | [y0, y1, y2], _ => exact ⟨y0, y1, y2, rfl⟩
      have f0 := hfs 0 _ rfl
      have f1 := hfs 1 _ rfl
      have f2 := hfs 2 _ rfl
      simp [cellsIntX] at f0
      simp [cellsSetX] at f1
      simp [cellsExprsX] at f2
      obtain ⟨m0, e0, _⟩ := DataW.trod_int Tryd.underlying3 f0
      simp only [List.cons.injEq, and_true] at e0
      obtain ⟨zs, k1, _, _, _, hzl, hgs⟩ := DataW.trod_struct Tryd.underlying25 f1
      obtain ⟨z0, z1, z2, rfl⟩ : ∃ z0 z1 z2, zs = [z0, z1, z2] := by
        match zs, hzl with
        | [z0, z1, z2], _ => exact ⟨z0, z1, z2, rfl⟩
      have g0 := hgs 0 _ rfl
      have g1 := hgs 1 _ rfl
      have g2 := hgs 2 _ rfl
      simp [cellsBoolX] at g0
      simp [cellsStrsX] at g1
      simp [cellsRangesX] at g2
      obtain ⟨nt, e1, _⟩ := DataW.trod_bool Tryd.underlying4 g0
      simp only [List.cons.injEq, and_true] at e1
      obtain ⟨a, N, ca, rfl, hN⟩ := open_namesX g1
      obtain ⟨b, P, cb, rfl, hP⟩ := open_rangesX g2
      subst e0 e1
      rcases open_rows Tryd.underlying26 cellsExprX (by omega) f2 with rfl | ⟨c, len, cap, k2, hk2, rfl, hx⟩
      · exact ⟨(.mk m0 nt N P [], ⟨.int .i64 m0, .bool nt, .slice a N.length ca, .slice b P.length cb, .slice none 0 0⟩), rfl, .mk m0 nt N P [] a ca b cb none 0 (fun _ => ⟨.nilIface, .nilIface, .nilIface, .nilIface, .nilIface⟩) hN hP (fun i hi => absurd hi (Nat.not_lt_zero _)) (fun i hi => absurd hi (Nat.not_lt_zero _))⟩
      · obtain ⟨T, hT⟩ := Deep.choose_lt (n := len) (p := fun i (t : Ex × EV) => c = ⟨c.block, c.off, none⟩ ∧ Five W c.block (c.off + i * 5) t.2 ∧ ExIn W t.1 t.2) (fun i hi => by
          obtain ⟨cs, y, h1, h2, h3, h4⟩ := hx i hi
          obtain ⟨t, e, ht⟩ := ih k2 (by omega) cs y h4
          rw [e] at h3
          exact ⟨t, h2, ⟨h3 0 (by omega), h3 1 (by omega), h3 2 (by omega), h3 3 (by omega), h3 4 (by omega)⟩, ht⟩)
        have hlen2 : ((List.range len).map fun i => (T i).1).length = len := by simp
        refine ⟨(.mk m0 nt N P ((List.range len).map fun i => (T i).1), ⟨.int .i64 m0, .bool nt, .slice a N.length ca, .slice b P.length cb, .slice (some c) ((List.range len).map fun i => (T i).1).length cap⟩), by rw [hlen2]; rfl, .mk m0 nt N P _ a ca b cb (some c) cap (fun i => (T i).2) hN hP (fun i hi => ?_) (fun i hi => ?_)⟩
        · rw [hlen2] at hi
          obtain ⟨p1, p2, _⟩ := hT i hi
          exact ⟨c.block, c.off, by rw [← p1], p2⟩
        · have hi' : i < len := by rw [hlen2] at hi; exact hi
          have et : ((List.range len).map fun i => (T i).1)[i]'hi = (T i).1 := by simp
          rw [et]
          exact (hT i hi').2.2
end Go.Proofs.YtiapefdklojhdaaDoor
namespace Go.Proofs.YtiapefdklojhdaaDoor
open Go.ChangeShapes Go.WideShapes Go.ChangeAt Go.RowKit Go.Joins
theorem star : ("*" ++ "errors.errorString" : String) = "*errors.errorString" := by decide
theorem errRow (u : TypeId) (h : Tryd.prog.typeName? 3 u = some "*errors.errorString") : u = 144 :=
  typeName_ptr_named (nm := "errors.errorString") (by rw [star]; kernel_rfl) (by kernel_rfl) (by decide) u (by rw [star]; exact h)
theorem cellsErr : Tryd.prog.cellsOf 161 = 1 := by kernel_rfl
theorem cellsStr : Tryd.prog.cellsOf 9 = 1 := by kernel_rfl
theorem err_of {W : World} {n : String} {g : Nat} {text : List UInt8} {r : List (String × DataW Unit)} (h : laidMet Tryd.prog ((n, .iface "*errors.errorString" (.ptr (.agg [.lit (.string text)]))) :: r) W)
    (hg : Tryd.prog.globalNamed n = some g) (ht : (Tryd.prog.globals[g]?).map (·.type) = some 36) : ∃ a : Addr, W.cell? ⟨g, 0, none⟩ = some (.iface 144 (.pointer (some a))) := by
  obtain ⟨a, s, hv, _, _, _⟩ := laid_sentinel h hg ht Tryd.underlying36 errRow Tryd.underlying144 Tryd.underlying161 rfl rfl Tryd.underlying9 cellsErr cellsStr
  exact ⟨a, by simpa using World.var?_cell hg hv 0⟩
theorem laid_tail {P : Program} {w : World} {x : String × DataW Unit} {l : List (String × DataW Unit)} (h : laidMet P (x :: l) w) : laidMet P l w := by
  obtain ⟨ps, hl, hnd, hrows⟩ := h
  obtain ⟨g0, t0, cs0, f0, p0, q0, hg0, ht0, hv0, hd0, hl', rfl⟩ := hl
  exact ⟨q0, hl', (List.nodup_append.1 hnd).2.1, fun b off hb => hrows b off (List.mem_append_right _ hb)⟩
theorem cellsPassedX : Tryd.prog.cellsOf 31 = 9 := by kernel_rfl
theorem exprSkips_any (eA : Ex) (xA : EV) (tS : Bool) (NS : List ByteArray) (PS : List (Int × Int)) (aS bS : Option Addr) (cS dS : Nat) (lw : List Kd) (aw : Option Addr) (cw : Nat) (A : Nat → Addr) (w : World) (hA : ExIn w eA xA) (hNS : SA w aS NS) (hPS : RA w bS PS) (hw : KA w w.heap.size aw lw) (hE : E3 w A) :
    Calls Tryd.prog 3 #[.agg #[xA.k, xA.t, xA.n, xA.p, xA.r, .bool tS, .slice aS NS.length cS, .slice bS PS.length dS, .slice aw lw.length cw]] w fun r w' => r = .returned (.bool true) ∧ Below w.heap.size w w' := by
  by_cases hlen : (wordK lw).length ≤ 8
  · exact skips_0 eA xA tS NS PS aS bS cS dS lw aw cw A w hA hNS hPS hw hE hlen
  · exact skips_1 eA xA tS NS PS aS bS cS dS lw aw cw A w hA hNS hPS hw hE hlen
set_option maxRecDepth 100000 in
theorem exprSkips_walk {H : Type} (enc : TypeId × Value → H) (W : World) (base : Nat) (hL : laidMetH Tryd.prog Rows.exprSkipsRow.laid W) (v : Value) (d : DataW H) (p : List MemPlace) (hv : Value.okWide Tryd.prog W .any base 31 v)
    (h0 : DataW.Trod enc Tryd.prog W 0 (fun _ => true) true 31 v d p) (_hlt : ∀ x ∈ p, x.block < W.heap.size) (_hw : ∀ x ∈ d.weights Tryd.prog 31, x ≤ reachBytes) :
    Calls Tryd.prog 3 #[v] W fun e W' => e = .returned (.bool true) ∧ Below W.heap.size W W' := by
  obtain ⟨fuel, hf⟩ := h0
  have hcs : ∃ cs, v = .agg cs := by
    simp only [Value.okWide, Tryd.underlying31] at hv
    obtain ⟨cs, h1, _⟩ := hv
    exact ⟨cs, h1⟩
  obtain ⟨cs, rfl⟩ := hcs
  obtain ⟨xs, n, _, hx, hlen, hxl, hfs⟩ := DataW.trod_struct Tryd.underlying31 hf
  rw [cellsPassedX] at hlen
  obtain ⟨l⟩ := cs
  match l, hlen with
  | [c0, c1, c2, c3, c4, c5, c6, c7, c8], _ =>
    obtain ⟨z0, z1, z2, rfl⟩ : ∃ z0 z1 z2, xs = [z0, z1, z2] := by
      match xs, hxl with
      | [z0, z1, z2], _ => exact ⟨z0, z1, z2, rfl⟩
    have g0 := hfs 0 _ rfl
    have g1 := hfs 1 _ rfl
    have g2 := hfs 2 _ rfl
    simp [Value.cells, cellsExprX] at g0
    simp [Value.cells, cellsSetX] at g1
    simp [Value.cells, cellsKindsX] at g2
    obtain ⟨⟨eA, xA⟩, q0, hA⟩ := open_expr _ _ _ g0
    obtain ⟨ys, m, _, _, _, hyl, hgs⟩ := DataW.trod_struct Tryd.underlying25 g1
    obtain ⟨y0, y1, y2, rfl⟩ : ∃ y0 y1 y2, ys = [y0, y1, y2] := by
      match ys, hyl with
      | [y0, y1, y2], _ => exact ⟨y0, y1, y2, rfl⟩
    have s0 := hgs 0 _ rfl
    have s1 := hgs 1 _ rfl
    have s2 := hgs 2 _ rfl
    simp [cellsBoolX] at s0
    simp [cellsStrsX] at s1
    simp [cellsRangesX] at s2
    obtain ⟨tS, e1, _⟩ := DataW.trod_bool Tryd.underlying4 s0
    simp only [List.cons.injEq, and_true] at e1
    obtain ⟨aS, NS, cS, rfl, hNS⟩ := open_namesX s1
    obtain ⟨bS, PS, dS, rfl, hPS⟩ := open_rangesX s2
    obtain ⟨aw, lw, cw, rfl, hw⟩ := open_kindsX g2
    subst e1
    simp only [evC, List.cons.injEq, and_true] at q0
    obtain ⟨rfl, rfl, rfl, rfl, rfl⟩ := q0
    have hL0 : laidMet Tryd.prog Rows.exprSkipsRow.laid W := hL
    have hL1 := laid_tail hL0
    have hL2 := laid_tail hL1
    have hL3 := laid_tail hL2
    obtain ⟨A1, h1⟩ := err_of hL1 (g := 0) (by kernel_rfl) (by kernel_rfl)
    obtain ⟨A0, h0⟩ := err_of hL2 (g := 1) (by kernel_rfl) (by kernel_rfl)
    obtain ⟨A2, h2⟩ := err_of hL3 (g := 2) (by kernel_rfl) (by kernel_rfl)
    exact exprSkips_any eA xA tS NS PS aS bS cS dS lw aw cw (fun i => match i with | 0 => A0 | 1 => A1 | _ => A2) W hA hNS hPS hw ⟨h0, h1, h2⟩
set_option maxRecDepth 100000 in
theorem exprSkips_lifted (os : Os) (started : os.Started) (H : Type) (enc : TypeId × Value → H) (F : Stop.Interp) :
    ReturnsInHanded {} Tryd.checked os 3 .any ((OpenSpec.ofChange Rows.exprSkipsSpec).preRow enc Tryd.prog Tryd.f3 Rows.exprSkipsRow.domain false Rows.exprSkipsRow.laid) (((OpenSpec.ofChange Rows.exprSkipsSpec).at F).post enc Tryd.prog Tryd.f3 false true false false) := by
  refine returnsInHanded_of_row (C := Tryd.checked) (s := OpenSpec.ofChange Rows.exprSkipsSpec) own started (by kernel_rfl) Tryd.func3
    (witness_row_shaped (enc := enc) (C := Tryd.checked) (World.laidAll Tryd.prog os Rows.exprSkipsRow.laid) #[.agg #[.int .i64 0, .bool false, .slice none 0 0, .slice none 0 0, .slice none 0 0, .bool false, .slice none 0 0, .slice none 0 0, .slice none 0 0]] (World.laidAll_os _ _ _) (World.shaped_of_ZipB (by kernel_rfl) (by kernel_rfl)) (by kernel_rfl)
      (OpenSpec.preRow_of_cond 8 (x := ([.agg [.agg [.lit (.int .i64 0), .agg [.lit (.bool false), .nil, .nil], .nil], .agg [.lit (.bool false), .nil, .nil], .nil]], [], [])) (by kernel_rfl) (by kernel_rfl) (fun k hk => by cases hk) (by kernel_rfl) (laidMet_laidAll _ (by kernel_rfl) (by kernel_rfl)))) ?_
  intro W base args ds gs before hval hW _ _ hsz hL _ _
  exact law_contract rfl rfl rfl (fun _ _ => rfl) (by kernel_rfl) (of_decide_eq_true (by kernel_rfl)) W base args ds gs before hval hW hsz (fun v d p hv h0 hlt hw _ _ => exprSkips_walk enc W base hL v d p hv h0 hlt hw )
theorem exprSkips_said : Rows.ExprSkipsSaid :=
  OpenClaim.holds_of_cond 3 Tryd.f3 rfl rfl rfl rfl rfl rfl rfl ⟨rfl, rfl, rfl, rfl, rfl⟩ rfl rfl rfl rfl rfl (by kernel_rfl) Tryd.func3 (by kernel_rfl)
    (of_decide_eq_true (by kernel_rfl)) (by unfold Func.isWrapper; first | (rw [if_pos (by decide +kernel)]; kernel_rfl) | (rw [if_neg (by decide +kernel)]; exact ⟨rfl, rfl⟩))
    (fun os started H enc _ F => by rw [OpenClaim.pre_eq_preRow]; exact exprSkips_lifted os started H enc F)
theorem exprSkips_plain (f : FuncId) (fn : Func) (hf : Tryd.pinned.checked.prog.funcNamed "caesura/caesuralaw8.ExprSkips" = some f) (hfn : Tryd.pinned.checked.prog.funcs[f]? = some fn) :
    true = Tryd.pinned.checked.prog.looks [] ∧ ∀ (j : Nat) t, fn.params[j]? = some t → Tryd.pinned.checked.prog.wantsStandIn t = false := by
  obtain rfl : f = 3 := Option.some.inj ((show Tryd.prog.funcNamed "caesura/caesuralaw8.ExprSkips" = some 3 by kernel_rfl).symm.trans hf) |>.symm
  obtain rfl : fn = Tryd.f3 := (Option.some.inj (Tryd.func3.symm.trans hfn)).symm
  refine ⟨by kernel_rfl, fun j t ht => ?_⟩
  rw [Tryd.params3] at ht
  obtain rfl : t = 31 := by simpa using Array.mem_of_getElem? ht
  exact (show Tryd.prog.wantsStandIn 31 = false by kernel_rfl)
theorem exprSkips_card : Rows.ExprSkipsCardSaid :=
  Claim7.holds_tied_plain_at .later [] _ _ _ _ exprSkips_said (fun _ h => by cases h) (by kernel_rfl) (fun _ h => by cases h) exprSkips_row_tie rfl ⟨rfl, rfl⟩ (by kernel_rfl) rfl exprSkips_plain (by kernel_rfl)
end Go.Proofs.YtiapefdklojhdaaDoor
