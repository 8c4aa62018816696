/-
  The walk of caesuralaw3.RangesPoints, where the second list may not be.
-/
import Derived.Test.YtnkllhihdjjmnaaDoorPtsM
namespace Go.Proofs.YtnkllhihdjjmnaaDoor
open Go.RowKit
set_option maxRecDepth 10000 in
set_option maxHeartbeats 6400000 in
theorem points_one (A0 : Addr) (a b : Option Addr) (ca cb : Nat) (la lb : List (Int × Int)) (p : Int) (w : World) (h : TwoAt w A0 a b la lb) (hma : mayL la = true) (hmb : mayL lb = false) :
    Calls Tryd.prog 5 #[.agg #[.slice a la.length ca, .slice b lb.length cb, .int .i64 p]] w fun e w' => e = .returned (.bool true) ∧ Below w.heap.size w w' := by
  have HT := hidE (h.box ca cb p 24)
  have h1 := h.la
  have h2 := h.lb
  clear h
  have M1 : Hid True := trivial
  have M2 : Hid True := trivial
  have M3 : Hid True := trivial
  have M4 : Hid True := trivial
  have M5 : Hid True := trivial
  have M6 : Hid True := trivial
  have M7 : Hid True := trivial
  have hmab : (mayL la && mayL lb) = false := by rw [hma, hmb]; rfl
  go_enter Tryd.func5, Tryd.ntmps5
  go_wp2_with (first
    | (go_at_call 8; refine (begun_any A0 _ HT.out.two.e0).mono ?_; rintro e w1 ⟨rfl, hb1⟩; have HT1 := hidE (HT.out.later hb1); have HM1 := hidE (Mem.nil w1); have c0 := HT1.out.c0; have c1 := HT1.out.c1; have c2 := HT1.out.c2; clear hb1)
    | (go_at_call 11; refine (normal_any la (by omega) _ _ A0 _ HT1.out.two.ra HT1.out.two.e0).mono ?_; intro e w2 hAns; rw [hma] at hAns; obtain ⟨aN, cN, lN, rfl, hr, hn, hp, hb⟩ := hAns.any; rw [show errVal A0 true = .nilIface from rfl]; have HPN := hidE hp; have HNN := hidE hn; have hlN := (norm_len hn (Int.le_refl 0)).1; clear hn hp; have HT2 := hidE (HT1.out.later hb); clear c0 c1 c2; have c0 := HT2.out.c0; have c1 := HT2.out.c1; have c2 := HT2.out.c2; have HM2 := hidE (HM1.out.more hb hr); clear HM1 hb hr hAns)
    | (go_at_call 14; refine (not_any la (by omega) _ _ A0 _ HT2.out.two.ra HT2.out.two.e0).mono ?_; intro e w3 hAns; rw [hma] at hAns; obtain ⟨aT, cT, lT, rfl, hr, hn, hp, hb⟩ := hAns.any; rw [show errVal A0 true = .nilIface from rfl]; have HPT := hidE hp; have HNT := hidE hn; have hlT := (norm_len hn (Int.le_refl 0)).1; clear hn hp; have HT3 := hidE (HT2.out.later hb); clear c0 c1 c2; have c0 := HT3.out.c0; have c1 := HT3.out.c1; have c2 := HT3.out.c2; have HM3 := hidE (HM2.out.more hb hr); clear HM2 hb hr hAns)
    | (go_at_call 12; refine (union_any la lb (by omega) (by omega) _ _ _ _ A0 _ HT3.out.two.ra HT3.out.two.rb HT3.out.two.e0).mono ?_; intro e w4 hAns; rw [hmab] at hAns; obtain ⟨aU, cU, lU, rfl, hr, hn, hp, hb⟩ := hAns.any; rw [show errVal A0 false = .iface 99 (.pointer (some A0)) from rfl]; have HPU := hidE hp; have HNU := hidE hn; have hlU := (norm_len hn (Int.le_refl 0)).1; clear hn hp; have HT4 := hidE (HT3.out.later hb); clear c0 c1 c2; have c0 := HT4.out.c0; have c1 := HT4.out.c1; have c2 := HT4.out.c2; have HM4 := hidE (HM3.out.more hb hr); clear HM3 hb hr hAns)
    | (go_at_call 13; refine (inter_any la lb (by omega) (by omega) _ _ _ _ A0 _ HT4.out.two.ra HT4.out.two.rb HT4.out.two.e0).mono ?_; intro e w5 hAns; rw [hmab] at hAns; obtain ⟨aI, cI, lI, rfl, hr, hn, hp, hb⟩ := hAns.any; rw [show errVal A0 false = .iface 99 (.pointer (some A0)) from rfl]; have HPI := hidE hp; have HNI := hidE hn; have hlI := (norm_len hn (Int.le_refl 0)).1; clear hn hp; have HT5 := hidE (HT4.out.later hb); clear c0 c1 c2; have c0 := HT5.out.c0; have c1 := HT5.out.c1; have c2 := HT5.out.c2; have HM5 := hidE (HM4.out.more hb hr); clear HM4 hb hr hAns)
    | (go_at_call 15; refine (minus_any la lb (by omega) (by omega) _ _ _ _ A0 _ HT5.out.two.ra HT5.out.two.rb HT5.out.two.e0).mono ?_; intro e w6 hAns; rw [hmab] at hAns; obtain ⟨aS, cS, lS, rfl, hr, hn, hp, hb⟩ := hAns.any; rw [show errVal A0 false = .iface 99 (.pointer (some A0)) from rfl]; have HPS := hidE hp; have HNS := hidE hn; have hlS := (norm_len hn (Int.le_refl 0)).1; clear hn hp; have HT6 := hidE (HT5.out.later hb); clear c0 c1 c2; have c0 := HT6.out.c0; have c1 := HT6.out.c1; have c2 := HT6.out.c2; have HM6 := hidE (HM5.out.more hb hr); clear HM5 hb hr hAns)
    | (go_at_call 10; clear M1; refine (may_b la a ca (by omega) _ HT6.out.two.ra _ hma).mono ?_; rintro e w7 ⟨rfl, hb⟩; have HT7 := hidE (HT6.out.later hb); clear c0 c1 c2; have c0 := HT7.out.c0; have c1 := HT7.out.c1; have c2 := HT7.out.c2; have HM7 := hidE (HM6.out.later hb); clear hb HM6)
    | (go_at_call 10; refine (may_b lb b cb (by omega) _ HT7.out.two.rb _ hmb).mono ?_; rintro e w8 ⟨rfl, hb⟩; have HT8 := hidE (HT7.out.later hb); clear c0 c1 c2; have c0 := HT8.out.c0; have c1 := HT8.out.c1; have c2 := HT8.out.c2; have HM8 := hidE (HM7.out.later hb); clear hb HM7)
    | (go_at_call 17; clear M2; refine (normal_b lN _ _ HNN.out _ (HM8.out _ (.tail _ (.tail _ (.tail _ (.tail _ (.head _))))))).mono ?_; rintro e w9 ⟨rfl, hb⟩; have HT9 := hidE (HT8.out.later hb); clear c0 c1 c2; have c0 := HT9.out.c0; have c1 := HT9.out.c1; have c2 := HT9.out.c2; have HM9 := hidE (HM8.out.later hb); clear hb HM8)
    | (go_at_call 17; clear M3; refine (normal_b lT _ _ HNT.out _ (HM9.out _ (.tail _ (.tail _ (.tail _ (.head _)))))).mono ?_; rintro e w10 ⟨rfl, hb⟩; have HT10 := hidE (HT9.out.later hb); clear c0 c1 c2; have c0 := HT10.out.c0; have c1 := HT10.out.c1; have c2 := HT10.out.c2; have HM10 := hidE (HM9.out.later hb); clear hb HM9)
    | (go_at_call 17; clear M4; refine (normal_b lU _ _ HNU.out _ (HM10.out _ (.tail _ (.tail _ (.head _))))).mono ?_; rintro e w11 ⟨rfl, hb⟩; have HT11 := hidE (HT10.out.later hb); clear c0 c1 c2; have c0 := HT11.out.c0; have c1 := HT11.out.c1; have c2 := HT11.out.c2; have HM11 := hidE (HM10.out.later hb); clear hb HM10)
    | (go_at_call 17; clear M5; refine (normal_b lI _ _ HNI.out _ (HM11.out _ (.tail _ (.head _)))).mono ?_; rintro e w12 ⟨rfl, hb⟩; have HT12 := hidE (HT11.out.later hb); clear c0 c1 c2; have c0 := HT12.out.c0; have c1 := HT12.out.c1; have c2 := HT12.out.c2; have HM12 := hidE (HM11.out.later hb); clear hb HM11)
    | (go_at_call 17; clear M6; refine (normal_b lS _ _ HNS.out _ (HM12.out _ (.head _))).mono ?_; rintro e w13 ⟨rfl, hb⟩; have HT13 := hidE (HT12.out.later hb); clear c0 c1 c2; have c0 := HT13.out.c0; have c1 := HT13.out.c1; have c2 := HT13.out.c2; have HM13 := hidE (HM12.out.later hb); clear hb HM12)
    | (go_at_call 18; refine (edgesLaw_any A0 a b ca cb la lb p _ HT13.out.two).mono ?_; rintro e w14 ⟨v, ps, rfl, hov, hpl, hb⟩; obtain ⟨aP, cP, rfl, hpa⟩ := OwnI.pa hov; have HPA := hidE hpa; have HT14 := hidE (HT13.out.later hb); clear c0 c1 c2; have c0 := HT14.out.c0; have c1 := HT14.out.c1; have c2 := HT14.out.c2; have HM14 := hidE (HM13.out.later hb); clear hb hov hpa HM13)
    | fail)
  have HTK := hidE HT14.out
  have HMK := hidE HM14.out
  clear c0 c1 c2
  go_loopw [16] (fun i wr => ∃ k : Nat, k ≤ ps.length ∧ i = .int .i64 (k : Int) ∧ Below w14.heap.size w14 wr) (fun i _ => ps.length - (intOf i).toNat)
  case atStart => exact ⟨0, Nat.zero_le _, rfl, Below.refl _ _⟩
  case round =>
    obtain ⟨k, hk, rfl, hB⟩ := hrel
    have HW := hidE (HTK.out.later hB)
    have HMW := hidE (HMK.out.later hB)
    have c0 := HW.out.c0
    have c1 := HW.out.c1
    by_cases hlt : k < ps.length
    · obtain ⟨b1, o1, rfl, d0⟩ := (HPA.out.later hB).at' k hlt
      generalize ps[k] = n at d0
      obtain ⟨x1, hx1⟩ : ∃ x, pts la n = x := ⟨_, rfl⟩
      obtain ⟨x2, hx2⟩ : ∃ x, pts lb n = x := ⟨_, rfl⟩
      obtain ⟨xi, hxi⟩ : ∃ x, inAll n = x := ⟨_, rfl⟩
      have hN : pts lN n = x1 := by rw [HPN.out (by simp) n, hx1]
      have hT : pts lT n = (xi && !x1) := by rw [HPT.out (by simp) n, hx1, hxi]
      have HA1 := hidE (fun q => in_any la a ca n (by omega) (wr.drewN q) (HW.out.two.ra.later (drewN_below _ q)))
      have HA2 := hidE (fun q => in_any lb b cb n (by omega) (wr.drewN q) (HW.out.two.rb.later (drewN_below _ q)))
      rw [hx1] at HA1
      rw [hx2] at HA2
      have hxn : xi = true ∧ 0 ≤ n ∧ n ≤ 1114111 ∨ xi = false ∧ n < 0 ∨ xi = false ∧ 0 ≤ n ∧ 1114111 < n := by { rw [← hxi]; simp only [inAll, Bool.and_eq_true, Bool.and_eq_false_iff, decide_eq_true_eq, decide_eq_false_iff_not]; omega }
      have HK := hidE (And.intro HTK.out HMK.out)
      have L1 : Hid True := trivial
      have L2 : Hid True := trivial
      have L3 : Hid True := trivial
      have L4 : Hid True := trivial
      have L5 : Hid True := trivial
      have L6 : Hid True := trivial
      clear hxi HTK HMK HPN HPT HPU HPI HPS
      rcases hxn with ⟨rfl, hn0, hn1⟩ | ⟨rfl, hn0⟩ | ⟨rfl, hn0, hn1⟩ <;> cases x1 <;> cases x2
      all_goals
        simp at hT
        go_wp2
        go_big_quiet (first | (go_at_call 19; with_reducible exact Calls.quiet_of (HA1.out _)) | (go_at_call 19; with_reducible exact Calls.quiet_of (HA2.out _)))
        have HW1 := hidE (HW.out.later (drewN_below wr nq))
        have HM1 := hidE (HMW.out.later (drewN_below wr nq))
        have HB1 := hidE (chain (drewN_below wr nq) hB)
        have c0 := HW1.out.c0
        clear HA1 HA2
        go_wp2_with (first
          | (go_at_call 20; clear L1; have hq := has_any la (by omega) a ca n _ HW1.out.two.ra; rw [hx1] at hq; refine hq.mono ?_; rintro e wh2 ⟨rfl, hb⟩; have HW2 := hidE (HW1.out.later hb); have HM2 := hidE (HM1.out.later hb); have HB2 := hidE (chain hb HB1.out); clear hb hq)
          | (go_at_call 19; clear L2; refine (in_b lN _ _ n (by omega) _ (HM2.out _ (.tail _ (.tail _ (.tail _ (.tail _ (.head _)))))) _ hN).mono ?_; rintro e wh3 ⟨rfl, hb⟩; have HW3 := hidE (HW2.out.later hb); have HM3 := hidE (HM2.out.later hb); have HB3 := hidE (chain hb HB2.out); clear hb)
          | (go_at_call 19; clear L3; refine (in_b lT _ _ n (by omega) _ (HM3.out _ (.tail _ (.tail _ (.tail _ (.head _))))) _ hT).mono ?_; rintro e wh4 ⟨rfl, hb⟩; have HW4 := hidE (HW3.out.later hb); have HM4 := hidE (HM3.out.later hb); have HB4 := hidE (chain hb HB3.out); clear hb)
          | fail)
        go_roundw
        case rel => exact ⟨k + 1, by omega, by go_num, HB4.out⟩
        case measure => simp [intOf]; omega
    · have hki : ¬ (k : Int) < (ps.length : Int) := by omega
      go_wp2
      go_ret
      exact ⟨rfl, HW.out.bel⟩
end Go.Proofs.YtnkllhihdjjmnaaDoor
