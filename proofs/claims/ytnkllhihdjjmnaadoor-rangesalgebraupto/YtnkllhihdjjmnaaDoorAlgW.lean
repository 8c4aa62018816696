/-
  The walk of caesuralaw3.RangesAlgebra.
-/
import Derived.Test.YtnkllhihdjjmnaaDoorAlgM
import Derived.Test.YtnkllhihdjjmnaaDoorEdgeLW
namespace Go.Proofs.YtnkllhihdjjmnaaDoor
open Go.RowKit
set_option maxRecDepth 10000 in
set_option maxHeartbeats 1600000 in
theorem algebra_walk (A0 : Addr) (a b : Option Addr) (ca cb : Nat) (la lb : List (Int × Int)) (p : Int) (w : World) (h : TwoAt w A0 a b la lb) :
    Calls Tryd.prog 4 #[.agg #[.slice a la.length ca, .slice b lb.length cb, .int .i64 p]] w fun e w' => e = .returned (.bool true) ∧ Below w.heap.size w w' := by
  have HT := hidE (h.box ca cb p 24)
  have h1 := h.la
  have h2 := h.lb
  obtain ⟨i0, hi, hz0, hz1, hz2⟩ := info_parts infoRange
  clear h
  have M1 : Hid True := trivial
  have M2 : Hid True := trivial
  have M3 : Hid True := trivial
  have M4 : Hid True := trivial
  have M5 : Hid True := trivial
  have M6 : Hid True := trivial
  have M7 : Hid True := trivial
  have M8 : Hid True := trivial
  have M9 : Hid True := trivial
  have M10 : Hid True := trivial
  have M11 : Hid True := trivial
  have M12 : Hid True := trivial
  have M13 : Hid True := trivial
  have M14 : Hid True := trivial
  have M15 : Hid True := trivial
  have M16 : Hid True := trivial
  have M17 : Hid True := trivial
  have M18 : Hid True := trivial
  have M19 : Hid True := trivial
  have M20 : Hid True := trivial
  have M21 : Hid True := trivial
  have M22 : Hid True := trivial
  have M23 : Hid True := trivial
  cases hma : mayL la with
  | false =>
    go_enter Tryd.func4, Tryd.ntmps4
    go_wp2_with (first
      | (go_at_call 8; refine (begun_any A0 _ HT.out.two.e0).mono ?_; rintro e w1 ⟨rfl, hb1⟩; have HT1 := hidE (HT.out.later hb1); have HM1 := hidE (Mem.nil w1); have c0 := HT1.out.c0; have c1 := HT1.out.c1; clear hb1)
      | (go_at_call 11; clear M1; refine (normal_any la (by omega) _ _ A0 _ HT1.out.two.ra HT1.out.two.e0).mono ?_; intro e w2 hAns; obtain ⟨v2, l2, rfl, _, _, _, _, hb⟩ := hAns; have HT2 := hidE (HT1.out.later hb); clear c0 c1; have c0 := HT2.out.c0; have c1 := HT2.out.c1; clear hb)
      | (go_at_call 11; refine (normal_any lb (by omega) _ _ A0 _ HT2.out.two.rb HT2.out.two.e0).mono ?_; intro e w3 hAns; obtain ⟨v3, l3, rfl, _, _, _, _, hb⟩ := hAns; have HT3 := hidE (HT2.out.later hb); clear c0 c1; have c0 := HT3.out.c0; have c1 := HT3.out.c1; clear hb)
      | (go_at_call 10; refine (may_b la a ca (by omega) _ HT3.out.two.ra _ hma).mono ?_; rintro e w4 ⟨rfl, hb⟩; have HT4 := hidE (HT3.out.later hb); clear c0 c1; have c0 := HT4.out.c0; have c1 := HT4.out.c1; clear hb)
      | fail)
    go_ret
    exact ⟨rfl, HT4.out.bel⟩

  | true =>
    cases hmb : mayL lb with
    | false =>
      go_enter Tryd.func4, Tryd.ntmps4
      go_wp2_with (first
        | (go_at_call 8; refine (begun_any A0 _ HT.out.two.e0).mono ?_; rintro e w1 ⟨rfl, hb1⟩; have HT1 := hidE (HT.out.later hb1); have HM1 := hidE (Mem.nil w1); have c0 := HT1.out.c0; have c1 := HT1.out.c1; clear hb1)
        | (go_at_call 11; clear M1; refine (normal_any la (by omega) _ _ A0 _ HT1.out.two.ra HT1.out.two.e0).mono ?_; intro e w2 hAns; obtain ⟨v2, l2, rfl, _, _, _, _, hb⟩ := hAns; have HT2 := hidE (HT1.out.later hb); clear c0 c1; have c0 := HT2.out.c0; have c1 := HT2.out.c1; clear hb)
        | (go_at_call 11; refine (normal_any lb (by omega) _ _ A0 _ HT2.out.two.rb HT2.out.two.e0).mono ?_; intro e w3 hAns; obtain ⟨v3, l3, rfl, _, _, _, _, hb⟩ := hAns; have HT3 := hidE (HT2.out.later hb); clear c0 c1; have c0 := HT3.out.c0; have c1 := HT3.out.c1; clear hb)
        | (go_at_call 10; clear M2; refine (may_b la a ca (by omega) _ HT3.out.two.ra _ hma).mono ?_; rintro e w4 ⟨rfl, hb⟩; have HT4 := hidE (HT3.out.later hb); clear c0 c1; have c0 := HT4.out.c0; have c1 := HT4.out.c1; clear hb)
        | (go_at_call 10; refine (may_b lb b cb (by omega) _ HT4.out.two.rb _ hmb).mono ?_; rintro e w5 ⟨rfl, hb⟩; have HT5 := hidE (HT4.out.later hb); clear c0 c1; have c0 := HT5.out.c0; have c1 := HT5.out.c1; clear hb)
        | fail)
      go_ret
      exact ⟨rfl, HT5.out.bel⟩

    | true =>
      go_enter Tryd.func4, Tryd.ntmps4
      go_wp2_with (first
        | (go_at_call 8; refine (begun_any A0 _ HT.out.two.e0).mono ?_; rintro e w1 ⟨rfl, hb1⟩; have HT1 := hidE (HT.out.later hb1); have HM1 := hidE (Mem.nil w1); have c0 := HT1.out.c0; have c1 := HT1.out.c1; clear hb1)
        | (go_at_call 11; clear M1; refine (normal_any la (by omega) _ _ A0 _ HT1.out.two.ra HT1.out.two.e0).mono ?_; intro e w2 hAns; rw [hma] at hAns; obtain ⟨aN, cN, lN, rfl, hr, hn, hp, hb⟩ := hAns.list; have HPN := hidE hp; have HNN := hidE hn; have hlN := (norm_len hn (Int.le_refl 0)).1; have HmN := hidE (norm_may (Int.le_refl 0) hn); clear hn hp; have HT2 := hidE (HT1.out.later hb); have HM2 := hidE (HM1.out.more hb hr); clear HM1 c0 c1; have c0 := HT2.out.c0; have c1 := HT2.out.c1; clear hb hr hAns)
        | (go_at_call 11; clear M2; refine (normal_any lb (by omega) _ _ A0 _ HT2.out.two.rb HT2.out.two.e0).mono ?_; intro e w3 hAns; rw [hmb] at hAns; obtain ⟨aB2, cB2, lB2, rfl, hr, hn, hp, hb⟩ := hAns.list; have HPB2 := hidE hp; have HNB2 := hidE hn; have hlB2 := (norm_len hn (Int.le_refl 0)).1; have HmB2 := hidE (norm_may (Int.le_refl 0) hn); clear hn hp; have HT3 := hidE (HT2.out.later hb); have HM3 := hidE (HM2.out.more hb hr); clear HM2 c0 c1; have c0 := HT3.out.c0; have c1 := HT3.out.c1; clear hb hr hAns)
        | (go_at_call 10; clear M3; refine (may_b la a ca (by omega) _ HT3.out.two.ra _ hma).mono ?_; rintro e w4 ⟨rfl, hb⟩; have HT4 := hidE (HT3.out.later hb); clear c0 c1; have c0 := HT4.out.c0; have c1 := HT4.out.c1; have HM4 := hidE (HM3.out.later hb); clear hb HM3)
        | (go_at_call 10; clear M4; refine (may_b lb b cb (by omega) _ HT4.out.two.rb _ hmb).mono ?_; rintro e w5 ⟨rfl, hb⟩; have HT5 := hidE (HT4.out.later hb); clear c0 c1; have c0 := HT5.out.c0; have c1 := HT5.out.c1; have HM5 := hidE (HM4.out.later hb); clear hb HM4)
        | (go_at_call 11; clear M5; refine (normal_any lN (by omega) _ _ A0 _ (HM5.out _ (.tail _ (.head _))) HT5.out.two.e0).mono ?_; intro e w6 hAns; rw [HmN.out] at hAns; obtain ⟨aagain, cagain, rfl, _, hr, hb⟩ := hAns.known rfl lN HNN.out (fun _ => rfl); have HT6 := hidE (HT5.out.later hb); have HM6 := hidE (HM5.out.more hb hr); clear HM5 c0 c1; have c0 := HT6.out.c0; have c1 := HT6.out.c1; clear hb hr hAns)
        | (go_at_call 14; clear M6; refine (not_any la (by omega) _ _ A0 _ HT6.out.two.ra HT6.out.two.e0).mono ?_; intro e w7 hAns; rw [hma] at hAns; obtain ⟨aT, cT, lT, rfl, hr, hn, hp, hb⟩ := hAns.list; have HPT := hidE hp; have HNT := hidE hn; have hlT := (norm_len hn (Int.le_refl 0)).1; have HmT := hidE (norm_may (Int.le_refl 0) hn); clear hn hp; have HT7 := hidE (HT6.out.later hb); have HM7 := hidE (HM6.out.more hb hr); clear HM6 c0 c1; have c0 := HT7.out.c0; have c1 := HT7.out.c1; clear hb hr hAns)
        | (go_at_call 14; clear M7; refine (not_any lT (by omega) _ _ A0 _ (HM7.out _ (.head _)) HT7.out.two.e0).mono ?_; intro e w8 hAns; rw [HmT.out] at hAns; obtain ⟨aback, cback, rfl, _, hr, hb⟩ := hAns.known rfl lN HNN.out (fun p => by rw [HPN.out, HPT.out]; exact b_back _ _ (in_all hma p)); have HT8 := hidE (HT7.out.later hb); have HM8 := hidE (HM7.out.more hb hr); clear HM7 c0 c1; have c0 := HT8.out.c0; have c1 := HT8.out.c1; clear hb hr hAns)
        | (go_at_call 14; clear M8; refine (not_any lb (by omega) _ _ A0 _ HT8.out.two.rb HT8.out.two.e0).mono ?_; intro e w9 hAns; rw [hmb] at hAns; obtain ⟨aO, cO, lO, rfl, hr, hn, hp, hb⟩ := hAns.list; have HPO := hidE hp; have HNO := hidE hn; have hlO := (norm_len hn (Int.le_refl 0)).1; have HmO := hidE (norm_may (Int.le_refl 0) hn); clear hn hp; have HT9 := hidE (HT8.out.later hb); have HM9 := hidE (HM8.out.more hb hr); clear HM8 c0 c1; have c0 := HT9.out.c0; have c1 := HT9.out.c1; clear hb hr hAns)
        | (go_at_call 13; clear M9; refine (inter_any la lb (by omega) (by omega) _ _ _ _ A0 _ HT9.out.two.ra HT9.out.two.rb HT9.out.two.e0).mono ?_; intro e w10 hAns; rw [hma, hmb, Bool.and_true] at hAns; obtain ⟨aI, cI, lI, rfl, hr, hn, hp, hb⟩ := hAns.list; have HPI := hidE hp; have HNI := hidE hn; have hlI := (norm_len hn (Int.le_refl 0)).1; have HmI := hidE (norm_may (Int.le_refl 0) hn); clear hn hp; have HT10 := hidE (HT9.out.later hb); have HM10 := hidE (HM9.out.more hb hr); clear HM9 c0 c1; have c0 := HT10.out.c0; have c1 := HT10.out.c1; clear hb hr hAns)
        | (go_at_call 15; clear M10; refine (minus_any la lb (by omega) (by omega) _ _ _ _ A0 _ HT10.out.two.ra HT10.out.two.rb HT10.out.two.e0).mono ?_; intro e w11 hAns; rw [hma, hmb, Bool.and_true] at hAns; obtain ⟨aS, cS, lS, rfl, hr, hn, hp, hb⟩ := hAns.list; have HPS := hidE hp; have HNS := hidE hn; have hlS := (norm_len hn (Int.le_refl 0)).1; have HmS := hidE (norm_may (Int.le_refl 0) hn); clear hn hp; have HT11 := hidE (HT10.out.later hb); have HM11 := hidE (HM10.out.more hb hr); clear HM10 c0 c1; have c0 := HT11.out.c0; have c1 := HT11.out.c1; clear hb hr hAns)
        | (go_at_call 12; clear M11; refine (union_any lT lO (by omega) (by omega) _ _ _ _ A0 _ (HM11.out _ (.tail _ (.tail _ (.tail _ (.tail _ (.head _)))))) (HM11.out _ (.tail _ (.tail _ (.head _)))) HT11.out.two.e0).mono ?_; intro e w12 hAns; rw [HmT.out, HmO.out, Bool.and_true] at hAns; obtain ⟨aJ, cJ, lJ, rfl, hr, hn, hp, hb⟩ := hAns.list; have HPJ := hidE hp; have HNJ := hidE hn; have hlJ := (norm_len hn (Int.le_refl 0)).1; have HmJ := hidE (norm_may (Int.le_refl 0) hn); clear hn hp; have HT12 := hidE (HT11.out.later hb); have HM12 := hidE (HM11.out.more hb hr); clear HM11 c0 c1; have c0 := HT12.out.c0; have c1 := HT12.out.c1; clear hb hr hAns)
        | (go_at_call 14; clear M12; refine (not_any lJ (by omega) _ _ A0 _ (HM12.out _ (.head _)) HT12.out.two.e0).mono ?_; intro e w13 hAns; rw [HmJ.out] at hAns; obtain ⟨amorgan, cmorgan, rfl, _, hr, hb⟩ := hAns.known rfl lI HNI.out (fun p => by rw [HPI.out, HPJ.out, HPT.out, HPO.out]; exact b_morgan _ _ _ (in_all hma p)); have HT13 := hidE (HT12.out.later hb); have HM13 := hidE (HM12.out.more hb hr); clear HM12 c0 c1; have c0 := HT13.out.c0; have c1 := HT13.out.c1; clear hb hr hAns)
        | (go_at_call 13; clear M13; refine (inter_any la lO (by omega) (by omega) _ _ _ _ A0 _ HT13.out.two.ra (HM13.out _ (.tail _ (.tail _ (.tail _ (.tail _ (.head _)))))) HT13.out.two.e0).mono ?_; intro e w14 hAns; rw [hma, HmO.out, Bool.and_true] at hAns; obtain ⟨aless, cless, rfl, _, hr, hb⟩ := hAns.known rfl lS HNS.out (fun p => by rw [HPS.out, HPO.out]; exact b_less _ _ _ (in_all hma p)); have HT14 := hidE (HT13.out.later hb); have HM14 := hidE (HM13.out.more hb hr); clear HM13 c0 c1; have c0 := HT14.out.c0; have c1 := HT14.out.c1; clear hb hr hAns)
        | (go_at_call 12; clear M14; refine (union_any lS lI (by omega) (by omega) _ _ _ _ A0 _ (HM14.out _ (.tail _ (.tail _ (.tail _ (.head _))))) (HM14.out _ (.tail _ (.tail _ (.tail _ (.tail _ (.head _)))))) HT14.out.two.e0).mono ?_; intro e w15 hAns; rw [HmS.out, HmI.out, Bool.and_true] at hAns; obtain ⟨awhole, cwhole, rfl, _, hr, hb⟩ := hAns.known rfl lN HNN.out (fun p => by rw [HPN.out, HPS.out, HPI.out]; exact b_whole _ _); have HT15 := hidE (HT14.out.later hb); have HM15 := hidE (HM14.out.more hb hr); clear HM14 c0 c1; have c0 := HT15.out.c0; have c1 := HT15.out.c1; clear hb hr hAns)
        | fail)
      have HTS := hidE (turned_step la)
      have HTL := hidE (fun j => turned_len (la.drop j))
      clear c0 c1
      have HTK := hidE HT15.out
      go_loopw [27, 28] (fun v i wr => ∃ j : Nat, j ≤ la.length ∧ i = .int .i64 ((j : Int) - 1) ∧ OwnR wr w15.heap.size v (turnedL (la.drop j)) ∧ Below w15.heap.size w15 wr) (fun _ i _ => (intOf i + 1).toNat)
      case atStart => exact ⟨la.length, Nat.le_refl _, rfl, by rw [List.drop_length]; exact OwnR.nil _ _, Below.refl _ _⟩
      case round =>
        obtain ⟨j, hj, rfl, hown, hB⟩ := hrel
        have HO := hidE hown
        clear hown
        have HW := hidE (HTK.out.later hB)
        have c0 := HW.out.c0
        have hs := hB.size
        cases j with
        | succ j =>
          obtain ⟨b1, o1, rfl, d0, d1⟩ := HW.out.two.ra.at' j (by omega)
          have HE := hidE (HTS.out j (by omega))
          have hln := HTL.out (j + 1)
          have hO2 : wr.ownsRow w15.heap.size 35 2 u27 (turnedL (la.drop (j + 1))).length (cellsR (turnedL (la.drop (j + 1)))) := HO.out
          rw [List.length_drop] at hln
          have hn2 : (turnedL (la.drop (j + 1))).length + 2 ≤ 100000002 := by omega
          generalize hn : (turnedL (la.drop (j + 1))).length = n at hO2 hn2
          have HNN := hidE hn
          have HOO := hidE hO2
          generalize la[j] = r at *
          obtain ⟨lo, hi'⟩ := r
          simp only at d0 d1
          clear hn hO2 hln HTL HTS
          go_wp2_with (at_builtin; refine wpList_append_own _ rfl _ _ 22 rfl w15.heap.size 35 i0 (.agg #[.int .i64 0, .int .i64 0]) 2 16 Tryd.underlying22 hi hz0 hz1 hz2 rfl (by decide) _ _ _ rfl ((HOO.out.alloc _).alloc _) ⟨wr.heap.size + 1, 0, none⟩ 2 2 [.int .i64 lo, .int .i64 lo, .int .i64 lo, .int .i64 hi'] rfl rfl (cells4_new _ (by simp) _ _ _ _ _) (by simp [Value.oneCell']) (by unfold maxLen; omega) (by omega) (by simp; omega) ?_; intro v' w1' hown' hgrow _; have R := ownR_snoc2 (w := w15) (r := (lo, lo)) (s := (lo, hi')) HNN.out.symm (World.ownsRow.alloc HO.out _) (by simpa using hown') hgrow HE.out (hB.alloc hs _) (Nat.le_refl _); have HR := hidE R; clear hown' hgrow R)
          go_roundw
          case rel => exact ⟨j, by omega, by go_num, HR.out.1, HR.out.2⟩
          case measure => simp [intOf]
        | zero =>
          rw [List.drop_zero] at HO
          obtain ⟨aX, cX, rfl, hrX⟩ := HO.out.ra
          have hlX := turned_len la
          have HlX := hidE hlX
          have hlX2 : (turnedL la).length ≤ 50000000 := by omega
          clear hlX
          have HXP := hidE (turned_pts hma)
          have HmX := hidE (turned_may hma)
          generalize turnedL la = lX at *
          clear HTL HTS HO HlX
          have HT16 := HW
          have HM16 := hidE (HM15.out.more hB hrX)
          have c1 := HW.out.c1
          clear hrX
          go_wp2_with (first
            | (go_at_call 11; clear M15; refine (normal_any lX (by omega) _ _ A0 _ (HM16.out _ (.head _)) HT16.out.two.e0).mono ?_; intro e w17 hAns; rw [HmX.out] at hAns; obtain ⟨acut, ccut, rfl, _, hr, hb⟩ := hAns.known rfl lN HNN.out (fun p => by rw [HPN.out]; exact (HXP.out p).symm); have HT17 := hidE (HT16.out.later hb); have HM17 := hidE (HM16.out.more hb hr); clear HM16 c0 c1; have c0 := HT17.out.c0; have c1 := HT17.out.c1; clear hb hr hAns)
            | (go_at_call 13; clear M16; refine (inter_any lB2 lN (by omega) (by omega) _ _ _ _ A0 _ (HM17.out _ (.tail _ (.tail _ (.tail _ (.tail _ (.tail _ (.tail _ (.tail _ (.tail _ (.tail _ (.tail _ (.tail _ (.tail _ (.head _)))))))))))))) (HM17.out _ (.tail _ (.tail _ (.tail _ (.tail _ (.tail _ (.tail _ (.tail _ (.tail _ (.tail _ (.tail _ (.tail _ (.tail _ (.tail _ (.head _))))))))))))))) HT17.out.two.e0).mono ?_; intro e w18 hAns; rw [HmB2.out, HmN.out, Bool.and_true] at hAns; obtain ⟨aswapped, cswapped, rfl, _, hr, hb⟩ := hAns.known rfl lI HNI.out (fun p => by rw [HPI.out, HPB2.out, HPN.out]; exact b_swap _ _); have HT18 := hidE (HT17.out.later hb); have HM18 := hidE (HM17.out.more hb hr); clear HM17 c0 c1; have c0 := HT18.out.c0; have c1 := HT18.out.c1; clear hb hr hAns)
            | (go_at_call 16; clear M17; refine (sameR_b lN _ _ _ _ _ (by omega) (HM18.out _ (.tail _ (.tail _ (.tail _ (.tail _ (.tail _ (.tail _ (.tail _ (.tail _ (.tail _ (.tail _ (.tail _ (.tail _ (.head _)))))))))))))) (HM18.out _ (.tail _ (.tail _ (.tail _ (.tail _ (.tail _ (.tail _ (.tail _ (.tail _ (.tail _ (.tail _ (.tail _ (.tail _ (.tail _ (.tail _ (.head _))))))))))))))))).mono ?_; rintro e w19 ⟨rfl, hb⟩; have HT19 := hidE (HT18.out.later hb); have HM19 := hidE (HM18.out.later hb); clear HM18 hb)
            | (go_at_call 16; clear M18; refine (sameR_b lN _ _ _ _ _ (by omega) (HM19.out _ (.tail _ (.tail _ (.tail _ (.tail _ (.tail _ (.tail _ (.tail _ (.tail _ (.tail _ (.tail _ (.head _)))))))))))) (HM19.out _ (.tail _ (.tail _ (.tail _ (.tail _ (.tail _ (.tail _ (.tail _ (.tail _ (.tail _ (.tail _ (.tail _ (.tail _ (.tail _ (.tail _ (.head _))))))))))))))))).mono ?_; rintro e w20 ⟨rfl, hb⟩; have HT20 := hidE (HT19.out.later hb); have HM20 := hidE (HM19.out.later hb); clear HM19 hb)
            | (go_at_call 16; clear M19; refine (sameR_b lI _ _ _ _ _ (by omega) (HM20.out _ (.tail _ (.tail _ (.tail _ (.tail _ (.tail _ (.tail _ (.tail _ (.tail _ (.head _)))))))))) (HM20.out _ (.tail _ (.tail _ (.tail _ (.tail _ (.tail _ (.head _)))))))).mono ?_; rintro e w21 ⟨rfl, hb⟩; have HT21 := hidE (HT20.out.later hb); have HM21 := hidE (HM20.out.later hb); clear HM20 hb)
            | (go_at_call 16; clear M20; refine (sameR_b lS _ _ _ _ _ (by omega) (HM21.out _ (.tail _ (.tail _ (.tail _ (.tail _ (.tail _ (.tail _ (.tail _ (.head _))))))))) (HM21.out _ (.tail _ (.tail _ (.tail _ (.tail _ (.head _))))))).mono ?_; rintro e w22 ⟨rfl, hb⟩; have HT22 := hidE (HT21.out.later hb); have HM22 := hidE (HM21.out.later hb); clear HM21 hb)
            | (go_at_call 16; clear M21; refine (sameR_b lN _ _ _ _ _ (by omega) (HM22.out _ (.tail _ (.tail _ (.tail _ (.head _))))) (HM22.out _ (.tail _ (.tail _ (.tail _ (.tail _ (.tail _ (.tail _ (.tail _ (.tail _ (.tail _ (.tail _ (.tail _ (.tail _ (.tail _ (.tail _ (.head _))))))))))))))))).mono ?_; rintro e w23 ⟨rfl, hb⟩; have HT23 := hidE (HT22.out.later hb); have HM23 := hidE (HM22.out.later hb); clear HM22 hb)
            | (go_at_call 16; clear M22; refine (sameR_b lN _ _ _ _ _ (by omega) (HM23.out _ (.tail _ (.head _))) (HM23.out _ (.tail _ (.tail _ (.tail _ (.tail _ (.tail _ (.tail _ (.tail _ (.tail _ (.tail _ (.tail _ (.tail _ (.tail _ (.tail _ (.tail _ (.head _))))))))))))))))).mono ?_; rintro e w24 ⟨rfl, hb⟩; have HT24 := hidE (HT23.out.later hb); have HM24 := hidE (HM23.out.later hb); clear HM23 hb)
            | (go_at_call 16; clear M23; refine (sameR_b lI _ _ _ _ _ (by omega) (HM24.out _ (.head _)) (HM24.out _ (.tail _ (.tail _ (.tail _ (.tail _ (.tail _ (.tail _ (.tail _ (.tail _ (.head _))))))))))).mono ?_; rintro e w25 ⟨rfl, hb⟩; have HT25 := hidE (HT24.out.later hb); have HM25 := hidE (HM24.out.later hb); clear HM24 hb)
            | fail)
          go_ret
          exact ⟨rfl, HT25.out.bel⟩
end Go.Proofs.YtnkllhihdjjmnaaDoor
