/-
  The walks of caesuraref3.Count, caesuralaw3.same, answers.
-/
import Derived.Test.YtnkllhihdjjmnaaDoorRefFW
import Derived.Test.YtnkllhihdjjmnaaDoorSentW
namespace Go.Proofs.YtnkllhihdjjmnaaDoor
open Go.RowKit
theorem card_bound3 (f : Int → Bool) : ∀ n : Nat, 0 ≤ card f n ∧ card f n ≤ n
  | 0 => ⟨Int.le_refl _, Int.le_refl _⟩
  | n + 1 => by have := card_bound3 f n; rw [card]; split <;> omega
def cntVal (l : List (Int × Int)) : Int := if mayL l then card (pts l) 1114112 else 0
set_option maxRecDepth 10000 in
set_option maxHeartbeats 400000 in
theorem refCount_any (la : List (Int × Int)) (hl1 : la.length ≤ 10000000) (a1 : Option Addr) (c1 : Nat) (w : World) (hr1 : RA w a1 la) :
    Calls Tryd.prog 40 #[.slice a1 la.length c1] w fun e w' => e = .returned (.tuple #[.int .i64 (cntVal la), .int .i64 (errNo (mayL la))]) ∧ Below w.heap.size w w' := by
  have HR1 := hidE hr1
  have HB0 := hidE (Below.refl w.heap.size w)
  clear hr1
  cases hma : mayL la with
  | false =>
    have HC : Hid (cntVal la = 0) := by show _ = _; unfold cntVal; rw [hma, if_neg (by decide)]
    rw [HC.out, show errNo false = 1 from rfl]
    go_enter Tryd.func40, Tryd.ntmps40
    go_wp2_with (go_at_call 46; refine (refMay_b la _ _ (by omega) _ (HR1.out.later HB0.out) _ hma).mono ?_; rintro e w1 ⟨rfl, hb⟩)
    go_returns
    exact ⟨rfl, hb⟩
  | true =>
    have HC : Hid (cntVal la = card (pts la) 1114112) := by show _ = _; unfold cntVal; rw [if_pos hma]
    rw [HC.out, show errNo true = 0 from rfl]
    generalize hcc : card (pts la) 1114112 = CCA
    have HCC := hidE hcc
    clear hcc HC
    go_enter Tryd.func40, Tryd.ntmps40
    go_wp2_with (first
      | (go_at_call 46; refine (refMay_b la _ _ (by omega) _ (HR1.out.later HB0.out) _ hma).mono ?_; rintro e w1 ⟨rfl, hb⟩; have HB1 := hidE hb; clear hb)
      | (go_at_call 47; refine (refNormal_any la _ _ (by omega) hma _ (HR1.out.later HB1.out)).mono ?_; rintro e w2 ⟨v, lN, rfl, ho, hn, hp, hb⟩; obtain ⟨aN, cN, rfl, hra⟩ := ho.ra; have HBn := hidE (chain3 hb HB1.out); have HR := hidE hra; have HLN := hidE (And.intro hn hp); clear ho hn hp hb hra)
      | fail)
    have HLE := hidE (lens_take lN)
    have HBD := hidE (fun k => lens_bound (Int.le_refl 0) (norm_take k HLN.out.1))
    have hml := (norm_len HLN.out.1 (Int.le_refl 0)).1
    have HM := hidE (fun k (h : k < lN.length) => norm_mem HLN.out.1 _ (List.getElem_mem h))
    have HXN : Hid (lens lN = CCA) := by
      show _ = _
      rw [lens_card (Int.le_refl 0) HLN.out.1, card_congr (fun p _ _ => HLN.out.2 p)]
      exact HCC.out
    go_loopw [6, 7] (fun s i wr => ∃ k q : Nat, k ≤ lN.length ∧ i = .int .i64 (k : Int) ∧ s = .int .i64 (lens (lN.take k)) ∧ wr = w2.drewN q) (fun _ i _ => lN.length - (intOf i).toNat)
    case atStart => exact ⟨0, 0, Nat.zero_le _, rfl, rfl, rfl⟩
    case round =>
      obtain ⟨k, q, hk, rfl, rfl, rfl⟩ := hrel
      by_cases hlt : k < lN.length
      · obtain ⟨b1, o1, rfl, d0, d1⟩ := HR.out.at' k hlt
        have hl1 := HLE.out k hlt
        have hb0 := HBD.out k
        have hb1 := HBD.out (k + 1)
        have hmr := HM.out k hlt
        generalize lN[k] = r at *
        obtain ⟨lo, hi⟩ := r
        simp only at d0 d1 hmr hl1
        rw [hl1] at hb1
        generalize lens (lN.take k) = s at *
        have HL1 := hidE hl1
        clear hl1 HLE HM HBD HR
        go_wp2
        go_quiet ((fail))
        go_wp2
        go_roundw
        case rel => exact ⟨k + 1, q + nq, by omega, by go_num, by rw [HL1.out]; exact congrArg _ (by omega), rfl⟩
        case measure => simp [intOf]; omega
      · have hki : ¬ (k : Int) < (lN.length : Int) := by omega
        have HS : Hid (lens (lN.take k) = CCA) := by
          show _ = _
          rw [List.take_of_length_le (by omega)]
          exact HXN.out
        rw [HS.out]
        go_wp2
        go_returns
        exact ⟨rfl, below_drewN HBn.out _⟩
theorem num_any {w : World} {A : Nat → Addr} (h : Sents w A) (ok : Bool) :
    Calls Tryd.prog 41 #[errVal (A 0) ok] w fun e w' => e = .returned (.int .i64 (errNo ok)) ∧ w' = w := by
  cases ok with
  | true => exact kitNum_nil w
  | false => exact kitNum_at w A h 0 (by omega)
set_option maxRecDepth 10000 in
set_option maxHeartbeats 400000 in
theorem same_ok (A : Nat → Addr) (ok : Bool) (l : List (Int × Int)) (a b : Option Addr) (ca cb : Nat) (hl : l.length ≤ 140737488355328) (w : World) (hS : Sents w A) (ha : RA w a l) (hb : RA w b l) :
    Calls Tryd.prog 34 #[.slice a l.length ca, errVal (A 0) ok, .slice b l.length cb, .int .i64 (errNo ok)] w fun e w' => e = .returned (.bool true) ∧ Below w.heap.size w w' := by
  have HN := hidE (num_any hS ok)
  have HS := hidE (sameR_eq l a b ca cb w hl ha hb)
  clear ha hb hS
  generalize errVal (A 0) ok = ev at *
  generalize errNo ok = en at *
  go_enter Tryd.func34, Tryd.ntmps34
  go_wp2_with (first
    | (go_at_call 41; refine HN.out.mono ?_; rintro e w1 ⟨rfl, rfl⟩)
    | (go_at_call 16; refine HS.out.mono ?_; rintro e w2 ⟨rfl, q, rfl⟩)
    | fail)
  go_ret
  exact ⟨rfl, drewB _ _⟩
/-- What stands while the calls are held against the document's own. -/
structure AnsAt (w0 : World) (A : Nat → Addr) (a b : Option Addr) (la lb : List (Int × Int)) (w : World) : Prop where
  ra : RA w a la
  rb : RA w b lb
  sents : Sents w A
  bel : Below w0.heap.size w0 w
theorem AnsAt.later {w0 w w' : World} {A : Nat → Addr} {a b : Option Addr} {la lb : List (Int × Int)} (h : AnsAt w0 A a b la lb w) (hb : Below w.heap.size w w') : AnsAt w0 A a b la lb w' := ⟨h.ra.later hb, h.rb.later hb, h.sents.below hb, chain3 hb h.bel⟩
structure OwnsPQ (p q : Option Addr) (cp cq : Nat) (la lb : List (Int × Int)) (w : World) : Prop where
  rp : RA w p la
  rq : RA w q lb
theorem OwnsPQ.later {w w' : World} {p q : Option Addr} {cp cq : Nat} {la lb : List (Int × Int)} (h : OwnsPQ p q cp cq la lb w) (hb : Below w.heap.size w w') : OwnsPQ p q cp cq la lb w' := ⟨h.rp.later hb, h.rq.later hb⟩
theorem Answered.any3 {w w' : World} {A0 : Addr} {ok : Bool} {W : Int → Bool} {e : Ending} (h : Answered w w' A0 ok W e) : ∃ a cap l, e = .returned (.tuple #[.slice a l.length cap, errVal A0 ok]) ∧ RA w' a l ∧ NormF 0 l ∧ (ok = true → ∀ p, pts l p = W p) ∧ (ok = false → l = []) ∧ Below w.heap.size w w' := by
  obtain ⟨v, l, rfl, h2, h3, h4, h5, h6⟩ := h
  obtain ⟨a, cap, rfl, hra⟩ := h2.ra
  exact ⟨a, cap, l, rfl, hra, h3, h4, h5, h6⟩
theorem ans_eq {ok : Bool} {W : Int → Bool} {l m : List (Int × Int)} (hl : NormF 0 l) (hm : NormF 0 m) (hl1 : ok = true → ∀ p, pts l p = W p) (hm1 : ok = true → ∀ p, pts m p = W p) (hl0 : ok = false → l = []) (hm0 : ok = false → m = []) : m = l := by
  cases ok with
  | true => exact norm_uniq hm hl (fun p => (hm1 rfl p).trans (hl1 rfl p).symm)
  | false => rw [hl0 rfl, hm0 rfl]
theorem refHas_b (l : List (Int × Int)) (a : Option Addr) (cap : Nat) (n : Int) (hl : l.length ≤ 140737488355328) (w : World) (ha : RA w a l) :
    Calls Tryd.prog 35 #[.slice a l.length cap, .int .i64 n] w fun e w' => e = .returned (.bool (pts l n)) ∧ Below w.heap.size w w' :=
  (refHas_any l a cap n hl w ha).mono fun e w' ⟨h1, q, h2⟩ => ⟨h1, by rw [h2]; exact drewB _ _⟩
set_option maxRecDepth 10000 in
set_option maxHeartbeats 1600000 in
theorem answers_any (A : Nat → Addr) (a b : Option Addr) (ca cb : Nat) (la lb : List (Int × Int)) (n : Int) (h1 : la.length ≤ 1048580) (h2 : lb.length ≤ 1048580) (hca : a = none → ca = 0) (hcb : b = none → cb = 0) (w : World) (ha : RA w a la) (hb : RA w b lb) (hS : Sents w A) :
    Calls Tryd.prog 23 #[.slice a la.length ca, .slice b lb.length cb, .int .i64 n] w fun e w' => e = .returned (.bool true) ∧ Below w.heap.size w w' := by
  have HT0 : Hid (AnsAt w A a b la lb w) := ⟨ha, hb, hS, Below.refl _ _⟩
  have HCV : Hid ((if mayL la = true then card (pts la) 1114112 else 0) = cntVal la) := rfl
  clear ha hb hS
  have M1 : Hid True := trivial
  have M2 : Hid True := trivial
  have M3 : Hid True := trivial
  have M4 : Hid True := trivial
  have M5 : Hid True := trivial
  have M6 : Hid True := trivial
  have M7 : Hid True := trivial
  have M8 : Hid True := trivial
  have M9 : Hid True := trivial
  have M10 : Hid True := trivial
  have M11 : Hid True := trivial
  have M12 : Hid True := trivial
  have M13 : Hid True := trivial
  have M14 : Hid True := trivial
  have M15 : Hid True := trivial
  have M16 : Hid True := trivial
  have M17 : Hid True := trivial
  have M18 : Hid True := trivial
  go_enter Tryd.func23, Tryd.ntmps23
  go_wp2_with (first
    | (go_at_call 21; clear M1; refine (own_any la _ _ (by omega) hca _ HT0.out.ra).mono ?_; rintro e w1 ⟨vp, rfl, hop, hb⟩; obtain ⟨p, cp, rfl, hrp⟩ := hop.ra; have hcp := own_cap hop; have HRP := hidE hrp; have HT1 := hidE (HT0.out.later hb); clear hop hrp hb)
    | (go_at_call 21; clear M2; refine (own_any lb _ _ (by omega) hcb _ HT1.out.rb).mono ?_; rintro e w2 ⟨vq, rfl, hoq, hb⟩; obtain ⟨q, cq, rfl, hrq⟩ := hoq.ra; have hcq := own_cap hoq; have HQ2 : Hid (OwnsPQ p q cp cq la lb w2) := ⟨HRP.out.later hb, hrq⟩; have HT2 := hidE (HT1.out.later hb); clear hoq hrq hb HRP)
    | (go_at_call 11; clear M3; refine (normal_any la (by omega) _ _ (A 0) _ HT2.out.ra HT2.out.sents.c0).mono ?_; intro e w3 hAns; obtain ⟨aL, cL, lL, rfl, hr, hn, hp, h0, hb⟩ := hAns.any3; have HL := hidE (And.intro hn (And.intro hp h0)); have HRL := hidE hr; have hlL := (norm_len hn (Int.le_refl 0)).1; clear hn hp h0 hr hAns; have HT3 := hidE (HT2.out.later hb); have HQ3 := hidE (HQ2.out.later hb); clear hb)
    | (go_at_call 33; clear M4; refine (refNormalF_any la (by omega) _ _ _ HQ3.out.rp).mono ?_; rintro e w4 ⟨aM, cM, lM, rfl, hr, hn, hp, h0, hb⟩; have hML := ans_eq HL.out.1 hn HL.out.2.1 hp HL.out.2.2 h0; subst hML; have HRM := hidE hr; have HRL2 := hidE (HRL.out.later hb); clear hn hp h0 hr HL HRL; have HT4 := hidE (HT3.out.later hb); have HQ4 := hidE (HQ3.out.later hb); clear hb)
    | (go_at_call 34; clear M5; refine (same_ok A (mayL la) lM _ _ _ _ (by omega) _ HT4.out.sents HRL2.out HRM.out).mono ?_; rintro e w5 ⟨rfl, hb⟩; clear HRL2 HRM; have HT5 := hidE (HT4.out.later hb); have HQ5 := hidE (HQ4.out.later hb); clear hb)
    | (go_at_call 20; refine (has_any la (by omega) _ _ n _ HT5.out.ra).mono ?_; rintro e w6 ⟨rfl, hb⟩; have HT6 := hidE (HT5.out.later hb); have HQ6 := hidE (HQ5.out.later hb); clear hb)
    | (go_at_call 35; refine (refHas_b la _ _ n (by omega) _ HQ6.out.rp).mono ?_; rintro e w7 ⟨rfl, hb⟩; have HT7 := hidE (HT6.out.later hb); have HQ7 := hidE (HQ6.out.later hb); clear hb)
    | (go_at_call 12; clear M6; refine (union_any la lb (by omega) (by omega) _ _ _ _ (A 0) _ HT7.out.ra HT7.out.rb HT7.out.sents.c0).mono ?_; intro e w8 hAns; obtain ⟨aL, cL, lL, rfl, hr, hn, hp, h0, hb⟩ := hAns.any3; have HL := hidE (And.intro hn (And.intro hp h0)); have HRL := hidE hr; have hlL := (norm_len hn (Int.le_refl 0)).1; clear hn hp h0 hr hAns; have HT8 := hidE (HT7.out.later hb); have HQ8 := hidE (HQ7.out.later hb); clear hb)
    | (go_at_call 36; clear M7; refine (refUnionF_any la lb (by omega) (by omega) _ _ _ _ hcp hcq _ HQ8.out.rp HQ8.out.rq).mono ?_; rintro e w9 ⟨aM, cM, lM, rfl, hr, hn, hp, h0, hb⟩; have hML := ans_eq HL.out.1 hn HL.out.2.1 hp HL.out.2.2 h0; subst hML; have HRM := hidE hr; have HRL2 := hidE (HRL.out.later hb); clear hn hp h0 hr HL HRL; have HT9 := hidE (HT8.out.later hb); have HQ9 := hidE (HQ8.out.later hb); clear hb)
    | (go_at_call 34; clear M8; refine (same_ok A (mayL la && mayL lb) lM _ _ _ _ (by omega) _ HT9.out.sents HRL2.out HRM.out).mono ?_; rintro e w10 ⟨rfl, hb⟩; clear HRL2 HRM; have HT10 := hidE (HT9.out.later hb); have HQ10 := hidE (HQ9.out.later hb); clear hb)
    | (go_at_call 13; clear M9; refine (inter_any la lb (by omega) (by omega) _ _ _ _ (A 0) _ HT10.out.ra HT10.out.rb HT10.out.sents.c0).mono ?_; intro e w11 hAns; obtain ⟨aL, cL, lL, rfl, hr, hn, hp, h0, hb⟩ := hAns.any3; have HL := hidE (And.intro hn (And.intro hp h0)); have HRL := hidE hr; have hlL := (norm_len hn (Int.le_refl 0)).1; clear hn hp h0 hr hAns; have HT11 := hidE (HT10.out.later hb); have HQ11 := hidE (HQ10.out.later hb); clear hb)
    | (go_at_call 37; clear M10; refine (refInterF_any la lb (by omega) (by omega) _ _ _ _ _ HQ11.out.rp HQ11.out.rq).mono ?_; rintro e w12 ⟨aM, cM, lM, rfl, hr, hn, hp, h0, hb⟩; have hML := ans_eq HL.out.1 hn HL.out.2.1 hp HL.out.2.2 h0; subst hML; have HRM := hidE hr; have HRL2 := hidE (HRL.out.later hb); clear hn hp h0 hr HL HRL; have HT12 := hidE (HT11.out.later hb); have HQ12 := hidE (HQ11.out.later hb); clear hb)
    | (go_at_call 34; clear M11; refine (same_ok A (mayL la && mayL lb) lM _ _ _ _ (by omega) _ HT12.out.sents HRL2.out HRM.out).mono ?_; rintro e w13 ⟨rfl, hb⟩; clear HRL2 HRM; have HT13 := hidE (HT12.out.later hb); have HQ13 := hidE (HQ12.out.later hb); clear hb)
    | (go_at_call 15; clear M12; refine (minus_any la lb (by omega) (by omega) _ _ _ _ (A 0) _ HT13.out.ra HT13.out.rb HT13.out.sents.c0).mono ?_; intro e w14 hAns; obtain ⟨aL, cL, lL, rfl, hr, hn, hp, h0, hb⟩ := hAns.any3; have HL := hidE (And.intro hn (And.intro hp h0)); have HRL := hidE hr; have hlL := (norm_len hn (Int.le_refl 0)).1; clear hn hp h0 hr hAns; have HT14 := hidE (HT13.out.later hb); have HQ14 := hidE (HQ13.out.later hb); clear hb)
    | (go_at_call 38; clear M13; refine (refMinusF_any la lb (by omega) (by omega) _ _ _ _ hcq _ HQ14.out.rp HQ14.out.rq).mono ?_; rintro e w15 ⟨aM, cM, lM, rfl, hr, hn, hp, h0, hb⟩; have hML := ans_eq HL.out.1 hn HL.out.2.1 hp HL.out.2.2 h0; subst hML; have HRM := hidE hr; have HRL2 := hidE (HRL.out.later hb); clear hn hp h0 hr HL HRL; have HT15 := hidE (HT14.out.later hb); have HQ15 := hidE (HQ14.out.later hb); clear hb)
    | (go_at_call 34; clear M14; refine (same_ok A (mayL la && mayL lb) lM _ _ _ _ (by omega) _ HT15.out.sents HRL2.out HRM.out).mono ?_; rintro e w16 ⟨rfl, hb⟩; clear HRL2 HRM; have HT16 := hidE (HT15.out.later hb); have HQ16 := hidE (HQ15.out.later hb); clear hb)
    | (go_at_call 14; clear M15; refine (not_any la (by omega) _ _ (A 0) _ HT16.out.ra HT16.out.sents.c0).mono ?_; intro e w17 hAns; obtain ⟨aL, cL, lL, rfl, hr, hn, hp, h0, hb⟩ := hAns.any3; have HL := hidE (And.intro hn (And.intro hp h0)); have HRL := hidE hr; have hlL := (norm_len hn (Int.le_refl 0)).1; clear hn hp h0 hr hAns; have HT17 := hidE (HT16.out.later hb); have HQ17 := hidE (HQ16.out.later hb); clear hb)
    | (go_at_call 39; clear M16; refine (refNotF_any la (by omega) _ _ _ HQ17.out.rp).mono ?_; rintro e w18 ⟨aM, cM, lM, rfl, hr, hn, hp, h0, hb⟩; have hML := ans_eq HL.out.1 hn HL.out.2.1 hp HL.out.2.2 h0; subst hML; have HRM := hidE hr; have HRL2 := hidE (HRL.out.later hb); clear hn hp h0 hr HL HRL; have HT18 := hidE (HT17.out.later hb); have HQ18 := hidE (HQ17.out.later hb); clear hb)
    | (go_at_call 9; refine (count_any la (by omega) _ _ (A 0) _ HT18.out.ra HT18.out.sents.c0).mono ?_; rintro e w19 ⟨rfl, hb⟩; rw [HCV.out]; have HRL3 := hidE (HRL2.out.later hb); have HRM3 := hidE (HRM.out.later hb); clear HRL2 HRM; have HT19 := hidE (HT18.out.later hb); have HQ19 := hidE (HQ18.out.later hb); clear hb)
    | (go_at_call 40; refine (refCount_any la (by omega) _ _ _ HQ19.out.rp).mono ?_; rintro e w20 ⟨rfl, hb⟩; have HRL4 := hidE (HRL3.out.later hb); have HRM4 := hidE (HRM3.out.later hb); clear HRL3 HRM3; have HT20 := hidE (HT19.out.later hb); have HQ20 := hidE (HQ19.out.later hb); clear hb)
    | (go_at_call 34; clear M18; refine (same_ok A (mayL la) lM _ _ _ _ (by omega) _ HT20.out.sents HRL4.out HRM4.out).mono ?_; rintro e w21 ⟨rfl, hb⟩; clear HRL4 HRM4; have HT21 := hidE (HT20.out.later hb); have HQ21 := hidE (HQ20.out.later hb); clear hb)
    | (go_at_call 41; refine (num_any HT21.out.sents (mayL la)).mono ?_; rintro e w22 ⟨rfl, rfl⟩)
    | fail)
  go_ret
  exact ⟨rfl, HT21.out.bel⟩
end Go.Proofs.YtnkllhihdjjmnaaDoor
