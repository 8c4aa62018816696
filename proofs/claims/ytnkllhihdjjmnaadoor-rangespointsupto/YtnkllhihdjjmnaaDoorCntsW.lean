/-
  The walk of caesuralaw3.RangesCounts.
-/
import Derived.Test.YtnkllhihdjjmnaaDoorBegW
namespace Go.Proofs.YtnkllhihdjjmnaaDoor
open Go.RowKit
theorem card_bound (f : Int → Bool) : ∀ n : Nat, 0 ≤ card f n ∧ card f n ≤ n
  | 0 => ⟨Int.le_refl _, Int.le_refl _⟩
  | n + 1 => by have := card_bound f n; rw [card]; split <;> omega
theorem card_rest (f : Int → Bool) : card f 1114112 + card (fun p => inAll p && !f p) 1114112 = 1114112 := by
  have h := card_not f 1114112
  rw [card_congr (f := fun p => inAll p && !f p) (g := fun p => !f p) (fun p h1 h2 => by
    have : inAll p = true := by simp [inAll]; omega
    rw [this, Bool.true_and])]
  exact h
theorem Answered.list {w w' : World} {A0 : Addr} {W : Int → Bool} {e : Ending} (h : Answered w w' A0 true W e) : ∃ a cap l, e = .returned (.tuple #[.slice a l.length cap, .nilIface]) ∧ RA w' a l ∧ NormF 0 l ∧ (∀ p, pts l p = W p) ∧ Below w.heap.size w w' := by
  obtain ⟨v, l, rfl, h2, h3, h4, _, h6⟩ := h
  obtain ⟨a, cap, rfl, hra⟩ := h2.ra
  exact ⟨a, cap, l, rfl, hra, h3, h4 rfl, h6⟩
/-- Two lists and a number, as they are handed in. -/
structure TwoAt (w : World) (A0 : Addr) (a b : Option Addr) (la lb : List (Int × Int)) : Prop where
  ra : RA w a la
  rb : RA w b lb
  e0 : w.cell? ⟨0, 0, none⟩ = some (errArg A0)
  la : la.length ≤ 1048576
  lb : lb.length ≤ 1048576
theorem TwoAt.later {w w' : World} {A0 : Addr} {a b : Option Addr} {la lb : List (Int × Int)} (h : TwoAt w A0 a b la lb) (hb : Below w.heap.size w w') : TwoAt w' A0 a b la lb := ⟨h.ra.later hb, h.rb.later hb, cellE_later h.e0 hb, h.la, h.lb⟩
/-- .. and boxed, in a later world. -/
structure TwoIn (w0 : World) (A0 : Addr) (a b : Option Addr) (ca cb : Nat) (la lb : List (Int × Int)) (p : Int) (w : World) : Prop where
  c0 : w.cell? ⟨w0.heap.size, 0, none⟩ = some (.slice a la.length ca)
  c1 : w.cell? ⟨w0.heap.size, 1, none⟩ = some (.slice b lb.length cb)
  c2 : w.cell? ⟨w0.heap.size, 2, none⟩ = some (.int .i64 p)
  two : TwoAt w A0 a b la lb
  bel : Below w0.heap.size w0 w
theorem TwoIn.later {w0 w w' : World} {A0 : Addr} {a b : Option Addr} {ca cb : Nat} {la lb : List (Int × Int)} {p : Int} (h : TwoIn w0 A0 a b ca cb la lb p w) (hb : Below w.heap.size w w') : TwoIn w0 A0 a b ca cb la lb p w' where
  c0 := (hb.cell (p := ⟨w0.heap.size, 0, none⟩) (World.block_lt_of_cell? w _ h.c0)).trans h.c0
  c1 := (hb.cell (p := ⟨w0.heap.size, 1, none⟩) (World.block_lt_of_cell? w _ h.c1)).trans h.c1
  c2 := (hb.cell (p := ⟨w0.heap.size, 2, none⟩) (World.block_lt_of_cell? w _ h.c2)).trans h.c2
  two := h.two.later hb
  bel := chain hb h.bel
theorem TwoAt.box {w : World} {A0 : Addr} {a b : Option Addr} {la lb : List (Int × Int)} (h : TwoAt w A0 a b la lb) (ca cb : Nat) (p : Int) (t : TypeId) : TwoIn w A0 a b ca cb la lb p (w.alloc (.cells #[.slice a la.length ca, .slice b lb.length cb, .int .i64 p] t)) :=
  ⟨by simp, by simp, by simp, h.later (below1 _ _), below1 _ _⟩
theorem counted_no {w w' : World} {A0 : Addr} {l : List (Int × Int)} {e : Ending} (h : Counted w w' A0 l e) (hm : mayL l = false) : e = .returned (.tuple #[.int .i64 0, .iface 99 (.pointer (some A0))]) ∧ Below w.heap.size w w' := by
  obtain ⟨rfl, h2⟩ := h
  rw [hm]
  exact ⟨rfl, h2⟩
theorem drewN_below (w : World) (q : Nat) : Below w.heap.size w (w.drewN q) := below_drewN (Below.refl _ _) q
set_option maxRecDepth 10000 in
set_option maxHeartbeats 400000 in
theorem counts_walk (A0 : Addr) (a b : Option Addr) (ca cb : Nat) (la lb : List (Int × Int)) (p : Int) (w : World) (h : TwoAt w A0 a b la lb) :
    Calls Tryd.prog 3 #[.agg #[.slice a la.length ca, .slice b lb.length cb, .int .i64 p]] w fun e w' => e = .returned (.bool true) ∧ Below w.heap.size w w' := by
  have HT := hidE (h.box ca cb p 24)
  have h1 := h.la
  have h2 := h.lb
  clear h
  have T1 : Hid True := trivial
  have hb1 := card_bound (pts la) 1114112
  have hb2 := card_bound (pts lb) 1114112
  have hb3 := card_bound (fun p => pts la p || pts lb p) 1114112
  have hb4 := card_bound (fun p => pts la p && pts lb p) 1114112
  have hb5 := card_bound (fun p => inAll p && !pts la p) 1114112
  have hs1 := card_or (pts la) (pts lb) 1114112
  have hs2 := card_rest (pts la)
  generalize hCA : card (pts la) 1114112 = CCA at hb1 hs1 hs2
  generalize hCB : card (pts lb) 1114112 = CCB at hb2 hs1
  generalize hCU : card (fun p => pts la p || pts lb p) 1114112 = CCU at hb3 hs1
  generalize hCI : card (fun p => pts la p && pts lb p) 1114112 = CCI at hb4 hs1
  generalize hCT : card (fun p => inAll p && !pts la p) 1114112 = CCT at hb5 hs2
  have HCA := hidE hCA
  have HCB := hidE hCB
  have HCU := hidE hCU
  have HCI := hidE hCI
  have HCT := hidE hCT
  clear hCA hCB hCU hCI hCT
  cases hma : mayL la with
  | false =>
    cases hmb : mayL lb with
    | false =>
      go_enter Tryd.func3, Tryd.ntmps3
      go_wp2_with (first
        | (go_at_call 8; refine (begun_any A0 _ HT.out.two.e0).mono ?_; rintro e w1 ⟨rfl, hb1⟩; have HT1 := hidE (HT.out.later hb1); have c0 := HT1.out.c0; have c1 := HT1.out.c1; clear hb1)
        | (go_at_call 9; clear T1; refine (count_any la (by omega) _ _ A0 _ HT1.out.two.ra HT1.out.two.e0).mono ?_; intro e w2 hAns; obtain ⟨rfl, hb⟩ := counted_no hAns hma; have HT2 := hidE (HT1.out.later hb); clear c0 c1; have c0 := HT2.out.c0; have c1 := HT2.out.c1; clear hb hAns)
        | (go_at_call 9; refine (count_any lb (by omega) _ _ A0 _ HT2.out.two.rb HT2.out.two.e0).mono ?_; intro e w3 hAns; obtain ⟨rfl, hb⟩ := counted_no hAns hmb; have HT3 := hidE (HT2.out.later hb); clear c0 c1; have c0 := HT3.out.c0; have c1 := HT3.out.c1; clear hb hAns)
        | fail)
      have HMa := hidE (fun n => may_any la a ca (by omega) (w3.drewN n) (HT3.out.two.ra.later (drewN_below _ n)))
      have HMb := hidE (fun n => may_any lb b cb (by omega) (w3.drewN n) (HT3.out.two.rb.later (drewN_below _ n)))
      rw [hma] at HMa
      rw [hmb] at HMb
      go_big_quiet (first | (go_at_call 10; with_reducible exact Calls.quiet_of (HMa.out _)) | (go_at_call 10; with_reducible exact Calls.quiet_of (HMb.out _)))
      go_wp2
      go_ret
      exact ⟨rfl, below_drewN HT3.out.bel _⟩
    | true =>
      go_enter Tryd.func3, Tryd.ntmps3
      go_wp2_with (first
        | (go_at_call 8; refine (begun_any A0 _ HT.out.two.e0).mono ?_; rintro e w1 ⟨rfl, hb1⟩; have HT1 := hidE (HT.out.later hb1); have c0 := HT1.out.c0; have c1 := HT1.out.c1; clear hb1)
        | (go_at_call 9; clear T1; refine (count_any la (by omega) _ _ A0 _ HT1.out.two.ra HT1.out.two.e0).mono ?_; intro e w2 hAns; obtain ⟨rfl, hb⟩ := counted_no hAns hma; have HT2 := hidE (HT1.out.later hb); clear c0 c1; have c0 := HT2.out.c0; have c1 := HT2.out.c1; clear hb hAns)
        | (go_at_call 9; refine (count_any lb (by omega) _ _ A0 _ HT2.out.two.rb HT2.out.two.e0).mono ?_; intro e w3 hAns; obtain ⟨rfl, hb⟩ := hAns.val hmb CCB HCB.out; have HT3 := hidE (HT2.out.later hb); clear c0 c1; have c0 := HT3.out.c0; have c1 := HT3.out.c1; clear hb hAns)
        | fail)
      have HMa := hidE (fun n => may_any la a ca (by omega) (w3.drewN n) (HT3.out.two.ra.later (drewN_below _ n)))
      have HMb := hidE (fun n => may_any lb b cb (by omega) (w3.drewN n) (HT3.out.two.rb.later (drewN_below _ n)))
      rw [hma] at HMa
      rw [hmb] at HMb
      go_big_quiet (first | (go_at_call 10; with_reducible exact Calls.quiet_of (HMa.out _)) | (go_at_call 10; with_reducible exact Calls.quiet_of (HMb.out _)))
      go_wp2
      go_ret
      exact ⟨rfl, below_drewN HT3.out.bel _⟩
  | true =>
    cases hmb : mayL lb with
    | false =>
      go_enter Tryd.func3, Tryd.ntmps3
      go_wp2_with (first
        | (go_at_call 8; refine (begun_any A0 _ HT.out.two.e0).mono ?_; rintro e w1 ⟨rfl, hb1⟩; have HT1 := hidE (HT.out.later hb1); have c0 := HT1.out.c0; have c1 := HT1.out.c1; clear hb1)
        | (go_at_call 9; clear T1; refine (count_any la (by omega) _ _ A0 _ HT1.out.two.ra HT1.out.two.e0).mono ?_; intro e w2 hAns; obtain ⟨rfl, hb⟩ := hAns.val hma CCA HCA.out; have HT2 := hidE (HT1.out.later hb); clear c0 c1; have c0 := HT2.out.c0; have c1 := HT2.out.c1; clear hb hAns)
        | (go_at_call 9; refine (count_any lb (by omega) _ _ A0 _ HT2.out.two.rb HT2.out.two.e0).mono ?_; intro e w3 hAns; obtain ⟨rfl, hb⟩ := counted_no hAns hmb; have HT3 := hidE (HT2.out.later hb); clear c0 c1; have c0 := HT3.out.c0; have c1 := HT3.out.c1; clear hb hAns)
        | fail)
      have HMa := hidE (fun n => may_any la a ca (by omega) (w3.drewN n) (HT3.out.two.ra.later (drewN_below _ n)))
      have HMb := hidE (fun n => may_any lb b cb (by omega) (w3.drewN n) (HT3.out.two.rb.later (drewN_below _ n)))
      rw [hma] at HMa
      rw [hmb] at HMb
      go_big_quiet (first | (go_at_call 10; with_reducible exact Calls.quiet_of (HMa.out _)) | (go_at_call 10; with_reducible exact Calls.quiet_of (HMb.out _)))
      go_wp2
      go_ret
      exact ⟨rfl, below_drewN HT3.out.bel _⟩
    | true =>
      go_enter Tryd.func3, Tryd.ntmps3
      go_wp2_with (first
        | (go_at_call 8; refine (begun_any A0 _ HT.out.two.e0).mono ?_; rintro e w1 ⟨rfl, hb1⟩; have HT1 := hidE (HT.out.later hb1); have c0 := HT1.out.c0; have c1 := HT1.out.c1; clear hb1)
        | (go_at_call 9; clear T1; refine (count_any la (by omega) _ _ A0 _ HT1.out.two.ra HT1.out.two.e0).mono ?_; intro e w2 hAns; obtain ⟨rfl, hb⟩ := hAns.val hma CCA HCA.out; have HT2 := hidE (HT1.out.later hb); clear c0 c1; have c0 := HT2.out.c0; have c1 := HT2.out.c1; clear hb hAns)
        | (go_at_call 9; refine (count_any lb (by omega) _ _ A0 _ HT2.out.two.rb HT2.out.two.e0).mono ?_; intro e w3 hAns; obtain ⟨rfl, hb⟩ := hAns.val hmb CCB HCB.out; have HT3 := hidE (HT2.out.later hb); clear c0 c1; have c0 := HT3.out.c0; have c1 := HT3.out.c1; clear hb hAns)
        | (go_at_call 11; refine (normal_any la (by omega) _ _ A0 _ HT3.out.two.ra HT3.out.two.e0).mono ?_; intro e w4 hAns; rw [hma] at hAns; obtain ⟨aN, cN, lN, rfl, hr, hn, hp, hb⟩ := hAns.list; have HT4 := hidE (HT3.out.later hb); have HX4 := hidE hb; have HLN0 := hidE (And.intro hr (And.intro hn hp)); clear c0 c1; have c0 := HT4.out.c0; have c1 := HT4.out.c1; clear hb hAns hr hn hp)
        | (go_at_call 12; refine (union_any la lb (by omega) (by omega) _ _ _ _ A0 _ HT4.out.two.ra HT4.out.two.rb HT4.out.two.e0).mono ?_; intro e w5 hAns; rw [hma, hmb, Bool.and_true] at hAns; obtain ⟨aU, cU, lU, rfl, hr, hn, hp, hb⟩ := hAns.list; have HT5 := hidE (HT4.out.later hb); have HX5 := hidE hb; have HLU0 := hidE (And.intro hr (And.intro hn hp)); clear c0 c1; have c0 := HT5.out.c0; have c1 := HT5.out.c1; clear hb hAns hr hn hp)
        | (go_at_call 13; refine (inter_any la lb (by omega) (by omega) _ _ _ _ A0 _ HT5.out.two.ra HT5.out.two.rb HT5.out.two.e0).mono ?_; intro e w6 hAns; rw [hma, hmb, Bool.and_true] at hAns; obtain ⟨aI, cI, lI, rfl, hr, hn, hp, hb⟩ := hAns.list; have HT6 := hidE (HT5.out.later hb); have HX6 := hidE hb; have HLI0 := hidE (And.intro hr (And.intro hn hp)); clear c0 c1; have c0 := HT6.out.c0; have c1 := HT6.out.c1; clear hb hAns hr hn hp)
        | (go_at_call 14; refine (not_any la (by omega) _ _ A0 _ HT6.out.two.ra HT6.out.two.e0).mono ?_; intro e w7 hAns; rw [hma] at hAns; obtain ⟨aT, cT, lT, rfl, hr, hn, hp, hb⟩ := hAns.list; have HT7 := hidE (HT6.out.later hb); have HX7 := hidE hb; have HLT0 := hidE (And.intro hr (And.intro hn hp)); clear c0 c1; have c0 := HT7.out.c0; have c1 := HT7.out.c1; clear hb hAns hr hn hp)
        | fail)
      have hRN := HLN0.out.1.later (chain HX7.out (chain HX6.out HX5.out))
      have hRU := HLU0.out.1.later (chain HX7.out HX6.out)
      have hRI := HLI0.out.1.later HX7.out
      have hRT := HLT0.out.1
      have HR := hidE (And.intro hRN (And.intro hRU (And.intro hRI hRT)))
      have HLE := hidE (lens_take lN)
      have HBD := hidE (fun k => lens_bound (Int.le_refl 0) (norm_take k HLN0.out.2.1))
      have hml := (norm_len HLN0.out.2.1 (Int.le_refl 0)).1
      have hmu := (norm_len HLU0.out.2.1 (Int.le_refl 0)).1
      have hmi := (norm_len HLI0.out.2.1 (Int.le_refl 0)).1
      have hmt := (norm_len HLT0.out.2.1 (Int.le_refl 0)).1
      have HM := hidE (fun k (h : k < lN.length) => norm_mem HLN0.out.2.1 _ (List.getElem_mem h))
      have HXN : Hid (lens lN = CCA) := by
        show _ = _
        rw [lens_card (Int.le_refl 0) HLN0.out.2.1, card_congr (fun p _ _ => HLN0.out.2.2 p)]
        exact HCA.out
      have HXU : Hid (card (pts lU) 1114112 = CCU) := (card_congr (fun p _ _ => HLU0.out.2.2 p)).trans HCU.out
      have HXI : Hid (card (pts lI) 1114112 = CCI) := (card_congr (fun p _ _ => HLI0.out.2.2 p)).trans HCI.out
      have HXT : Hid (card (pts lT) 1114112 = CCT) := (card_congr (fun p _ _ => HLT0.out.2.2 p)).trans HCT.out
      have HMU := hidE (norm_may (Int.le_refl 0) HLU0.out.2.1)
      have HMI := hidE (norm_may (Int.le_refl 0) HLI0.out.2.1)
      have HMT := hidE (norm_may (Int.le_refl 0) HLT0.out.2.1)
      clear hRN hRU hRI hRT c0 c1 HX4 HX5 HX6 HX7
      go_loopw [15, 16] (fun s i wr => ∃ k q : Nat, k ≤ lN.length ∧ i = .int .i64 (k : Int) ∧ s = .int .i64 (lens (lN.take k)) ∧ wr = w7.drewN q) (fun _ i _ => lN.length - (intOf i).toNat)
      case atStart => exact ⟨0, 0, Nat.zero_le _, rfl, rfl, rfl⟩
      case round =>
        obtain ⟨k, q, hk, rfl, rfl, rfl⟩ := hrel
        by_cases hlt : k < lN.length
        · obtain ⟨b1, o1, rfl, d0, d1⟩ := HR.out.1.at' k hlt
          have hl1 := HLE.out k hlt
          have hb0 := HBD.out k
          have hb1 := HBD.out (k + 1)
          have hmr := HM.out k hlt
          generalize lN[k] = r at *
          obtain ⟨lo, hi⟩ := r
          simp only at d0 d1 hmr hl1
          rw [hl1] at hb1
          generalize lens (lN.take k) = s at *
          have HL1 := hidE hl1
          clear hl1 HLE HM HBD HR HT HT1 HT2 HT3 HT4 HT5 HT6 HT7
          go_wp2
          go_quiet ((fail))
          go_wp2
          go_roundw
          case rel => exact ⟨k + 1, q + nq, by omega, by go_num, by rw [HL1.out]; exact congrArg _ (by omega), rfl⟩
          case measure => simp [intOf]; omega
        · have hki : ¬ (k : Int) < (lN.length : Int) := by omega
          have HS : Hid (lens (lN.take k) = CCA) := by
            show _ = _
            rw [List.take_of_length_le (by omega)]
            exact HXN.out
          rw [HS.out]
          have HW := hidE (HT7.out.later (drewN_below _ q))
          have HR' := hidE (And.intro (HR.out.2.1.later (drewN_below w7 q)) (And.intro (HR.out.2.2.1.later (drewN_below w7 q)) (HR.out.2.2.2.later (drewN_below w7 q))))
          clear HR HLE HM HBD
          go_wp2_with (first
            | (go_at_call 9; refine (count_any lU (by omega) _ _ A0 _ HR'.out.1 HW.out.two.e0).mono ?_; intro e w8 hAns; obtain ⟨rfl, hb⟩ := hAns.val HMU.out CCU HXU.out; have HW8 := hidE (HW.out.later hb); have HR8 := hidE (And.intro (HR'.out.2.1.later hb) (HR'.out.2.2.later hb)); clear hb hAns HR')
            | (go_at_call 9; refine (count_any lI (by omega) _ _ A0 _ HR8.out.1 HW8.out.two.e0).mono ?_; intro e w9 hAns; obtain ⟨rfl, hb⟩ := hAns.val HMI.out CCI HXI.out; have HW9 := hidE (HW8.out.later hb); have HR9 := hidE (HR8.out.2.later hb); clear hb hAns HR8)
            | (go_at_call 9; refine (count_any lT (by omega) _ _ A0 _ HR9.out HW9.out.two.e0).mono ?_; intro e w10 hAns; obtain ⟨rfl, hb⟩ := hAns.val HMT.out CCT HXT.out; have HW10 := hidE (HW9.out.later hb); clear hb hAns HR9)
            | fail)
          go_ret
          exact ⟨rfl, HW10.out.bel⟩
end Go.Proofs.YtnkllhihdjjmnaaDoor
