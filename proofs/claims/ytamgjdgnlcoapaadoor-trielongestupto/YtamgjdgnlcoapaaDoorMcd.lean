/-
  TrVW.
-/
import Derived.Test.YtamgjdgnlcoapaaDoorMcc
import Derived.Deep.CutRange
namespace Go.Proofs.YtamgjdgnlcoapaaDoor
open Go.RowKit Go.Shelf Go.Lib Go.Maps
set_option maxRecDepth 10000 in
set_option maxHeartbeats 4000000 in
theorem trieLongest_any (A : Nat → Addr) (L : List (List Int)) (l : List Int) (at' : Int) (aE aW : Option Addr) (cE cW : Nat) (w : World) (h : LkB w L l aE aW cE cW) (hs : Se3 w A) (hat : inI at') :
    Calls Tryd.prog 5 #[.agg #[.slice aE L.length cE, .slice aW l.length cW, .int .i64 at']] w fun e w' => e = .returned (.bool true) ∧ Below w.heap.size w w' := by
  obtain ⟨w0, hw0, hb0, h0⟩ : ∃ w0, w.alloc (.cells #[.slice aE L.length cE, .slice aW l.length cW, .int .i64 at'] 25) = w0 ∧ Below w.heap.size w w0 ∧ w0.heap[w.heap.size]? = some (.cells #[.slice aE L.length cE, .slice aW l.length cW, .int .i64 at'] 25 (0, 0)) := ⟨_, rfl, (Below.refl _ _).alloc (Nat.le_refl _) _, heap_alloc_new _ _⟩
  have hz0 : w0.heap.size = w.heap.size + 1 := by rw [← hw0]; simp
  have HC : Hid (∀ V : World, Below w0.heap.size w0 V → V.cell? ⟨w.heap.size, 0, none⟩ = some (.slice aE L.length cE) ∧ V.cell? ⟨w.heap.size, 1, none⟩ = some (.slice aW l.length cW) ∧ V.cell? ⟨w.heap.size, 2, none⟩ = some (.int .i64 at')) := hid0 (fun V hV => by
    have hr := (hV.block w.heap.size (by omega)).trans h0
    exact ⟨by rw [cell_of_row _ _ _ _ _ _ hr]; rfl, by rw [cell_of_row _ _ _ _ _ _ hr]; rfl, by rw [cell_of_row _ _ _ _ _ _ hr]; rfl⟩)
  have HIn : Hid (∀ V : World, Below w0.heap.size w0 V → RwA V aE L ∧ IA V aW l ∧ Se3 V A ∧ Below w.heap.size w V) := hid0 (fun V hV => by
    have hq := hb0.trans (hV.mono (by omega))
    exact ⟨h.e.past hq, h.w'.past hq, hs.past hq, hq⟩)
  have HH := hid0 h
  have HBg := hid0 (begun_any A w0 (HIn.out w0 (Below.refl _ _)).2.2.1)
  have hpn := @run_eql_pointer_nil Tryd.prog
  have hll := h.ll
  have hcap := h.cap
  have HLL : Hid (∀ V : World, newE L = none → L.length ≤ 2000) := hid0 (fun _ hq => by
    unfold newE at hq
    split at hq
    · cases hq
    · omega)
  clear h hs hb0 h0 hz0
  go_enter Tryd.func5, Tryd.ntmps5
  go_upto_region 3 with (go_at_call 8; go_loud ((
    refine HBg.out.mono ?_
    rintro r w1 ⟨rfl, hb⟩
    have HB1 := hid0 hb; clear hb HBg)))
  clear hw0
  obtain ⟨x0, x1, x2⟩ := HC.out w1 HB1.out
  have HNw := hid0 (new_any A L aE cE w1 (HIn.out w1 HB1.out).1 (HIn.out w1 HB1.out).2.2.1 (fun e he => by have := HH.out.el e he; omega))
  cases hne : newE L with
  | some j =>
    have HE := hid0 hne
    clear hne
    go_upto_region 4 with (go_at_call 9; go_loud ((
    refine HNw.out.mono ?_
    rintro r w2 ⟨hb, hr⟩
    obtain rfl : r = .returned (.tuple #[.pointer none, .iface 71 (.pointer (some (A j)))]) := by
      rcases hr with ⟨k, hk, h2⟩ | ⟨hk, _⟩
      · rw [HE.out] at hk; injection hk with hk; rw [hk]; exact h2
      · rw [HE.out] at hk; cases hk
    have HB2 : Hid (Below w0.heap.size w0 w2) := hid0 (HB1.out.trans (hb.mono HB1.out.size))
    clear hb hr HNw)))
    go_wp2
    go_ret
    exact ⟨rfl, (HIn.out _ HB2.out).2.2.2⟩
  | none =>
    have HE := hid0 hne
    clear hne
    go_upto_region 4 with (go_at_call 9; go_loud ((
    refine HNw.out.mono ?_
    rintro r w2 ⟨hb, hr⟩
    obtain ⟨hG, T, hi, bk, mp, rfl, ht⟩ : Good L ∧ ∃ T hi bk mp, r = .returned (.tuple #[.pointer (some ⟨T, 0, none⟩), .nilIface]) ∧ TrieAt w2 w1.heap.size hi T L bk mp := by
      rcases hr with ⟨k, hk, _⟩ | ⟨_, h1, h2⟩
      · rw [HE.out] at hk; cases hk
      · exact ⟨h1, h2⟩
    have HT := hid0 ht
    have HG := hid0 hG
    have HB2 : Hid (Below w0.heap.size w0 w2) := hid0 (HB1.out.trans (hb.mono HB1.out.size))
    clear hb hr HNw ht hG)))
    clear x0 x1 x2
    obtain ⟨x0, x1, x2⟩ := HC.out w2 HB2.out
    have HAt := hid0 hat
    obtain ⟨o, ho⟩ : ∃ o, lngO L l at' = o := ⟨_, rfl⟩
    obtain ⟨p, hp⟩ : ∃ p, endO L l at' = p := ⟨_, rfl⟩
    have HLon : Hid (LonS L l at' o) := hid0 (by rw [← ho]; exact lng_lon HG.out.ne l at')
    have HEnd : Hid (EndS L l at' p) := hid0 (by rw [← hp]; exact end_end HG.out.ne l at')
    obtain ⟨x5, hx5⟩ : ∃ x, onN L o = x := ⟨_, rfl⟩
    obtain ⟨b6, hb6⟩ : ∃ b, o.isSome = b := ⟨_, rfl⟩
    obtain ⟨x7, hx7⟩ : ∃ x, onN L p = x := ⟨_, rfl⟩
    obtain ⟨b8, hb8⟩ : ∃ b, p.isSome = b := ⟨_, rfl⟩
    have HAo : Hid (((b6 = false ∧ x5 = 0 ∧ o = none) ∨ ∃ n : Nat, ∃ h : n < L.length, b6 = true ∧ x5 = (n : Int) ∧ o = some L[n]) ∧ orM L o = if b6 = true then x5 else -1) := hid0 (by
      rw [← hx5, ← hb6]
      cases o with
      | none => exact ⟨.inl ⟨rfl, rfl, rfl⟩, rfl⟩
      | some e => exact ⟨.inr ⟨numF L e, numF_lt HLon.out.1, rfl, rfl, by rw [numF_at HLon.out.1]⟩, rfl⟩)
    have HAp : Hid (((b8 = false ∧ x7 = 0 ∧ p = none) ∨ ∃ n : Nat, ∃ h : n < L.length, b8 = true ∧ x7 = (n : Int) ∧ p = some L[n]) ∧ orM L p = if b8 = true then x7 else -1) := hid0 (by
      rw [← hx7, ← hb8]
      cases p with
      | none => exact ⟨.inl ⟨rfl, rfl, rfl⟩, rfl⟩
      | some e => exact ⟨.inr ⟨numF L e, numF_lt HEnd.out.1, rfl, rfl, by rw [numF_at HEnd.out.1]⟩, rfl⟩)
    have HLg : Hid (Calls Tryd.prog 13 #[.pointer (some ⟨T, 0, none⟩), .slice aW l.length cW, .int .i64 at'] w2 fun e w' => e = .returned (.tuple #[.int .i64 x5, .bool b6]) ∧ w' = w2) := hid0 (by
      have hh := longest_any l aW cW at' HT.out (HIn.out w2 HB2.out).2.1 HH.out.li (by omega) hcap hat
      rw [ho, hx5, hb6] at hh
      exact hh)
    have HEd : Hid (Calls Tryd.prog 14 #[.pointer (some ⟨T, 0, none⟩), .slice aW l.length cW, .int .i64 at'] w2 fun e w' => e = .returned (.tuple #[.int .i64 x7, .bool b8]) ∧ Below w2.heap.size w2 w') := hid0 (by
      have hh := ending_any l aW cW at' HT.out HG.out (HIn.out w2 HB2.out).2.1 HH.out.li (by omega) hcap hat
      rw [hp, hx7, hb8] at hh
      exact hh)
    have HLe : Hid (∀ n, LastI (allK L l l.length) at' (allK L l l.length).length n → n = orM L o) := hid0 (fun n hn => by rw [← ho]; exact last_end HG.out.ne l at' hn)
    have HFe : Hid (∀ n, FirstI (allK L l l.length) at' (allK L l l.length).length n → n = orM L p) := hid0 (fun n hn => by rw [← hp]; exact first_end HG.out.ne l at' hn)
    have hL2 : L.length ≤ 2000 := HLL.out w2 HE.out
    clear ho hp hx5 hb6 hx7 hb8 hat
    go_upto_region 7 with (go_at_call 13; go_loud ((
      refine HLg.out.mono ?_
      rintro r wz ⟨rfl, hz⟩
      have hz := hz.symm
      subst hz)))
    go_upto_region 8 with (go_at_call 14; go_loud ((
      refine HEd.out.mono ?_
      rintro r w3 ⟨rfl, hb⟩
      have HB23 := hid0 hb
      clear hb)))
    clear x0 x1 x2 HLg HEd
    have HB3 : Hid (Below w0.heap.size w0 w3) := hid0 (HB2.out.trans (HB23.out.mono HB2.out.size))
    have HXc : Hid (∀ V : World, Below w3.heap.size w3 V → V.cell? ⟨w.heap.size, 0, none⟩ = some (.slice aE L.length cE) ∧ V.cell? ⟨w.heap.size, 1, none⟩ = some (.slice aW l.length cW) ∧ V.cell? ⟨w.heap.size, 2, none⟩ = some (.int .i64 at')) := hid0 (fun V hV => HC.out V (HB3.out.trans (hV.mono HB3.out.size)))
    have HXi : Hid (∀ V : World, Below w3.heap.size w3 V → RwA V aE L ∧ IA V aW l ∧ Se3 V A ∧ Below w.heap.size w V) := hid0 (fun V hV => HIn.out V (HB3.out.trans (hV.mono HB3.out.size)))
    have HRw : Hid (∀ j (h : j < L.length), ∃ bE oE a1 c1, aE = some ⟨bE, oE, none⟩ ∧ ∀ V : World, Below w3.heap.size w3 V → V.cell? ⟨bE, oE + j, none⟩ = some (.slice a1 (L[j]).length c1) ∧ IA V a1 L[j]) := hid0 (fun j hj => by
      obtain ⟨b, off, e1, hb, a1, c1, hc, hi⟩ := (HXi.out w3 (Below.refl _ _)).1.at' j hj
      exact ⟨b, off, a1, c1, e1, fun V hV => ⟨(hV.cell (p := ⟨b, off + j, none⟩) hb).trans hc, hi.past hV⟩⟩)
    have HSI : Hid (∀ j (h : j < L.length) (a1 : Option Addr) (c1 : Nat) (t : Int) (b : Bool) (V : World), Below w3.heap.size w3 V → IA V a1 L[j] → stI L[j] l t = b → ∀ q, Calls Tryd.prog 12 #[.slice a1 (L[j]).length c1, .slice aW l.length cW, .int .i64 t] (V.drewN q) fun r w' => r = .returned (.bool b) ∧ ∃ m, w' = (V.drewN q).drewN m) := hid0 (fun j hj a1 c1 t b V hV ha hb q => by
      rw [← hb]
      exact standsI L[j] l a1 aW c1 cW t (V.drewN q) ⟨ha.at'⟩ ⟨(HXi.out V hV).2.1.at'⟩ (by have := HG.out.len _ (List.getElem_mem hj); omega) (by omega) (fun e0 => HG.out.ne (by rw [← e0]; exact List.getElem_mem hj)))
    have HLen : Hid (∀ j (h : j < L.length), (L[j]).length ≤ 32) := hid0 (fun j hj => HG.out.len _ (List.getElem_mem hj))
    go_cut [94] from 53 (fun c wx => c = .bool false ∧ wx = w3)
    case first =>
      as_aux_lemma =>
        obtain ⟨x0, x1, x2⟩ := HXc.out w3 (Below.refl _ _)
        rcases HAo.out.1 with ⟨rfl, rfl, _⟩ | ⟨na, hna, rfl, rfl, _⟩
        · rcases HAp.out.1 with ⟨rfl, rfl, _⟩ | ⟨nb, hnb, rfl, rfl, _⟩
          · go_wp2_with fail
            go_meet
            case rel => exact ⟨rfl, rfl⟩
          · have h1 : ¬ (nb : Int) < 0 := by omega
            have h2 : ¬ (nb : Int) ≥ (L.length : Int) := by omega
            go_wp2_with fail
            go_meet
            case rel => exact ⟨rfl, rfl⟩
        · have h3 : ¬ (na : Int) < 0 := by omega
          have h4 : ¬ (na : Int) ≥ (L.length : Int) := by omega
          rcases HAp.out.1 with ⟨rfl, rfl, _⟩ | ⟨nb, hnb, rfl, rfl, _⟩
          · go_wp2_with fail
            go_meet
            case rel => exact ⟨rfl, rfl⟩
          · have h1 : ¬ (nb : Int) < 0 := by omega
            have h2 : ¬ (nb : Int) ≥ (L.length : Int) := by omega
            go_wp2_with fail
            go_meet
            case rel => exact ⟨rfl, rfl⟩
    case rest =>
    obtain ⟨rfl, hw⟩ := hcut
    have hw := hw.symm
    subst hw
    go_upto_region 10 with (fail)
    go_cut [131] from 53 (fun c wx => c = .bool false ∧ Hid (Below w3.heap.size w3 wx))
    case first =>
      as_aux_lemma =>
        obtain ⟨x0, x1, x2⟩ := HXc.out w3 (Below.refl _ _)
        have HBq : Hid (∀ q, Below w3.heap.size w3 (w3.drewN q)) := hid0 (fun q => below_drewN (Below.refl _ _) q)
        rcases HAo.out.1 with ⟨rfl, rfl, _⟩ | ⟨na, hna, rfl, rfl, ho⟩
        · rcases HAp.out.1 with ⟨rfl, rfl, _⟩ | ⟨nb, hnb, rfl, rfl, hp⟩
          · go_quiet ((fail))
            go_wp2_with fail
            go_meet
            case rel => exact ⟨rfl, hid0 (HBq.out _)⟩
          · obtain ⟨bF, oF, a2, c2, haF, hV2⟩ := HRw.out nb hnb
            have hE2 := HEnd.out
            rw [hp] at hE2
            obtain ⟨t2, ht2⟩ : ∃ t2 : Nat, at' - ((L[nb]).length : Int) = (t2 : Int) := ⟨(at' - ((L[nb]).length : Int)).toNat, by have := hE2.2.1; omega⟩
            have ht3 : t2 ≤ 100000000 := by have := hE2.2.2.1; omega
            have HSb : Hid _ := hid0 (HSI.out nb hnb a2 c2 (t2 : Int) true w3 (Below.refl _ _) (hV2 w3 (Below.refl _ _)).2 (by rw [← ht2]; exact hE2.2.2.2.1))
            obtain ⟨hc2, _⟩ := hV2 w3 (Below.refl _ _)
            have h1 : (0 : Int) ≤ (nb : Int) := by omega
            have h2 : (nb : Int) < (L.length : Int) := by omega
            have hwt : IntKind.i64.wrap (t2 : Int) = (t2 : Int) := by simp [IntKind.wrap, IntKind.bits, IntKind.signed]; omega
            clear hE2 hV2 hp
            subst haF
            generalize L[nb] = e2 at *
            go_quiet ((go_at_call 12; exact Calls.quiet_of (HSb.out _)))
            go_wp2_with fail
            go_meet
            case rel => exact ⟨rfl, hid0 (HBq.out _)⟩
        · obtain ⟨bE, oE, a1, c1, haE, hV⟩ := HRw.out na hna
          have hE1 := HLon.out
          rw [ho] at hE1
          have HSa : Hid _ := hid0 (HSI.out na hna a1 c1 at' true w3 (Below.refl _ _) (hV w3 (Below.refl _ _)).2 hE1.2.1)
          obtain ⟨hc1, _⟩ := hV w3 (Below.refl _ _)
          have h3 : (0 : Int) ≤ (na : Int) := by omega
          have h4 : (na : Int) < (L.length : Int) := by omega
          clear hE1 hV
          rcases HAp.out.1 with ⟨rfl, rfl, _⟩ | ⟨nb, hnb, rfl, rfl, hp⟩
          · subst haE
            clear ho
            generalize L[na] = e1 at *
            go_quiet ((go_at_call 12; exact Calls.quiet_of (HSa.out _)))
            go_wp2_with fail
            go_meet
            case rel => exact ⟨rfl, hid0 (HBq.out _)⟩
          · obtain ⟨bF, oF, a2, c2, haF, hV2⟩ := HRw.out nb hnb
            have hE2 := HEnd.out
            rw [hp] at hE2
            obtain ⟨t2, ht2⟩ : ∃ t2 : Nat, at' - ((L[nb]).length : Int) = (t2 : Int) := ⟨(at' - ((L[nb]).length : Int)).toNat, by have := hE2.2.1; omega⟩
            have ht3 : t2 ≤ 100000000 := by have := hE2.2.2.1; omega
            have HSb : Hid _ := hid0 (HSI.out nb hnb a2 c2 (t2 : Int) true w3 (Below.refl _ _) (hV2 w3 (Below.refl _ _)).2 (by rw [← ht2]; exact hE2.2.2.2.1))
            obtain ⟨hc2, _⟩ := hV2 w3 (Below.refl _ _)
            have h1 : (0 : Int) ≤ (nb : Int) := by omega
            have h2 : (nb : Int) < (L.length : Int) := by omega
            have hwt : IntKind.i64.wrap (t2 : Int) = (t2 : Int) := by simp [IntKind.wrap, IntKind.bits, IntKind.signed]; omega
            clear hE2 hV2 hp
            subst haF
            generalize L[nb] = e2 at *
            have hqq := haE.symm
            injection hqq with hqq
            injection hqq with hq1 hq2
            subst hq1 hq2
            clear haE ho
            have HSab : Hid (∀ X : Array Value, (X = #[.slice a1 (L[na]).length c1, .slice aW l.length cW, .int .i64 at'] ∨ X = #[.slice a2 e2.length c2, .slice aW l.length cW, .int .i64 (t2 : Int)]) → ∀ q, Calls Tryd.prog 12 X (w3.drewN q) fun r w' => r = .returned (.bool true) ∧ ∃ m, w' = (w3.drewN q).drewN m) := hid0 (fun X hX q => by
              rcases hX with rfl | rfl
              · exact HSa.out q
              · exact HSb.out q)
            clear HSa HSb
            generalize L[na] = e1 at *
            go_quiet ((go_at_call 12; exact Calls.quiet_of (HSab.out _ (by first | exact Or.inl (by with_reducible rfl) | exact Or.inr (by with_reducible rfl)) _)))
            go_wp2_with fail
            go_meet
            case rel => exact ⟨rfl, hid0 (HBq.out _)⟩
    case rest =>
    obtain ⟨rfl, HBc⟩ := hcut
    go_wp2
    go_loopw [9] (fun i wr => ∃ k : Nat, k ≤ L.length ∧ i = .int .i64 (k : Int) ∧ Hid (Below w3.heap.size w3 wr)) (fun i _ => L.length - (intOf i).toNat)
    case atStart => exact ⟨0, Nat.zero_le _, rfl, HBc⟩
    case round =>
      obtain ⟨i, hi, rfl, HBr⟩ := hrel
      obtain ⟨x0, x1, x2⟩ := HXc.out wr HBr.out
      by_cases hlt : i < L.length
      · have hkI : (i : Int) < (L.length : Int) := by omega
        have hkI0 : (0 : Int) ≤ (i : Int) := by omega
        obtain ⟨bE, oE, a1, c1, haE, hV⟩ := HRw.out i hlt
        have HVi := hid0 hV
        have hl32 := HLen.out i hlt
        obtain ⟨hc1, _⟩ := hV wr HBr.out
        clear hV
        subst haE
        go_upto_region 16 with (fail)
        go_cut [168] from 132 to 208 (fun c wx => c = .bool false ∧ Hid (Below w3.heap.size w3 wx))
        case first =>
          as_aux_lemma =>
            obtain ⟨b1, hb1⟩ : ∃ b, stI L[i] l at' = b := ⟨_, rfl⟩
            have HSd : Hid _ := hid0 (HSI.out i hlt a1 c1 at' b1 wr HBr.out (HVi.out wr HBr.out).2 hb1)
            cases b1 with
            | false =>
              clear hb1 HVi
              generalize L[i] = e at *
              go_quiet ((go_at_call 12; exact Calls.quiet_of (HSd.out _)))
              go_wp2_with fail
              go_meet
              case rel => exact ⟨rfl, hid0 (below_drewN HBr.out _)⟩
            | true =>
              rcases HAo.out.1 with ⟨_, _, ho⟩ | ⟨na, hna, rfl, rfl, ho⟩
              · exfalso
                have hh := HLon.out
                rw [ho] at hh
                have h9 := hh _ (List.getElem_mem hlt)
                rw [hb1] at h9
                cases h9
              · have hh := HLon.out
                rw [ho] at hh
                have hle := hh.2.2 _ (List.getElem_mem hlt) hb1
                obtain ⟨bF, oF, a2, c2, haF, hV2⟩ := HRw.out na hna
                injection haF with haF
                injection haF with hq1 hq2
                subst hq1 hq2
                obtain ⟨hc2, _⟩ := hV2 wr HBr.out
                have h3 : (0 : Int) ≤ (na : Int) := by omega
                have h4 : (na : Int) < (L.length : Int) := by omega
                have h5 : ¬ (L[na]).length < (L[i]).length := by omega
                have h6 : decide ((L[na]).length < (L[i]).length) = false := decide_eq_false h5
                have h7 : decide (((L[na]).length : Int) < ((L[i]).length : Int)) = false := decide_eq_false (by omega)
                have h8 : decide (((L[i]).length : Int) > ((L[na]).length : Int)) = false := h7
                clear hh hle hb1 HVi hV2 ho
                generalize L[i] = e at *
                generalize L[na] = e1 at *
                go_quiet ((go_at_call 12; exact Calls.quiet_of (HSd.out _)))
                go_wp2_with fail
                go_meet
                case rel => exact ⟨rfl, hid0 (below_drewN HBr.out _)⟩
        case rest =>
        obtain ⟨rfl, HBs⟩ := hcut
        clear x0 x1 x2 hc1
        obtain ⟨x0, x1, x2⟩ := HXc.out wc HBs.out
        obtain ⟨hc1, hia⟩ := HVi.out wc HBs.out
        by_cases g1 : ((L[i]).length : Int) ≤ at'
        · have g1d : decide (((L[i]).length : Int) ≤ at') = true := decide_eq_true g1
          by_cases g2 : at' ≤ (l.length : Int)
          · have g2d : decide (at' ≤ (l.length : Int)) = true := decide_eq_true g2
            obtain ⟨t2, ht2⟩ : ∃ t2 : Nat, at' - ((L[i]).length : Int) = (t2 : Int) := ⟨(at' - ((L[i]).length : Int)).toNat, by omega⟩
            have hwt : IntKind.i64.wrap (t2 : Int) = (t2 : Int) := by simp [IntKind.wrap, IntKind.bits, IntKind.signed]; omega
            obtain ⟨b1, hb1⟩ : ∃ b, stI L[i] l (at' - ((L[i]).length : Int)) = b := ⟨_, rfl⟩
            have HSd : Hid _ := hid0 (HSI.out i hlt a1 c1 (t2 : Int) b1 wc HBs.out hia (by rw [← ht2]; exact hb1))
            cases b1 with
            | false =>
              clear hb1 HVi hia
              generalize L[i] = e at *
              go_wp2
              go_quiet ((go_at_call 12; exact Calls.quiet_of (HSd.out _)))
              go_wp2
              go_roundw
              case rel => exact ⟨i + 1, hlt, by go_num, hid0 (below_drewN HBs.out _)⟩
              case measure => simp [intOf]; omega
            | true =>
              rcases HAp.out.1 with ⟨_, _, ho⟩ | ⟨nb, hnb, rfl, rfl, ho⟩
              · exfalso
                have hh := HEnd.out
                rw [ho] at hh
                have h9 := hh _ (List.getElem_mem hlt) g1 g2
                rw [hb1] at h9
                cases h9
              · have hh := HEnd.out
                rw [ho] at hh
                have hle := hh.2.2.2.2 _ (List.getElem_mem hlt) g1 hb1
                obtain ⟨bF, oF, a2, c2, haF, hV2⟩ := HRw.out nb hnb
                injection haF with haF
                injection haF with hq1 hq2
                subst hq1 hq2
                obtain ⟨hc2, _⟩ := hV2 wc HBs.out
                have h3 : (0 : Int) ≤ (nb : Int) := by omega
                have h4 : (nb : Int) < (L.length : Int) := by omega
                have h5 : ¬ (L[nb]).length < (L[i]).length := by omega
                have h6 : decide ((L[nb]).length < (L[i]).length) = false := decide_eq_false h5
                have h7 : decide (((L[nb]).length : Int) < ((L[i]).length : Int)) = false := decide_eq_false (by omega)
                have h8 : decide (((L[i]).length : Int) > ((L[nb]).length : Int)) = false := h7
                clear hh hle hb1 HVi hia hV2 ho
                generalize L[i] = e at *
                generalize L[nb] = e1 at *
                go_wp2
                go_quiet ((go_at_call 12; exact Calls.quiet_of (HSd.out _)))
                go_wp2
                go_roundw
                case rel => exact ⟨i + 1, hlt, by go_num, hid0 (below_drewN HBs.out _)⟩
                case measure => simp [intOf]; omega
          · have g2d : decide (at' ≤ (l.length : Int)) = false := decide_eq_false g2
            clear HVi hia
            generalize L[i] = e at *
            go_wp2
            go_quiet ((fail))
            go_wp2
            go_roundw
            case rel => exact ⟨i + 1, hlt, by go_num, hid0 (below_drewN HBs.out _)⟩
            case measure => simp [intOf]; omega
        · have g1d : decide (((L[i]).length : Int) ≤ at') = false := decide_eq_false g1
          clear HVi hia
          generalize L[i] = e at *
          go_wp2
          go_quiet ((fail))
          go_wp2
          go_roundw
          case rel => exact ⟨i + 1, hlt, by go_num, hid0 (below_drewN HBs.out _)⟩
          case measure => simp [intOf]; omega
      · have hkI : ¬ (i : Int) < (L.length : Int) := by omega
        have HB2r : Hid (Below w2.heap.size w2 wr) := hid0 (HB23.out.trans (HBr.out.mono HB23.out.size))
        have HAl := hid0 (all_any l aW cW (Tr.past HT.out HB2r.out) HG.out (HXi.out wr HBr.out).2.1 HH.out.li (by omega) (Nat.le_trans HT.out.hs HB2r.out.size) (by omega))
        have HMm : Hid (∀ x ∈ allK L l l.length, 0 ≤ x.1) := hid0 (fun x hx => by
          obtain ⟨j, s, _, h1, _, _⟩ := all_mem l.length (Nat.le_refl _) x hx
          rw [h1]
          exact Int.natCast_nonneg j)
        have HLn8 := hid0 (allK_len HG.out.len l l.length)
        generalize allK L l l.length = LA at *
        clear HLon HEnd HSI HRw HLen
        go_upto_region 21 with (go_at_call 10; go_loud ((
          refine HAl.out.mono ?_
          rintro r w5 ⟨v, rfl, hoo, hb⟩
          obtain ⟨a5, c5, rfl, hfa⟩ := hoo.fa
          have HF5 := hid0 hfa
          have HB5 : Hid (Below w3.heap.size w3 w5) := hid0 (HBr.out.trans (hb.mono HBr.out.size))
          clear hoo hb hfa HAl)))
        clear x0 x1 x2
        have hn8 : LA.length ≤ 3200000000 := by have := HLn8.out; omega
        have HX5 : Hid (∀ V : World, Below w5.heap.size w5 V → V.cell? ⟨w.heap.size, 0, none⟩ = some (.slice aE L.length cE) ∧ V.cell? ⟨w.heap.size, 1, none⟩ = some (.slice aW l.length cW) ∧ V.cell? ⟨w.heap.size, 2, none⟩ = some (.int .i64 at')) := hid0 (fun V hV => HXc.out V (HB5.out.trans (hV.mono HB5.out.size)))
        have HW5 : Hid (∀ V : World, Below w5.heap.size w5 V → Below w.heap.size w V) := hid0 (fun V hV => (HXi.out V (HB5.out.trans (hV.mono HB5.out.size))).2.2.2)
        clear HLn8 HXc HXi
        go_wp2
        go_loopw [12, 13, 14] (fun la fi j wr => ∃ (k : Nat) (nl nf : Int), k ≤ LA.length ∧ la = .int .i64 nl ∧ fi = .int .i64 nf ∧ j = .int .i64 (k : Int) ∧ Hid (LastI LA at' k nl) ∧ Hid (FirstI LA at' k nf) ∧ Hid (Below w5.heap.size w5 wr)) (fun _ _ j _ => LA.length - (intOf j).toNat)
        case atStart => exact ⟨0, -1, -1, Nat.zero_le _, rfl, rfl, rfl, hid0 (LastI.zero _ _), hid0 (FirstI.zero _ _), hid0 (Below.refl _ _)⟩
        case round =>
          obtain ⟨k, nl, nf, hk, rfl, rfl, rfl, HLi, HFi, HBt⟩ := hrel
          obtain ⟨x0, x1, x2⟩ := HX5.out wr HBt.out
          have HBq : Hid (∀ q, Below w5.heap.size w5 (wr.drewN q)) := hid0 (fun q => below_drewN HBt.out q)
          by_cases hlk : k < LA.length
          · have hkL : (k : Int) < (LA.length : Int) := by omega
            have hkL0 : (0 : Int) ≤ (k : Int) := by omega
            obtain ⟨b5, o5, ha5, _, d0, d1, d2⟩ := (HF5.out.past HBt.out).at' k hlk
            subst ha5
            have HLh : Hid (LA[k].2.1 = at' → LastI LA at' (k + 1) LA[k].1) := hid0 (fun h => LastI.hit hlk h)
            have HLm : Hid (LA[k].2.1 ≠ at' → LastI LA at' (k + 1) nl) := hid0 (fun h => LastI.miss hlk HLi.out h)
            have HFh : Hid (LA[k].2.2 = at' → nf < 0 → FirstI LA at' (k + 1) LA[k].1) := hid0 (fun h h2 => FirstI.hit HMm.out hlk HFi.out h2 h)
            have HFm : Hid ((¬ nf < 0 ∨ LA[k].2.2 ≠ at') → FirstI LA at' (k + 1) nf) := hid0 (fun h => FirstI.miss HFi.out (h.imp id (fun h2 _ => h2)))
            obtain ⟨y0, hy0⟩ : ∃ y, LA[k].1 = y := ⟨_, rfl⟩
            obtain ⟨y1, hy1⟩ : ∃ y, LA[k].2.1 = y := ⟨_, rfl⟩
            obtain ⟨y2, hy2⟩ : ∃ y, LA[k].2.2 = y := ⟨_, rfl⟩
            rw [hy0] at HLh HFh d0
            rw [hy1] at HLh HLm d1
            rw [hy2] at HFh HFm d2
            clear hy0 hy1 hy2
            by_cases e1 : y1 = at'
            · have f1 : (y1 == at') = true := by simp [e1]
              by_cases e2 : y2 = at'
              · have f2 : (y2 == at') = true := by simp [e2]
                by_cases e3 : nf < 0
                · have f3 : decide (nf < 0) = true := decide_eq_true e3
                  go_wp2
                  go_quiet ((fail))
                  go_wp2
                  go_quiet ((fail))
                  go_wp2
                  go_roundw
                  case rel => exact ⟨k + 1, y0, y0, hlk, rfl, rfl, by go_num, hid0 (HLh.out e1), hid0 (HFh.out e2 e3), hid0 (HBq.out _)⟩
                  case measure => simp [intOf]; omega
                · have f3 : decide (nf < 0) = false := decide_eq_false e3
                  go_wp2
                  go_quiet ((fail))
                  go_wp2
                  go_quiet ((fail))
                  go_wp2
                  go_roundw
                  case rel => exact ⟨k + 1, y0, nf, hlk, rfl, rfl, by go_num, hid0 (HLh.out e1), hid0 (HFm.out (.inl e3)), hid0 (HBq.out _)⟩
                  case measure => simp [intOf]; omega
              · have f2 : (y2 == at') = false := by simp [e2]
                go_wp2
                go_quiet ((fail))
                go_wp2
                go_quiet ((fail))
                go_wp2
                go_roundw
                case rel => exact ⟨k + 1, y0, nf, hlk, rfl, rfl, by go_num, hid0 (HLh.out e1), hid0 (HFm.out (.inr e2)), hid0 (HBq.out _)⟩
                case measure => simp [intOf]; omega
            · have f1 : (y1 == at') = false := by simp [e1]
              by_cases e2 : y2 = at'
              · have f2 : (y2 == at') = true := by simp [e2]
                by_cases e3 : nf < 0
                · have f3 : decide (nf < 0) = true := decide_eq_true e3
                  go_wp2
                  go_quiet ((fail))
                  go_wp2
                  go_quiet ((fail))
                  go_wp2
                  go_roundw
                  case rel => exact ⟨k + 1, nl, y0, hlk, rfl, rfl, by go_num, hid0 (HLm.out e1), hid0 (HFh.out e2 e3), hid0 (HBq.out _)⟩
                  case measure => simp [intOf]; omega
                · have f3 : decide (nf < 0) = false := decide_eq_false e3
                  go_wp2
                  go_quiet ((fail))
                  go_wp2
                  go_quiet ((fail))
                  go_wp2
                  go_roundw
                  case rel => exact ⟨k + 1, nl, nf, hlk, rfl, rfl, by go_num, hid0 (HLm.out e1), hid0 (HFm.out (.inl e3)), hid0 (HBq.out _)⟩
                  case measure => simp [intOf]; omega
              · have f2 : (y2 == at') = false := by simp [e2]
                go_wp2
                go_quiet ((fail))
                go_wp2
                go_quiet ((fail))
                go_wp2
                go_roundw
                case rel => exact ⟨k + 1, nl, nf, hlk, rfl, rfl, by go_num, hid0 (HLm.out e1), hid0 (HFm.out (.inr e2)), hid0 (HBq.out _)⟩
                case measure => simp [intOf]; omega
          · have hkL : ¬ (k : Int) < (LA.length : Int) := by omega
            have hke : k = LA.length := by omega
            have hnl : nl = orM L o := HLe.out nl (by rw [← hke]; exact HLi.out)
            have hnf : nf = orM L p := HFe.out nf (by rw [← hke]; exact HFi.out)
            rw [HAo.out.2] at hnl
            rw [HAp.out.2] at hnf
            clear HLe HFe HLi HFi
            rcases HAo.out.1 with ⟨rfl, rfl, _⟩ | ⟨na, hna, rfl, rfl, _⟩
            · rcases HAp.out.1 with ⟨rfl, rfl, _⟩ | ⟨nb, hnb, rfl, rfl, _⟩
              · replace hnl : nl = -1 := hnl
                replace hnf : nf = -1 := hnf
                subst hnl hnf
                go_wp2
                go_ret
                exact ⟨rfl, HW5.out _ HBt.out⟩
              · replace hnl : nl = -1 := hnl
                replace hnf : nf = (nb : Int) := hnf
                subst hnl hnf
                have hp1 : (0 : Int) ≤ (nb : Int) := by omega
                go_wp2
                go_ret
                exact ⟨rfl, HW5.out _ HBt.out⟩
            · have hp2 : (0 : Int) ≤ (na : Int) := by omega
              rcases HAp.out.1 with ⟨rfl, rfl, _⟩ | ⟨nb, hnb, rfl, rfl, _⟩
              · replace hnl : nl = (na : Int) := hnl
                replace hnf : nf = -1 := hnf
                subst hnl hnf
                go_wp2
                go_ret
                exact ⟨rfl, HW5.out _ HBt.out⟩
              · replace hnl : nl = (na : Int) := hnl
                replace hnf : nf = (nb : Int) := hnf
                subst hnl hnf
                have hp1 : (0 : Int) ≤ (nb : Int) := by omega
                go_wp2
                go_ret
                exact ⟨rfl, HW5.out _ HBt.out⟩
end Go.Proofs.YtamgjdgnlcoapaaDoor
