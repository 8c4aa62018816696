/-
  The walk of caesuralaw1.CodecPlays.
-/
import Derived.Test.YtnclpcnpaodjjaaDoorPlaysM
namespace Go.Proofs.YtnclpcnpaodjjaaDoor
open Go.RowKit
theorem StsAt.below {w w' : World} {a : Option Addr} {S : List St} (h : StsAt w a S) (hb : Below w.heap.size w w') : StsAt w' a S := ⟨fun k t ht => by
  obtain ⟨g, off, rfl, hg, s0, s1, s2⟩ := h.at' k t ht
  exact ⟨g, off, rfl, Nat.lt_of_lt_of_le hg hb.size, (hb.cell (p := ⟨g, off + k * 3, none⟩) hg).trans s0, (hb.cell (p := ⟨g, off + k * 3 + 1, none⟩) hg).trans s1, (hb.cell (p := ⟨g, off + k * 3 + 2, none⟩) hg).trans s2⟩⟩
theorem Pl.stored {w wr : World} {R B g n cap : Nat} {u v a b c : Value} {L m : List UInt8} {p : Nat} (h : Pl w wr R B g n cap u v a b c L p m) (hu : ¬ u.ownBlock = some g) (hv : ¬ v.ownBlock = some g) (k : Nat) (m' : List UInt8) (hm : m' = m.set k 7) : Pl w (wr.setCell ⟨g, k, none⟩ (.int .u8 7)) R B g n cap u v a b c L p m' := by
  subst hm
  have ho := Only.setCell wr g k (.int .u8 7)
  have hgR : ¬ R = g := fun e => h.gv.seg.ne (t := 62) h.rd.blk (by decide) (by simp [Value.ownBlock, e])
  have hgB : ¬ B = g := fun e => h.gv.seg.ne (t := 64) h.rr.blk (by decide) (by simp [Value.ownBlock, e])
  exact ⟨h.lp.only ho (fun i hi => hi ▸ h.hg), h.hR, h.hB, h.hg, h.rd.only ho hgR (fun k hk e => hu (e ▸ hk)), h.rr.only ho hgB (fun k hk e => hv (e ▸ hk)), h.gv.stored k 7⟩
theorem rep_over (k n : Nat) (l : List UInt8) (hl : n = l.length) (h : k < n) : List.replicate (k + 1) (7 : UInt8) ++ l.drop (k + 1) = (List.replicate k (7 : UInt8) ++ l.drop k).set k 7 := (rep_set k n 7 l hl h).symm
set_option maxRecDepth 10000 in
set_option maxHeartbeats 1600000 in
theorem plays_walk (S T : List St) (a c : Option Addr) (ca cc : Nat) (P : ByteArray) (Z : Nat → Addr) (w : World) (hs : stBulk S ≤ 1048576) (hp : P.size ≤ 1048576) (ht : stBulk T ≤ 1048576)
    (hn : ∀ t ∈ S, -9223372036854775808 ≤ t.n ∧ t.n ≤ 9223372036854775807) (hS : StsAt w a S) (hT : StsAt w c T) (hE : Sents w Z) :
    Calls Tryd.prog 3 #[.agg #[.slice a S.length ca, .string P, .slice c T.length cc]] w fun e w' => e = .returned (.bool true) ∧ Below w.heap.size w w' := by
  have hTl : T.length ≤ 1048576 := Nat.le_trans (len_bulk T) ht
  have HS := hid0 hS
  have HT := hid0 hT
  have HE := hid0 hE
  have HN := hid0 hn
  have HB0 := hid0 hs
  have hPl : P.data.toList.length = P.size := by simp
  have HPl := hid0 hPl
  have HL1 : Hid (LP w (w.alloc (.cells #[.slice a S.length ca, .string P, .slice c T.length cc] 24)) (.slice a S.length ca) (.string P) (.slice c T.length cc)) := LP.start w _ _ _ _
  clear hS hE hT hn hs hPl ht
  go_enter Tryd.func3, Tryd.ntmps3
  go_wp2_with (first
    | (go_at_call 5; have hq := HL1.out; clear HL1; refine (writes_any S a ca Z _ HB0.out HN.out (HS.out.below hq.bel) (HE.out.below hq.bel)).mono ?_; rintro e w1 ⟨rfl, hb1⟩; have HL2 := hid0 (hq.next hb1); obtain ⟨c0, c1, c2⟩ := HL2.out.box; clear hq hb1 HS HN HB0)
    | (go_at_call 6; have hq := HL2.out; clear HL2; refine (spare_at P _ (by omega)).mono ?_; rintro e w2 ⟨g, cap, rfl, hg1, hg2, hcap, ho2, hb2⟩; have HL3 := hid0 (hq.next hb2); have hg0 : w.heap.size < g := Nat.lt_of_lt_of_le hq.lt hg1; have HO2 := hid0 (ho2.base_le (Nat.zero_le _)); clear c0 c1 c2; obtain ⟨c0, c1, c2⟩ := HL3.out.box; clear hq hb2 ho2)
    | (go_at_call 7; have hq := HL3.out; clear HL3; refine (newReader_any P.data.toList _ _ (by have := HPl.out; omega) (HO2.out.front HPl.out.symm) (inMem_at hg2)).mono ?_; rintro e w3 ⟨R, u, rfl, hR, hu, hrd, hb3⟩; have HL4 := hid0 (hq.next hb3); have hR0 : w.heap.size < R := Nat.lt_of_lt_of_le hq.lt hR; have HU : Hid (¬ u.ownBlock = some g) := (fun e => absurd (hu g e) (by omega)); have HO3 := hid0 (HO2.out.kept hb3 hg2); have HR3 := hid0 hrd; clear c0 c1 c2 HO2; obtain ⟨c0, c1, c2⟩ := HL4.out.box; have hg3 : g < w3.heap.size := Nat.lt_of_lt_of_le hg2 hb3.size; clear hq hb3 hrd hu hR)
    | (go_at_call 9; have hq := HL4.out; clear HL4; refine (kitBytes_any P _ _ (by omega) (Nat.le_refl _)).mono ?_; rintro e w4 ⟨v4, rfl, ho4, hb4⟩; have HL5 := hid0 (hq.next hb4); have HO4 := hid0 (HO3.out.kept hb4 hg3); have HR4 : Hid (Rd w4 R u P.data.toList) := ⟨(hb4.block R HR3.out.lt).trans HR3.out.blk, HR3.out.seg.later hb4⟩; have HV4 := hid0 (ho4.base_le (Nat.zero_le _)); have hg4 : g < w4.heap.size := Nat.lt_of_lt_of_le hg3 hb4.size; clear c0 c1 c2 HO3 HR3; obtain ⟨c0, c1, c2⟩ := HL5.out.box; clear hq hb4 ho4)
    | (go_at_call 8; have hq := HL5.out; clear HL5; refine (refNewR_any P.data.toList _ _ HV4.out (by have := HPl.out; omega)).mono ?_; rintro e w5 ⟨B, v, rfl, hB, hv, hrr, hb5⟩; have HP5 : Hid (Pl w w5 R B g (P.size + 64) cap u v (.slice a S.length ca) (.string P) (.slice c T.length cc) P.data.toList 0 (P.data.toList ++ marks 64)) := ⟨hq.next hb5, hR0, Nat.lt_of_lt_of_le hq.lt hB, hg0, ⟨(hb5.block R HR4.out.lt).trans HR4.out.blk, HR4.out.seg.later hb5⟩, hrr, HO4.out.kept hb5 hg4⟩; have HVg : Hid (¬ v.ownBlock = some g) := (fun e => absurd (hv g e) (by omega)); clear c0 c1 c2 HO4 HR4 HV4; obtain ⟨c0, c1, c2⟩ := HP5.out.lp.box; clear hq hb5 hrr hv hB)
    | (go_at_call 10; have hq := HP5.out; clear HP5; refine (kept_any P g 0 cap _ (by omega) (fun k h => hq.gv.cell k h)).mono ?_; rintro e w6 ⟨rfl, m6, rfl⟩; have HP6 := hid0 (hq.drewN m6); clear hq)
    | fail)
  clear c0 c1 c2
  go_loopw [8] (fun i wr => ∃ k : Nat, k ≤ P.size + 64 ∧ i = .int .i64 (k : Int) ∧ Pl w wr R B g (P.size + 64) cap u v (.slice a S.length ca) (.string P) (.slice c T.length cc) P.data.toList 0 (List.replicate k 7 ++ (P.data.toList ++ marks 64).drop k)) (fun i _ => P.size + 64 - (intOf i).toNat)
  case atStart => exact ⟨0, Nat.zero_le _, rfl, HP6.out⟩
  case round =>
    obtain ⟨k, hk, rfl, hP⟩ := hrel
    clear HP6
    have HP := hid0 hP
    clear hP
    have hlen : P.size + 64 = (P.data.toList ++ marks 64).length := by simp [marks_length]
    by_cases hlt : k < P.size + 64
    · have hkI : (k : Int) < (P.size : Int) + 64 := by omega
      have hkI0 : (0 : Int) ≤ (k : Int) := by omega
      obtain ⟨v0, hck⟩ : ∃ v0, wr.cell? ⟨g, k, none⟩ = some v0 := ⟨_, by have := HP.out.gv.cell k (by simp [marks_length]; omega); rw [Nat.zero_add] at this; exact this⟩
      have hfz := HP.out.gv.free k
      have HS := hid0 (HP.out.stored HU.out HVg.out k _ (rep_over k _ _ hlen hlt))
      clear hlen HP
      go_wp2
      go_roundw
      case rel => exact ⟨k + 1, by omega, by go_num, HS.out⟩
      case measure => simp [intOf]; omega
    · have hkI : ¬ (k : Int) < (P.size : Int) + 64 := by omega
      have HQ : Hid (Pl w wr R B g (P.size + 64) cap u v (.slice a S.length ca) (.string P) (.slice c T.length cc) P.data.toList 0 (List.replicate P.size 7 ++ List.replicate 64 7)) := by
        have h1 := HP.out
        have hk2 : k = P.size + 64 := by omega
        rw [hk2, hlen, List.drop_length, List.append_nil, ← hlen, ← List.replicate_append_replicate] at h1
        exact h1
      have hg2 := HQ.out.gv.lt_size
      obtain ⟨c0, c1, c2⟩ := HQ.out.lp.box
      clear HP hlen hlt
      have hs7 : (List.replicate P.size (7 : UInt8)).length = P.size := by simp
      have HS7 := hid0 hs7
      clear hs7
      have hpI : (P.size : Int) ≤ (cap : Int) := by omega
      go_wp2_with (first
        | (go_at_call 7; have hq := HQ.out; refine (newReader_any (List.replicate P.size 7) _ _ (by have := HS7.out; omega) (hq.gv.front HS7.out.symm) (inMem_at hg2)).mono ?_; rintro e w7 ⟨R2, u2, rfl, hR2, hu2, hrd2, hb7⟩; have HP7 := hid0 (hq.later hb7); have HR7 := hid0 hrd2; clear c0 c1 c2; obtain ⟨c0, c1, c2⟩ := HP7.out.lp.box; have HB7 := hid0 hb7; clear hq hb7 hrd2 hu2)
        | fail)
      have hL7 : ∀ n, Calls Tryd.prog 11 #[.pointer (some ⟨R2, 0, none⟩)] (w7.drewN n) fun e w' => e = .returned (.int .i64 (P.size : Int)) ∧ w' = w7.drewN n := by
        intro n
        have h1 := rdLeft_any R2 _ _ _ (HR7.out.drewN n)
        rw [HS7.out] at h1
        exact h1
      have HL7 := hid0 hL7
      clear hL7
      go_quiet ((go_at_call 11; exact Calls.quiet_of_same (HL7.out _)))
      obtain ⟨x, E, hNum, hxE⟩ : ∃ (x : Int) (E : Value), (∀ W, Rd W R2 u2 (List.replicate P.size 7) → Sents W Z → Calls Tryd.prog 12 #[.pointer (some ⟨R2, 0, none⟩)] W fun e w' => e = .returned (.tuple #[.int .i64 x, E]) ∧ Only W w' (fun i => i = R2)) ∧ (¬ (0 : Int) < (P.size : Int) ∨ (x = 7 ∧ E = .nilIface ∧ (0 : Int) < (P.size : Int))) := by
        by_cases h0 : P.size = 0
        · refine ⟨0, .iface 87 (.pointer (some (Z 3))), fun W h1 h2 => ?_, .inl (by omega)⟩
          have h3 := rdNum_any R2 u2 _ W (Z 3) (Z 9) (by have := HS7.out; omega) h1 h2.c3 h2.c9
          rw [h0, List.replicate_zero] at h3
          refine h3.mono ?_
          rintro e w' ⟨rfl, v', _, ho, _⟩
          exact ⟨rfl, ho⟩
        · obtain ⟨k0, hk0⟩ : ∃ k0, P.size = k0 + 1 := ⟨P.size - 1, by omega⟩
          refine ⟨7, .nilIface, fun W h1 h2 => ?_, .inr ⟨rfl, rfl, by omega⟩⟩
          have h3 := rdNum_any R2 u2 _ W (Z 3) (Z 9) (by have := HS7.out; omega) h1 h2.c3 h2.c9
          rw [hk0, num_seven] at h3
          refine h3.mono ?_
          rintro e w' ⟨rfl, v', _, ho, _⟩
          exact ⟨rfl, ho⟩
      have HNum := hid0 hNum
      clear hNum HL7
      rcases hxE with hp0 | ⟨rfl, rfl, hp0⟩
      all_goals
        go_wp2_with (go_at_call 12; have hq := HP7.out.drewN nq; clear HP7; refine (HNum.out _ (HR7.out.drewN nq) (HE.out.below hq.lp.bel)).mono ?_; rintro e w8 ⟨rfl, ho8⟩; have HP8 := hid0 (HQ.out.later ((below_drewN HB7.out nq).trans (ho8.below (B := wr.heap.size) HB7.out.size (fun i hi => hi ▸ hR2)))); clear hq ho8 HQ HB7; clear c0 c1 c2; obtain ⟨c0, c1, c2⟩ := HP8.out.lp.box)
        clear c0 c1 c2 HNum HR7
        go_loopw [12] (fun i wr => ∃ (k p : Nat) (z : Value), k ≤ T.length ∧ i = .int .i64 (k : Int) ∧ Pl w wr R B g (P.size + 64) cap z v (.slice a S.length ca) (.string P) (.slice c T.length cc) P.data.toList p (List.replicate P.size 7 ++ List.replicate 64 7)) (fun i _ => T.length - (intOf i).toNat)
        case atStart => exact ⟨0, 0, u, Nat.zero_le _, rfl, HP8.out⟩
        case round =>
          obtain ⟨k, p, z, hk, rfl, hP⟩ := hrel
          clear HP8
          have HP := hid0 hP
          clear hP
          obtain ⟨c0, c1, c2⟩ := HP.out.lp.box
          cases hkT : T[k]? with
          | none =>
            have hkI : ¬ (k : Int) < (T.length : Int) := by have := List.getElem?_eq_none_iff.1 hkT; omega
            clear hkT
            go_wp2
            clear c0 c1 c2
            have hm7 : ∀ c' ∈ (List.replicate P.size 7 ++ List.replicate 64 7), c' = (7 : UInt8) := by
              intro c' hc'
              simp at hc'
              rcases hc' with h | h
              · exact h.2
              · exact h
            have hmn : (List.replicate P.size (7 : UInt8) ++ List.replicate 64 7).length = P.size + 64 := by simp
            have H7 := hid0 hm7
            have HN7 := hid0 hmn
            clear hm7 hmn
            have HW := hid0 HP.out
            go_loopw [21] (fun i wr' => ∃ (k m : Nat), k ≤ P.size + 64 ∧ i = .int .i64 (k : Int) ∧ wr' = wr.drewN m) (fun i _ => P.size + 64 - (intOf i).toNat)
            case atStart => exact ⟨0, 0, Nat.zero_le _, rfl, rfl⟩
            case round =>
              obtain ⟨k2, m2, hk2, rfl, rfl⟩ := hrel
              by_cases hlt : k2 < P.size + 64
              · have hkI2 : (k2 : Int) < (P.size : Int) + 64 := by omega
                have hkI02 : (0 : Int) ≤ (k2 : Int) := by omega
                have hc7 : wr.cell? ⟨g, k2, none⟩ = some (.int .u8 7) := by
                  have h1 := HW.out.gv.cell k2 (by rw [HN7.out]; exact hlt)
                  rw [Nat.zero_add, H7.out _ (List.getElem_mem _)] at h1
                  exact h1
                go_wp2
                go_roundw
                case rel => exact ⟨k2 + 1, _, by omega, by go_num, rfl⟩
                case measure => simp [intOf]; omega
              · have hkI2 : ¬ (k2 : Int) < (P.size : Int) + 64 := by omega
                go_wp2
                go_ret
                exact ⟨rfl, below_drewN HW.out.lp.bel _⟩
          | some t =>
            have hkl : k < T.length := (List.getElem?_eq_some_iff.1 hkT).1
            obtain ⟨g', off, rfl, hg', s0, s1, s2⟩ := HT.out.at' k t hkT
            have d0 := (HP.out.lp.bel.cell (p := ⟨g', off + k * 3, none⟩) hg').trans s0
            have d1 := (HP.out.lp.bel.cell (p := ⟨g', off + k * 3 + 1, none⟩) hg').trans s1
            have HC1 := hid0 s1
            clear s0 s1 s2 hkT
            have hkI : (k : Int) < (T.length : Int) := by omega
            have hkI0 : (0 : Int) ≤ (k : Int) := by omega
            obtain ⟨wd, n, s⟩ := t
            dsimp only at d0 d1
            have hpl : p ≤ P.data.toList.length := HP.out.rr.le
            have HLd : Hid ((P.data.toList.drop p).length ≤ 140737488355328) := hid0 (by have := HPl.out; simp; omega)
            have HLe : Hid (P.data.toList.length ≤ 140737488351232) := hid0 (by have := HPl.out; omega)
            cases wd with
            | true =>
              obtain ⟨s', E', c', q, hq, o1, o2, o3, o4, hKN⟩ := text_out Z P.data.toList p n hpl
              have hT1 : ∀ W, Rd W R z (P.data.toList.drop p) → Sents W Z → Calls Tryd.prog 13 #[.pointer (some ⟨R, 0, none⟩), .int .i64 n] W fun e w' => e = .returned (.tuple #[.string s', E']) ∧ ∃ z', Rd w' R z' (P.data.toList.drop q) ∧ Only W w' (fun i => i = R) := fun W h1 h2 => by
                have h3 := rdText_any R z _ W (Z 3) (Z 9) (Z 2) n HLd.out h1 h2.c3 h2.c9 h2.c2
                rw [o1, o2] at h3
                refine h3.mono ?_
                rintro e w' ⟨h4, v', h5, h6, _⟩
                exact ⟨h4, v', h5, h6⟩
              have hT2 : ∀ W, RRd W B v P.data.toList p → Calls Tryd.prog 14 #[.pointer (some ⟨B, 0, none⟩), .int .i64 n] W fun e w' => e = .returned (.tuple #[.string s', .int .i64 c']) ∧ RRd w' B v P.data.toList q ∧ Only W w' (fun i => i = B) := fun W h1 => by
                have h3 := refRText_any B v _ p n W h1 HLe.out
                rw [o3, o4] at h3
                exact h3
              have HLa : Hid (∀ W z', Rd W R z' (P.data.toList.drop q) → Calls Tryd.prog 11 #[.pointer (some ⟨R, 0, none⟩)] W fun e w' => e = .returned (.int .i64 ((P.data.toList.length - q : Nat) : Int)) ∧ w' = W) := hid0 (fun W z' h => by have h3 := rdLeft_any R z' _ W h; rw [List.length_drop] at h3; exact h3)
              have HLb : Hid (∀ W, RRd W B v P.data.toList q → Calls Tryd.prog 17 #[.pointer (some ⟨B, 0, none⟩)] W fun e w' => e = .returned (.int .i64 ((P.data.toList.length - q : Nat) : Int)) ∧ ∃ n, w' = W.drewN n) := hid0 (fun W h => refLeft_any B v _ q W h (by have := HPl.out; omega))
              have HT1 := hid0 hT1
              have HT2 := hid0 hT2
              have HKN := hid0 hKN
              clear hT1 hT2 hKN o1 o2 o3 o4
              go_wp2_with (first
                | (go_at_call 13; (have hq := HP.out; clear HP; refine (HT1.out _ hq.rd (HE.out.below hq.lp.bel)).mono ?_; rintro e w9 ⟨rfl, z9, hr9, ho9⟩; have HH := hid0 (hq.first hr9 ho9); clear c0 c1 c2 d0 d1; obtain ⟨c0, c1, c2⟩ := HH.out.lp.box; have d1 := (HH.out.lp.bel.cell (p := ⟨g', off + k * 3 + 1, none⟩) hg').trans HC1.out; clear hq hr9 ho9))
                | (go_at_call 14; (have hq := HH.out; clear HH; refine (HT2.out _ hq.rr).mono ?_; rintro e w10 ⟨rfl, hr10, ho10⟩; have HP2 := hid0 (hq.second hr10 ho10); clear c0 c1 c2; obtain ⟨c0, c1, c2⟩ := HP2.out.lp.box; clear hq hr10 ho10))
                | (go_at_call 15; refine (HKN.out _ (HE.out.below HP2.out.lp.bel)).mono ?_; rintro e w11 ⟨rfl, rfl⟩)
                | (go_at_call 11; (refine (HLa.out _ _ HP2.out.rd).mono ?_; rintro e w12 ⟨rfl, rfl⟩))
                | (go_at_call 17; refine (HLb.out _ HP2.out.rr).mono ?_; rintro e w13 ⟨rfl, m13, rfl⟩)
                | fail)
              go_roundw
              case rel => exact ⟨k + 1, q, _, hkl, by go_num, HP2.out.drewN _⟩
              case measure => simp [intOf]; omega
            | false =>
              obtain ⟨x', E', c', q, hq, o1, o2, o3, o4, hKN⟩ := num_out Z P.data.toList p hpl
              have hT1 : ∀ W, Rd W R z (P.data.toList.drop p) → Sents W Z → Calls Tryd.prog 12 #[.pointer (some ⟨R, 0, none⟩)] W fun e w' => e = .returned (.tuple #[.int .i64 x', E']) ∧ ∃ z', Rd w' R z' (P.data.toList.drop q) ∧ Only W w' (fun i => i = R) := fun W h1 h2 => by
                have h3 := rdNum_any R z _ W (Z 3) (Z 9) HLd.out h1 h2.c3 h2.c9
                rw [o1, o2] at h3
                refine h3.mono ?_
                rintro e w' ⟨h4, v', h5, h6, _⟩
                exact ⟨h4, v', h5, h6⟩
              have hT2 : ∀ W, RRd W B v P.data.toList p → Calls Tryd.prog 16 #[.pointer (some ⟨B, 0, none⟩)] W fun e w' => e = .returned (.tuple #[.int .i64 x', .int .i64 c']) ∧ RRd w' B v P.data.toList q ∧ Only W w' (fun i => i = B) := fun W h1 => by
                have h3 := refRNum_any B v _ p W h1 (by have := HLe.out; omega)
                rw [o3, o4] at h3
                exact h3
              have HLa : Hid (∀ W z', Rd W R z' (P.data.toList.drop q) → Calls Tryd.prog 11 #[.pointer (some ⟨R, 0, none⟩)] W fun e w' => e = .returned (.int .i64 ((P.data.toList.length - q : Nat) : Int)) ∧ w' = W) := hid0 (fun W z' h => by have h3 := rdLeft_any R z' _ W h; rw [List.length_drop] at h3; exact h3)
              have HLb : Hid (∀ W, RRd W B v P.data.toList q → Calls Tryd.prog 17 #[.pointer (some ⟨B, 0, none⟩)] W fun e w' => e = .returned (.int .i64 ((P.data.toList.length - q : Nat) : Int)) ∧ ∃ n, w' = W.drewN n) := hid0 (fun W h => refLeft_any B v _ q W h (by have := HPl.out; omega))
              have HT1 := hid0 hT1
              have HT2 := hid0 hT2
              have HKN := hid0 hKN
              clear hT1 hT2 hKN o1 o2 o3 o4
              go_wp2_with (first
                | (go_at_call 12; (have hq := HP.out; clear HP; refine (HT1.out _ hq.rd (HE.out.below hq.lp.bel)).mono ?_; rintro e w9 ⟨rfl, z9, hr9, ho9⟩; have HH := hid0 (hq.first hr9 ho9); clear c0 c1 c2 d0 d1; obtain ⟨c0, c1, c2⟩ := HH.out.lp.box; have d1 := (HH.out.lp.bel.cell (p := ⟨g', off + k * 3 + 1, none⟩) hg').trans HC1.out; clear hq hr9 ho9))
                | (go_at_call 16; (have hq := HH.out; clear HH; refine (HT2.out _ hq.rr).mono ?_; rintro e w10 ⟨rfl, hr10, ho10⟩; have HP2 := hid0 (hq.second hr10 ho10); clear c0 c1 c2; obtain ⟨c0, c1, c2⟩ := HP2.out.lp.box; clear hq hr10 ho10))
                | (go_at_call 15; (refine (HKN.out _ (HE.out.below HP2.out.lp.bel)).mono ?_; rintro e w11 ⟨rfl, rfl⟩))
                | (go_at_call 11; refine (HLa.out _ _ HP2.out.rd).mono ?_; rintro e w12 ⟨rfl, rfl⟩)
                | (go_at_call 17; refine (HLb.out _ HP2.out.rr).mono ?_; rintro e w13 ⟨rfl, m13, rfl⟩)
                | fail)
              go_roundw
              case rel => exact ⟨k + 1, q, _, hkl, by go_num, HP2.out.drewN _⟩
              case measure => simp [intOf]; omega
end Go.Proofs.YtnclpcnpaodjjaaDoor
