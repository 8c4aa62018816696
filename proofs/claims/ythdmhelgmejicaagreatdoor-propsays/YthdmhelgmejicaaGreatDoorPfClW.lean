/-
  The walks of propfile's small reader: need, found, isName, point, name.
-/
import Derived.Test.YthdmhelgmejicaaGreatDoorPfWhW
import Derived.Test.YthdmhelgmejicaaGreatDoorPfNmW
import Derived.Test.YthdmhelgmejicaaGreatDoorOnlyM
import Derived.Lib.AtoiErrMem
namespace Go.Proofs.YthdmhelgmejicaaGreatDoor
open Go.RowKit Go.Shelf
set_option maxRecDepth 10000 in
theorem need_ok (R : Nat) (w : World) : Calls Tryz.prog 82 #[.pointer (some ⟨R, 0, none⟩), .bool true] w fun e w' => e = .returned (.tuple #[]) ∧ w' = w := by
  go_enter Tryz.func82, Tryz.ntmps82
  go_wp2
  go_end0
  exact ⟨rfl, rfl⟩
/-- What gives up. -/
abbrev gave : Ending := .panicked [{ v := .iface 122 (.agg #[]), recovered := false }]
set_option maxRecDepth 10000 in
theorem need_no (R : Nat) (w : World) : Calls Tryz.prog 82 #[.pointer (some ⟨R, 0, none⟩), .bool false] w fun e w' => e = gave ∧ w' = w := by
  go_enter Tryz.func82, Tryz.ntmps82
  go_wp2
  exact ⟨rfl, rfl, rfl⟩
theorem need_not (R : Nat) (w : World) (b : Bool) (hb : b = false) : Calls Tryz.prog 82 #[.pointer (some ⟨R, 0, none⟩), .bool b] w fun e w' => e = gave ∧ w' = w := by
  subst hb; exact need_no R w
theorem need_yes (R : Nat) (w : World) (b : Bool) (hb : b = true) : Calls Tryz.prog 82 #[.pointer (some ⟨R, 0, none⟩), .bool b] w fun e w' => e = .returned (.tuple #[]) ∧ w' = w := by
  subst hb; exact need_ok R w
set_option maxRecDepth 10000 in
theorem found_any (s p : ByteArray) (R : Nat) (w : World) (h : Rdr w R s) :
    Calls Tryz.prog 79 #[.pointer (some ⟨R, 0, none⟩), .string p] w fun e w' => e = .returned (.bool (Lib.hasPrefix s.data.toList p.data.toList)) ∧ w' = w.setCell ⟨R, 0, none⟩ (.string ⟨(Lib.trimPrefix s.data.toList p.data.toList).toArray⟩) := by
  obtain ⟨c0, f0⟩ := h.cells
  have h1 := fun w => Any.strings_CutPrefix Tryz.lays103 s p w
  change ∀ w, Calls Tryz.prog 109 _ _ _ at h1
  generalize Lib.hasPrefix s.data.toList p.data.toList = b at h1
  generalize (⟨(Lib.trimPrefix s.data.toList p.data.toList).toArray⟩ : ByteArray) = t at h1
  clear h
  go_enter Tryz.func79, Tryz.ntmps79
  go_wp2_with (go_at_call 109; refine (h1 _).mono ?_; rintro e w1 ⟨rfl, rfl⟩)
  go_ret
  exact ⟨rfl, rfl⟩
theorem bw_only (w : World) (t : ByteArray) (S : Nat → Prop) : Only w (Lib.bytesWorld w 5 t) S := by
  exact Only.ofBelow (Lib.bytesWorld_below w 5 t) S (fun i h1 h2 => by omega)
set_option maxRecDepth 10000 in
theorem point_ok (s : ByteArray) (hs : s.size ≤ 4194400) (hok : ptOk s.data.toList = true) (R : Nat) (w : World) (h : Rdr w R s) :
    Calls Tryz.prog 78 #[.pointer (some ⟨R, 0, none⟩)] w fun e w' => e = .returned (.int .i64 (ptVal s.data.toList : Int)) ∧ Rdr w' R ⟨(s.data.toList.drop (ptLen s.data.toList)).toArray⟩ ∧ Only w w' (fun i => i = R) := by
  have hW := while_hx s hs R w h
  have hR := h.set ⟨(s.data.toList.dropWhile isHx).toArray⟩
  have hO := Only.setCell w R 0 (.string ⟨(s.data.toList.dropWhile isHx).toArray⟩)
  have e0 : s.data.toList.drop (ptLen s.data.toList) = s.data.toList.dropWhile isHx := takeWhile_len_drop _ _
  rw [e0]
  obtain ⟨t, ht⟩ : ∃ t : ByteArray, t = ⟨(s.data.toList.takeWhile isHx).toArray⟩ := ⟨_, rfl⟩
  have htl : t.data.toList = s.data.toList.takeWhile isHx := by rw [ht]
  have hts : t.size = ptLen s.data.toList := by rw [← bsize0, htl]; rfl
  have hb : 4 ≤ t.size ∧ t.size ≤ 6 := by
    rw [hts]; simpa [ptOk] using hok
  have hP := fun w => parseInt16 t (by omega) hb.2 (fun c hc => by rw [htl] at hc; exact List.all_eq_true.1 List.all_takeWhile c hc) w
  rw [htl] at hP
  rw [← ht] at hW
  have hb1 : (4 : Int) ≤ (t.size : Int) := by omega
  have hb2 : (t.size : Int) ≤ 6 := by omega
  have HP := hid0 hP
  have HR := hid0 hR
  have HO := hid0 hO
  obtain ⟨W1, hW1⟩ : ∃ W1, W1 = w.setCell ⟨R, 0, none⟩ (.string ⟨(s.data.toList.dropWhile isHx).toArray⟩) := ⟨_, rfl⟩
  rw [← hW1] at hW HR HO
  clear hok h hR hO e0 htl hts hb hP ht hW1 hs
  unfold ptVal
  go_enter Tryz.func78, Tryz.ntmps78
  go_wp2_with (first
    | (go_at_call 80; refine hW.mono ?_; rintro e w1 ⟨rfl, rfl⟩)
    | (go_at_call 82; refine (need_ok R _).mono ?_; rintro e w2 ⟨rfl, rfl⟩)
    | (go_at_call 108; refine (HP.out _).mono ?_; rintro e w3 ⟨rfl, rfl⟩)
    | fail)
  go_ret
  exact ⟨rfl, HR.out.below (Lib.bytesWorld_below _ 5 t), HO.out.trans (bw_only _ t (fun _ => False)) (fun i hi => hi.elim)⟩
set_option maxRecDepth 10000 in
theorem point_no (s : ByteArray) (hs : s.size ≤ 4194400) (hok : ptOk s.data.toList = false) (R : Nat) (w : World) (h : Rdr w R s) :
    Calls Tryz.prog 78 #[.pointer (some ⟨R, 0, none⟩)] w fun e w' => e = gave ∧ Only w w' (fun i => i = R) := by
  have hW := while_hx s hs R w h
  have hO := Only.setCell w R 0 (.string ⟨(s.data.toList.dropWhile isHx).toArray⟩)
  obtain ⟨t, ht⟩ : ∃ t : ByteArray, t = ⟨(s.data.toList.takeWhile isHx).toArray⟩ := ⟨_, rfl⟩
  have htl : t.data.toList = s.data.toList.takeWhile isHx := by rw [ht]
  have hts : t.size = ptLen s.data.toList := by rw [← bsize0, htl]; rfl
  have hb : ¬ (4 ≤ t.size ∧ t.size ≤ 6) := by
    rw [hts]
    simp only [ptOk, Bool.and_eq_false_iff, decide_eq_false_iff_not] at hok
    omega
  rw [← ht] at hW
  have HO := hid0 hO
  obtain ⟨W1, hW1⟩ : ∃ W1, W1 = w.setCell ⟨R, 0, none⟩ (.string ⟨(s.data.toList.dropWhile isHx).toArray⟩) := ⟨_, rfl⟩
  rw [← hW1] at hW HO
  clear hok h hO htl hts ht hW1 hs
  by_cases hb1 : (4 : Int) ≤ (t.size : Int)
  · have hb2 : ¬ (t.size : Int) ≤ 6 := by omega
    have HD := hid0 (decide_eq_false hb2)
    clear hb
    go_enter Tryz.func78, Tryz.ntmps78
    go_wp2_with (first
      | (go_at_call 80; refine hW.mono ?_; rintro e w1 ⟨rfl, rfl⟩)
      | (go_at_call 82; refine (need_not R _ _ HD.out).mono ?_; rintro e w2 ⟨rfl, rfl⟩)
      | fail)
    exact ⟨rfl, rfl, HO.out⟩
  · clear hb
    go_enter Tryz.func78, Tryz.ntmps78
    go_wp2_with (first
      | (go_at_call 80; refine hW.mono ?_; rintro e w1 ⟨rfl, rfl⟩)
      | (go_at_call 82; refine (need_no R _).mono ?_; rintro e w2 ⟨rfl, rfl⟩)
      | fail)
    exact ⟨rfl, rfl, HO.out⟩
set_option maxRecDepth 10000 in
set_option maxHeartbeats 800000 in
theorem isName_any (s : ByteArray) (hs : s.size ≤ 4194400) (w : World) : Calls Tryz.prog 63 #[.string s] w fun e w' => e = .returned (.bool (isNm s.data.toList)) ∧ w' = w := by
  by_cases h0 : s.size = 0
  · have hs0 : s = ⟨#[]⟩ := by
      apply ByteArray.ext
      exact Array.eq_empty_of_size_eq_zero h0
    subst hs0
    have hV : isNm (⟨#[]⟩ : ByteArray).data.toList = false := by decide
    rw [hV]
    go_enter Tryz.func63, Tryz.ntmps63
    go_wp2
    go_ret
    exact ⟨rfl, rfl⟩
  · have hemp : s.toList.isEmpty = false := by
      rw [← decide_eq_emptyBytes]
      exact decide_eq_false (fun h => h0 (by rw [h]; rfl))
    have h1 : 0 < s.size := by omega
    have HC := hid0 (bget s 0 h1)
    have HL := hid0 (isLetter_any s[0])
    by_cases h32 : (32 : Int) < (s.size : Int)
    · have HV : Hid (isNm s.data.toList = false) := hid0 (by
        rw [Bool.eq_false_iff]; intro hn; have := ((isNm_iff _).1 hn).2.1; simp at this; omega)
      go_enter Tryz.func63, Tryz.ntmps63
      go_wp2
      go_ret
      exact ⟨by rw [HV.out]; rfl, rfl⟩
    · by_cases hl : isLt s[0] = true
      · rw [hl] at HL
        go_enter Tryz.func63, Tryz.ntmps63
        go_wp2_with (go_at_call 98; refine (HL.out _).mono ?_; rintro e w1 ⟨rfl, rfl⟩)
        go_loopw [19] (fun i wr => ∃ k : Nat, k ≤ s.size ∧ i = .int .i64 (k : Int) ∧ (∀ j c, j < k → s.data.toList[j]? = some c → isNb c = true) ∧ wr = w1) (fun i _ => s.size - (intOf i).toNat)
        case atStart => exact ⟨0, Nat.zero_le _, rfl, fun j c hj => absurd hj (Nat.not_lt_zero _), rfl⟩
        case round =>
          obtain ⟨k, hk, rfl, hall, rfl⟩ := hrel
          have HA := hid0 hall
          clear hall
          by_cases hlt : k < s.size
          · have HK := hid0 (bget s k hlt)
            have HG := hid0 (isNameByte_any s[k])
            have hlI : (k : Int) < (s.size : Int) := by omega
            have hlI0 : (0 : Int) ≤ (k : Int) := by omega
            by_cases hK : isNb s[k] = true
            · have HN : Hid (∀ j c, j < k + 1 → s.data.toList[j]? = some c → isNb c = true) := hid0 (fun j c hj hc => by
                by_cases e : j = k
                · subst e; rw [HK.out] at hc; obtain rfl := Option.some.inj hc; exact hK
                · exact HA.out j c (by omega) hc)
              rw [hK] at HG
              clear hK HA HK
              go_wp2_with (go_at_call 99; refine (HG.out _).mono ?_; rintro e w2 ⟨rfl, rfl⟩)
              go_roundw
              case rel => exact ⟨k + 1, hlt, by go_num, HN.out, trivial⟩
              case measure => simp [intOf]; omega
            · have hK' : isNb s[k] = false := by simpa using hK
              rw [hK'] at HG
              have HV : Hid (isNm s.data.toList = false) := hid0 (by
                apply isNm_bad _ k _ HK.out
                simp only [gd, Bool.or_eq_false_iff, Bool.and_eq_false_iff]
                refine ⟨?_, .inr hK'⟩
                simp only [isNb, Bool.or_eq_false_iff] at hK'
                exact hK'.1.1)
              clear hK hK' HA HK
              go_wp2_with (go_at_call 99; refine (HG.out _).mono ?_; rintro e w2 ⟨rfl, rfl⟩)
              go_ret
              exact ⟨by rw [HV.out]; rfl, rfl⟩
          · have hkI : ¬ (k : Int) < (s.size : Int) := by omega
            have HV : Hid (isNm s.data.toList = true) := hid0 ((isNm_iff _).2 ⟨by simp; omega, by simp; omega, fun j c hc => by
              cases j with
              | zero => rw [HC.out] at hc; obtain rfl := Option.some.inj hc; simp [gd, hl]
              | succ j => simp [gd, HA.out (j + 1) c (by have := (List.getElem?_eq_some_iff.1 hc).1; simp at this; omega) hc]⟩)
            go_wp2
            go_ret
            exact ⟨by rw [HV.out]; rfl, rfl⟩
      · have hl' : isLt s[0] = false := by simpa using hl
        rw [hl'] at HL
        have HV : Hid (isNm s.data.toList = false) := hid0 (isNm_bad _ 0 _ HC.out (by simp [gd, hl']))
        go_enter Tryz.func63, Tryz.ntmps63
        go_wp2_with (go_at_call 98; refine (HL.out _).mono ?_; rintro e w1 ⟨rfl, rfl⟩)
        go_ret
        exact ⟨by rw [HV.out]; rfl, rfl⟩
end Go.Proofs.YthdmhelgmejicaaGreatDoor
