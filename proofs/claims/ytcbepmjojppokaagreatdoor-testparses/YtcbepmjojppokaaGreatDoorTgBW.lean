/-
  The walk of caesuraref4.Bare.
-/
import Derived.Test.YtcbepmjojppokaaGreatDoorTgAW
namespace Go.Proofs.YtcbepmjojppokaaGreatDoor
open Go.RowKit Go.Shelf
def noHash (c : UInt8) : Bool := c != 35
/-- Where the first hash stands, from a place on. -/
def hashAt (l : By) (j : Nat) : Nat := j + ((l.drop j).takeWhile noHash).length
theorem hashAt_end (l : By) : hashAt l l.length = l.length := by simp [hashAt]
theorem hashAt_step (l : By) (j : Nat) (c : UInt8) (h : l[j]? = some c) : hashAt l j = if c = 35 then j else hashAt l (j + 1) := by
  obtain ⟨hj, rfl⟩ := List.getElem?_eq_some_iff.1 h
  unfold hashAt
  rw [List.drop_eq_getElem_cons hj, List.takeWhile_cons]
  by_cases hc : l[j] = 35
  · rw [if_neg (by simp [noHash, hc]), if_pos hc]; rfl
  · rw [if_pos (by simpa [noHash] using hc), if_neg hc, List.length_cons]; omega
theorem hashAt_le (l : By) (j : Nat) (h : j ≤ l.length) : j ≤ hashAt l j ∧ hashAt l j ≤ l.length := by
  unfold hashAt
  have := (List.takeWhile_sublist (p := noHash) (l := l.drop j)).length_le
  rw [List.length_drop] at this
  omega
theorem bare_take (l : By) : bareOf l = trimB (l.take (hashAt l 0)) := by
  unfold bareOf hashAt
  rw [Nat.zero_add, List.drop_zero]
  congr 1
  exact scan_take noHash l
theorem tk_get (s : ByteArray) (T k : Nat) (h : k < s.size) (hk : k < T) : (s.data.toList.take T)[k]? = some s[k] := by
  rw [List.getElem?_take, if_pos hk, bget s k h]
theorem rev_drop_stop (a : By) (q : Nat) (c : UInt8) (h : a[q]? = some c) (hb : isBl c = false) : (a.take (q + 1)).reverse.dropWhile isBl = (a.take (q + 1)).reverse := by
  rw [List.take_add_one, h]
  simp [hb]
theorem rev_drop_step (a : By) (q : Nat) (c : UInt8) (h : a[q]? = some c) (hb : isBl c = true) : (a.take (q + 1)).reverse.dropWhile isBl = (a.take q).reverse.dropWhile isBl := by
  rw [List.take_add_one, h]
  simp [hb]
theorem ext_mid (s : ByteArray) (a b : Nat) : (s.extract a b).data.toList = (s.data.toList.take b).drop a := by
  rw [ByteArray.data_extract, Array.toList_extract, List.extract_eq_take_drop, List.take_drop]
  by_cases h : a ≤ b
  · rw [show a + (b - a) = b by omega]
  · rw [List.drop_of_length_le (by simp; omega), List.drop_of_length_le (by simp; omega)]
set_option maxRecDepth 10000 in
set_option maxHeartbeats 800000 in
theorem refBare_any (s : ByteArray) (hs : s.size ≤ 4194400) (w : World) : Calls Tryz.prog 18 #[.string s] w fun e w' => (∃ t : ByteArray, e = .returned (.string t) ∧ t.data.toList = bareOf s.data.toList) ∧ w' = w := by
  go_enter Tryz.func18, Tryz.ntmps18
  go_wp2
  go_loopw [3, 4] (fun v i wr => ∃ j T : Nat, j ≤ s.size ∧ i = .int .i64 ((j : Int) - 1) ∧ v = .int .i64 (T : Int) ∧ T ≤ s.size ∧ Hid (T = hashAt s.data.toList j) ∧ wr = w) (fun _ i _ => (intOf i + 1).toNat)
  case atStart => exact ⟨s.size, s.size, Nat.le_refl _, rfl, rfl, Nat.le_refl _, hid0 (by have := hashAt_end s.data.toList; rw [bsize0] at this; exact this.symm), rfl⟩
  case round =>
    obtain ⟨j, T, hj, rfl, rfl, hT, HT, rfl⟩ := hrel
    by_cases hj0 : j = 0
    · subst hj0
      have hT0 := HT.out
      obtain ⟨m, hm⟩ : ∃ m, m = s.data.toList.take T := ⟨_, rfl⟩
      have hml : m.length = T := by rw [hm, List.length_take, bsize0]; omega
      have HB : Hid (bareOf s.data.toList = trimB m) := hid0 (by rw [bare_take, ← hT0, hm])
      have hgot : ∀ k (h : k < s.size), k < T → m[k]? = some s[k] := fun k h hk => by subst hm; exact tk_get s T k h hk
      have HG := hid0 hgot
      have HL := hid0 hml
      have HM := hid0 hm
      clear hT0 HT hm hml hgot
      have e0 : ((0 : Nat) : Int) - 1 = -1 := rfl
      rw [e0]
      clear e0
      go_wp2
      go_loopw [5] (fun v wr' => ∃ k : Nat, k ≤ T ∧ v = .int .i64 (k : Int) ∧ (∀ j, j < k → ∃ c, m[j]? = some c ∧ isBl c = true) ∧ wr' = wr) (fun v _ => T - (intOf v).toNat)
      case atStart => exact ⟨0, Nat.zero_le _, rfl, fun j hj => absurd hj (Nat.not_lt_zero _), rfl⟩
      case round =>
        obtain ⟨k, hk, rfl, hall, rfl⟩ := hrel
        have HA := hid0 hall
        clear hall
        have hkI0 : (0 : Int) ≤ (k : Int) := by omega
        have fin : ∀ (hfr : m.dropWhile isBl = m.drop k), True := fun _ => trivial
        clear fin
        by_cases hlt : k < T
        · have hks : k < s.size := by omega
          have hkI : (k : Int) < (T : Int) := by omega
          have hkS : (k : Int) < (s.size : Int) := by omega
          have HC := hid0 (HG.out k hks hlt)
          have HBl := hid0 (refBlank_any s[k])
          by_cases hb : isBl s[k] = true
          · rw [hb] at HBl
            have HN : Hid (∀ j, j < k + 1 → ∃ c, m[j]? = some c ∧ isBl c = true) := hid0 (fun j hj => by
              by_cases e : j = k
              · subst e; exact ⟨_, HC.out, hb⟩
              · exact HA.out j (by omega))
            clear hb HA HC
            go_wp2_with (go_at_call 33; refine (HBl.out _).mono ?_; rintro e w1 ⟨rfl, rfl⟩)
            go_roundw
            case rel => exact ⟨k + 1, hlt, by go_num, HN.out, trivial⟩
            case measure => first | (simp [intOf]; done) | (simp [intOf]; omega)
          · have hb' : isBl s[k] = false := by simpa using hb
            rw [hb'] at HBl
            have hln : (m.takeWhile isBl).length = k := scan_end isBl m k HA.out (fun c hc => by rw [HC.out] at hc; obtain rfl := Option.some.inj hc; exact hb')
            have HD : Hid (m.dropWhile isBl = m.drop k) := hid0 (by rw [← takeWhile_len_drop, hln])
            clear hb hb' HA HC hln
            go_wp2_with (go_at_call 33; refine (HBl.out _).mono ?_; rintro e w1 ⟨rfl, rfl⟩)
            go_loopw [3] (fun v wr' => ∃ z : Nat, k ≤ z ∧ z ≤ T ∧ v = .int .i64 (z : Int) ∧ Hid (((m.drop k).take (z - k)).reverse.dropWhile isBl = (m.drop k).reverse.dropWhile isBl) ∧ wr' = w1) (fun v _ => (intOf v).toNat)
            case atStart => exact ⟨T, hk, Nat.le_refl _, rfl, hid0 (by rw [List.take_of_length_le (by rw [List.length_drop, HL.out]; omega)]), rfl⟩
            case round =>
              obtain ⟨z, hkz, hzT, rfl, HQ, rfl⟩ := hrel
              have HF : Hid (((m.drop k).take (z - k)).reverse.dropWhile isBl = ((m.drop k).take (z - k)).reverse → (s.extract k z).data.toList = bareOf s.data.toList) := hid0 (fun h1 => by
                rw [HB.out, trimB, HD.out, ← HQ.out, h1, List.reverse_reverse, ext_mid, HM.out, List.drop_take, List.drop_take, List.take_take, show min (z - k) (T - k) = z - k by omega])
              by_cases hq0 : z = k
              · subst hq0
                have HR : Hid (bareOf s.data.toList = []) := hid0 (by rw [← HF.out (by rw [Nat.sub_self]; rfl), ext_mid, List.drop_take]; simp)
                have hqI : (z : Int) ≤ (s.size : Int) := by omega
                clear HF HQ HB HM HD HG HL
                go_wp2
                go_ret
                exact ⟨⟨_, rfl, by rw [HR.out]; rfl⟩, rfl⟩
              · obtain ⟨j, rfl⟩ : ∃ j, z = j + 1 := ⟨z - 1, by omega⟩
                have hqs : j < s.size := by omega
                have hm : (m.drop k)[j - k]? = some s[j] := by rw [List.getElem?_drop, show k + (j - k) = j by omega]; exact HG.out j hqs (by omega)
                have HBq := hid0 (refBlank_any s[j])
                have e1 : ((j + 1 : Nat) : Int) = (j : Int) + 1 := by omega
                have hjI : (k : Int) < (j : Int) + 1 := by omega
                have hjI0 : (0 : Int) ≤ (j : Int) := by omega
                have hjS : (j : Int) < (s.size : Int) := by omega
                have hsub : j + 1 - k = j - k + 1 := by omega
                rw [hsub] at HQ HF
                rw [e1]
                by_cases hb : isBl s[j] = true
                · rw [hb] at HBq
                  have HN : Hid (((m.drop k).take (j - k)).reverse.dropWhile isBl = (m.drop k).reverse.dropWhile isBl) := hid0 (by rw [← HQ.out, rev_drop_step _ (j - k) _ hm hb])
                  clear hm hb HQ HF e1 hsub HB HM HD HG HL
                  go_wp2_with (go_at_call 33; refine (HBq.out _).mono ?_; rintro e w3 ⟨rfl, rfl⟩)
                  go_roundw
                  case rel => exact ⟨j, by omega, by omega, by go_num, HN, trivial⟩
                  case measure => first | (simp [intOf]; done) | (simp [intOf]; omega)
                · have hb' : isBl s[j] = false := by simpa using hb
                  rw [hb'] at HBq
                  have HR := hid0 (HF.out (rev_drop_stop _ (j - k) _ hm hb'))
                  have hjS2 : (j : Int) + 1 ≤ (s.size : Int) := by omega
                  have hkI3 : (k : Int) ≤ (j : Int) + 1 := by omega
                  clear hm hb hb' HQ HF e1 hsub HB HM HD HG HL
                  go_wp2_with (go_at_call 33; refine (HBq.out _).mono ?_; rintro e w3 ⟨rfl, rfl⟩)
                  go_ret
                  exact ⟨⟨_, rfl, HR.out⟩, rfl⟩
        · have hkI : ¬ (k : Int) < (T : Int) := by omega
          have hln : (m.takeWhile isBl).length = k := scan_end isBl m k HA.out (fun c hc => by have := (List.getElem?_eq_some_iff.1 hc).1; rw [HL.out] at this; omega)
          have HD : Hid (m.dropWhile isBl = m.drop k) := hid0 (by rw [← takeWhile_len_drop, hln])
          clear HA hln
          go_wp2
          go_loopw [3] (fun v wr' => ∃ z : Nat, k ≤ z ∧ z ≤ T ∧ v = .int .i64 (z : Int) ∧ Hid (((m.drop k).take (z - k)).reverse.dropWhile isBl = (m.drop k).reverse.dropWhile isBl) ∧ wr' = wr) (fun v _ => (intOf v).toNat)
          case atStart => exact ⟨T, hk, Nat.le_refl _, rfl, hid0 (by rw [List.take_of_length_le (by rw [List.length_drop, HL.out]; omega)]), rfl⟩
          case round =>
            obtain ⟨z, hkz, hzT, rfl, HQ, rfl⟩ := hrel
            have HF : Hid (((m.drop k).take (z - k)).reverse.dropWhile isBl = ((m.drop k).take (z - k)).reverse → (s.extract k z).data.toList = bareOf s.data.toList) := hid0 (fun h1 => by
              rw [HB.out, trimB, HD.out, ← HQ.out, h1, List.reverse_reverse, ext_mid, HM.out, List.drop_take, List.drop_take, List.take_take, show min (z - k) (T - k) = z - k by omega])
            by_cases hq0 : z = k
            · subst hq0
              have HR : Hid (bareOf s.data.toList = []) := hid0 (by rw [← HF.out (by rw [Nat.sub_self]; rfl), ext_mid, List.drop_take]; simp)
              have hqI : (z : Int) ≤ (s.size : Int) := by omega
              clear HF HQ HB HM HD HG HL
              go_wp2
              go_ret
              exact ⟨⟨_, rfl, by rw [HR.out]; rfl⟩, rfl⟩
            · obtain ⟨j, rfl⟩ : ∃ j, z = j + 1 := ⟨z - 1, by omega⟩
              have hqs : j < s.size := by omega
              have hm : (m.drop k)[j - k]? = some s[j] := by rw [List.getElem?_drop, show k + (j - k) = j by omega]; exact HG.out j hqs (by omega)
              have HBq := hid0 (refBlank_any s[j])
              have e1 : ((j + 1 : Nat) : Int) = (j : Int) + 1 := by omega
              have hjI : (k : Int) < (j : Int) + 1 := by omega
              have hjI0 : (0 : Int) ≤ (j : Int) := by omega
              have hjS : (j : Int) < (s.size : Int) := by omega
              have hsub : j + 1 - k = j - k + 1 := by omega
              rw [hsub] at HQ HF
              rw [e1]
              by_cases hb : isBl s[j] = true
              · rw [hb] at HBq
                have HN : Hid (((m.drop k).take (j - k)).reverse.dropWhile isBl = (m.drop k).reverse.dropWhile isBl) := hid0 (by rw [← HQ.out, rev_drop_step _ (j - k) _ hm hb])
                clear hm hb HQ HF e1 hsub HB HM HD HG HL
                go_wp2_with (go_at_call 33; refine (HBq.out _).mono ?_; rintro e w3 ⟨rfl, rfl⟩)
                go_roundw
                case rel => exact ⟨j, by omega, by omega, by go_num, HN, trivial⟩
                case measure => first | (simp [intOf]; done) | (simp [intOf]; omega)
              · have hb' : isBl s[j] = false := by simpa using hb
                rw [hb'] at HBq
                have HR := hid0 (HF.out (rev_drop_stop _ (j - k) _ hm hb'))
                have hjS2 : (j : Int) + 1 ≤ (s.size : Int) := by omega
                have hkI3 : (k : Int) ≤ (j : Int) + 1 := by omega
                clear hm hb hb' HQ HF e1 hsub HB HM HD HG HL
                go_wp2_with (go_at_call 33; refine (HBq.out _).mono ?_; rintro e w3 ⟨rfl, rfl⟩)
                go_ret
                exact ⟨⟨_, rfl, HR.out⟩, rfl⟩
    · obtain ⟨j', rfl⟩ : ∃ j', j = j' + 1 := ⟨j - 1, by omega⟩
      have hjs : j' < s.size := by omega
      have hjI : (0 : Int) ≤ (j' : Int) := by omega
      have hjS : (j' : Int) < (s.size : Int) := by omega
      have hst := hashAt_step s.data.toList j' _ (bget s j' hjs)
      by_cases hc : s[j'] = 35
      · have hcI : (s[j'].toNat : Int) = 35 := by rw [hc]; rfl
        rw [if_pos hc] at hst
        have HN := hid0 hst.symm
        have ej : ((j' + 1 : Nat) : Int) - 1 = (j' : Int) := by omega
        rw [ej]
        clear hst hc HT ej
        go_wp2
        go_roundw
        case rel => exact ⟨j', j', by omega, by go_num, rfl, by omega, HN, trivial⟩
        case measure => first | (simp [intOf]; done) | (simp [intOf]; omega)
      · have hcB : ((s[j'].toNat : Int) == 35) = false := by
          have h1 := u8_eq s[j'] 35 (by omega)
          rw [show UInt8.ofNat 35 = 35 from rfl, show (s[j'] == 35) = false by simpa using hc] at h1
          exact h1.symm
        rw [if_neg hc] at hst
        have HN := hid0 (HT.out.trans hst.symm)
        have ej : ((j' + 1 : Nat) : Int) - 1 = (j' : Int) := by omega
        rw [ej]
        clear hst hc HT ej
        go_wp2
        go_roundw
        case rel => exact ⟨j', T, by omega, by go_num, rfl, hT, HN, trivial⟩
        case measure => first | (simp [intOf]; done) | (simp [intOf]; omega)
end Go.Proofs.YtcbepmjojppokaaGreatDoor
