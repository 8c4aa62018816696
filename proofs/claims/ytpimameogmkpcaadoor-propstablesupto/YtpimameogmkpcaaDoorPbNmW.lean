/-
  The walks of props.isLetter, isDigit, isName.
-/
import Derived.Test.YtpimameogmkpcaaDoorPbBW
import Derived.Laws.IdiomStrings
import Derived.Laws.BytesString
import Derived.Lib.Strings
namespace Go.Proofs.YtpimameogmkpcaaDoor
open Go.RowKit
abbrev By := List UInt8
def isLt (c : UInt8) : Bool := (decide (65 ≤ c.toNat) && decide (c.toNat ≤ 90)) || (decide (97 ≤ c.toNat) && decide (c.toNat ≤ 122))
def isDg (c : UInt8) : Bool := decide (48 ≤ c.toNat) && decide (c.toNat ≤ 57)
def isNb (c : UInt8) : Bool := isLt c || isDg c || c == 95
/-- A name. -/
def isNm (l : By) : Bool := decide (1 ≤ l.length) && decide (l.length ≤ 32) && (l.head?.any isLt) && l.all isNb
theorem bsize0 (s : ByteArray) : s.data.toList.length = s.size := by simp
theorem bget (s : ByteArray) (k : Nat) (h : k < s.size) : s.data.toList[k]? = some s[k] := by
  rw [List.getElem?_eq_getElem (by simpa using h)]; rfl
def gd (j : Nat) (c : UInt8) : Bool := isLt c || (decide (j ≠ 0) && isNb c)
theorem isNm_iff (l : By) : isNm l = true ↔ 1 ≤ l.length ∧ l.length ≤ 32 ∧ ∀ j c, l[j]? = some c → gd j c = true := by
  cases l with
  | nil => simp [isNm]
  | cons a r =>
    simp only [isNm, List.head?_cons, Option.any_some, Bool.and_eq_true, decide_eq_true_eq, List.all_eq_true]
    constructor
    · rintro ⟨⟨⟨h1, h2⟩, h3⟩, h4⟩
      refine ⟨h1, h2, fun j c hc => ?_⟩
      cases j with
      | zero => simp at hc; subst hc; simp [gd, h3]
      | succ j => simp [gd, h4 c (List.mem_of_getElem? hc)]
    · rintro ⟨h1, h2, h3⟩
      have h0 : isLt a = true := by have := h3 0 a (by simp); simpa [gd] using this
      refine ⟨⟨⟨h1, h2⟩, h0⟩, fun c hc => ?_⟩
      obtain ⟨j, hj, e⟩ := List.getElem_of_mem hc
      have := h3 j c (by rw [List.getElem?_eq_getElem hj, e])
      simp only [gd, Bool.or_eq_true, Bool.and_eq_true] at this
      rcases this with h | h
      · simp [isNb, h]
      · exact h.2
theorem isNm_bad (l : By) (j : Nat) (c : UInt8) (hc : l[j]? = some c) (h : gd j c = false) : isNm l = false := by
  rw [Bool.eq_false_iff]
  intro hn
  have := ((isNm_iff l).1 hn).2.2 j c hc
  rw [h] at this
  simp at this
theorem isLt_int (c : UInt8) (x : Int) (hx : (c.toNat : Int) = x) : isLt c = ((decide (65 ≤ x) && decide (x ≤ 90)) || (decide (97 ≤ x) && decide (x ≤ 122))) := by
  subst hx
  rw [Bool.eq_iff_iff]
  simp only [isLt, Bool.or_eq_true, Bool.and_eq_true, decide_eq_true_eq]
  omega
theorem isDg_int (c : UInt8) (x : Int) (hx : (c.toNat : Int) = x) : isDg c = (decide (48 ≤ x) && decide (x ≤ 57)) := by
  subst hx
  rw [Bool.eq_iff_iff]
  simp only [isDg, Bool.and_eq_true, decide_eq_true_eq]
  omega
set_option maxRecDepth 10000 in
set_option maxHeartbeats 800000 in
theorem isLetter_any (c : UInt8) (w : World) : Calls Tryd.prog 48 #[.int .u8 (c.toNat : Int)] w fun e w' => e = .returned (.bool (isLt c)) ∧ w' = w := by
  rw [isLt_int c _ rfl]
  have h0 : (0 : Int) ≤ (c.toNat : Int) := by omega
  generalize (c.toNat : Int) = x at h0
  by_cases a0 : 65 ≤ x <;> by_cases a1 : x ≤ 90 <;> by_cases a2 : 97 ≤ x <;> by_cases a3 : x ≤ 122 <;> first
    | (exfalso; omega)
    | (have hb : ((decide (65 ≤ x) && decide (x ≤ 90)) || (decide (97 ≤ x) && decide (x ≤ 122))) = true := by
         simp only [Bool.or_eq_true, Bool.and_eq_true, decide_eq_true_eq]; omega
       rw [hb]
       clear hb
       go_enter Tryd.func48, Tryd.ntmps48
       go_wp2
       go_ret
       exact ⟨rfl, rfl⟩)
    | (have hb : ((decide (65 ≤ x) && decide (x ≤ 90)) || (decide (97 ≤ x) && decide (x ≤ 122))) = false := by
         rw [Bool.eq_false_iff]; simp only [ne_eq, Bool.or_eq_true, Bool.and_eq_true, decide_eq_true_eq]; omega
       rw [hb]
       clear hb
       go_enter Tryd.func48, Tryd.ntmps48
       go_wp2
       go_ret
       exact ⟨rfl, rfl⟩)
set_option maxRecDepth 10000 in
set_option maxHeartbeats 800000 in
theorem isDigit_any (c : UInt8) (w : World) : Calls Tryd.prog 49 #[.int .u8 (c.toNat : Int)] w fun e w' => e = .returned (.bool (isDg c)) ∧ w' = w := by
  rw [isDg_int c _ rfl]
  have h0 : (0 : Int) ≤ (c.toNat : Int) := by omega
  generalize (c.toNat : Int) = x at h0
  by_cases a0 : 48 ≤ x <;> by_cases a1 : x ≤ 57 <;> first
    | (exfalso; omega)
    | (have hb : (decide (48 ≤ x) && decide (x ≤ 57)) = true := by
         simp only [Bool.and_eq_true, decide_eq_true_eq]; omega
       rw [hb]
       clear hb
       go_enter Tryd.func49, Tryd.ntmps49
       go_wp2
       go_ret
       exact ⟨rfl, rfl⟩)
    | (have hb : (decide (48 ≤ x) && decide (x ≤ 57)) = false := by
         rw [Bool.eq_false_iff]; simp only [ne_eq, Bool.and_eq_true, decide_eq_true_eq]; omega
       rw [hb]
       clear hb
       go_enter Tryd.func49, Tryd.ntmps49
       go_wp2
       go_ret
       exact ⟨rfl, rfl⟩)
set_option maxRecDepth 10000 in
set_option maxHeartbeats 800000 in
theorem isName_any (s : ByteArray) (hs : s.size ≤ 1000000000000) (w : World) : Calls Tryd.prog 40 #[.string s] w fun e w' => e = .returned (.bool (isNm s.data.toList)) ∧ w' = w := by
  by_cases h0 : s.size = 0
  · have hs0 : s = ⟨#[]⟩ := by
      apply ByteArray.ext
      exact Array.eq_empty_of_size_eq_zero h0
    subst hs0
    have hV : isNm (⟨#[]⟩ : ByteArray).data.toList = false := by decide
    rw [hV]
    go_enter Tryd.func40, Tryd.ntmps40
    go_wp2
    go_ret
    exact ⟨rfl, rfl⟩
  · have hemp : s.toList.isEmpty = false := by
      rw [← decide_eq_emptyBytes]
      exact decide_eq_false (fun h => h0 (by rw [h]; rfl))
    have h1 : 0 < s.size := by omega
    have HC := hid0 (bget s 0 h1)
    have HL := hid0 (isLetter_any s[0])
    by_cases h32 : (32 : Int) < (s.size : Int)
    · have HV : Hid (isNm s.data.toList = false) := hid0 (by
        rw [Bool.eq_false_iff]; intro hn; have := ((isNm_iff _).1 hn).2.1; simp at this; omega)
      go_enter Tryd.func40, Tryd.ntmps40
      go_wp2
      go_ret
      exact ⟨by rw [HV.out]; rfl, rfl⟩
    · by_cases hl : isLt s[0] = true
      · rw [hl] at HL
        go_enter Tryd.func40, Tryd.ntmps40
        go_wp2_with (go_at_call 48; refine (HL.out _).mono ?_; rintro e w1 ⟨rfl, rfl⟩)
        go_loopw [19] (fun i wr => ∃ k : Nat, k ≤ s.size ∧ i = .int .i64 (k : Int) ∧ (∀ j c, j < k → s.data.toList[j]? = some c → isNb c = true) ∧ wr = w1) (fun i _ => s.size - (intOf i).toNat)
        case atStart => exact ⟨0, Nat.zero_le _, rfl, fun j c hj => absurd hj (Nat.not_lt_zero _), rfl⟩
        case round =>
          obtain ⟨k, hk, rfl, hall, rfl⟩ := hrel
          have HA := hid0 hall
          clear hall
          by_cases hlt : k < s.size
          · have HK := hid0 (bget s k hlt)
            have HG := hid0 (isLetter_any s[k])
            have HG2 := hid0 (isDigit_any s[k])
            have hlI : (k : Int) < (s.size : Int) := by omega
            have hlI0 : (0 : Int) ≤ (k : Int) := by omega
            by_cases hK : isNb s[k] = true
            · have HN : Hid (∀ j c, j < k + 1 → s.data.toList[j]? = some c → isNb c = true) := hid0 (fun j c hj hc => by
                by_cases e : j = k
                · subst e; rw [HK.out] at hc; obtain rfl := Option.some.inj hc; exact hK
                · exact HA.out j c (by omega) hc)
              by_cases b1 : isLt s[k] = true
              · rw [b1] at HG
                clear hK HA HK b1
                go_wp2_with (first | (go_at_call 48; refine (HG.out _).mono ?_; rintro e w2 ⟨rfl, rfl⟩) | (go_at_call 49; refine (HG2.out _).mono ?_; rintro e w2 ⟨rfl, rfl⟩))
                go_roundw
                case rel => exact ⟨k + 1, hlt, by go_num, HN.out, trivial⟩
                case measure => simp [intOf]; omega
              · have b1' : isLt s[k] = false := by simpa using b1
                rw [b1'] at HG
                by_cases b2 : isDg s[k] = true
                · rw [b2] at HG2
                  clear hK HA HK b1 b1' b2
                  go_wp2_with (first | (go_at_call 48; refine (HG.out _).mono ?_; rintro e w2 ⟨rfl, rfl⟩) | (go_at_call 49; refine (HG2.out _).mono ?_; rintro e w2 ⟨rfl, rfl⟩))
                  go_roundw
                  case rel => exact ⟨k + 1, hlt, by go_num, HN.out, trivial⟩
                  case measure => simp [intOf]; omega
                · have b2' : isDg s[k] = false := by simpa using b2
                  rw [b2'] at HG2
                  have h95 : ((s[k].toNat : Int) == 95) = true := by
                    simp only [isNb, b1', b2', Bool.false_or, beq_iff_eq] at hK
                    rw [hK]; rfl
                  clear hK HA HK b1 b1' b2 b2'
                  go_wp2_with (first | (go_at_call 48; refine (HG.out _).mono ?_; rintro e w2 ⟨rfl, rfl⟩) | (go_at_call 49; refine (HG2.out _).mono ?_; rintro e w2 ⟨rfl, rfl⟩))
                  go_roundw
                  case rel => exact ⟨k + 1, hlt, by go_num, HN.out, trivial⟩
                  case measure => simp [intOf]; omega
            · have hK' : isNb s[k] = false := by simpa using hK
              have hK2 := hK'
              simp only [isNb, Bool.or_eq_false_iff] at hK2
              have b1 : isLt s[k] = false := hK2.1.1
              have b2 : isDg s[k] = false := hK2.1.2
              have h95 : ((s[k].toNat : Int) == 95) = false := by
                have h3 := hK2.2
                rw [beq_eq_false_iff_ne] at h3 ⊢
                intro e
                exact h3 (UInt8.toNat_inj.1 (by have : (95 : UInt8).toNat = 95 := rfl; omega))
              rw [b1] at HG
              rw [b2] at HG2
              clear hK2 b1 b2
              have HV : Hid (isNm s.data.toList = false) := hid0 (by
                apply isNm_bad _ k _ HK.out
                simp only [gd, Bool.or_eq_false_iff, Bool.and_eq_false_iff]
                refine ⟨?_, .inr hK'⟩
                simp only [isNb, Bool.or_eq_false_iff] at hK'
                exact hK'.1.1)
              clear hK hK' HA HK
              go_wp2_with (first | (go_at_call 48; refine (HG.out _).mono ?_; rintro e w2 ⟨rfl, rfl⟩) | (go_at_call 49; refine (HG2.out _).mono ?_; rintro e w2 ⟨rfl, rfl⟩))
              go_ret
              exact ⟨by rw [HV.out]; rfl, rfl⟩
          · have hkI : ¬ (k : Int) < (s.size : Int) := by omega
            have HV : Hid (isNm s.data.toList = true) := hid0 ((isNm_iff _).2 ⟨by simp; omega, by simp; omega, fun j c hc => by
              cases j with
              | zero => rw [HC.out] at hc; obtain rfl := Option.some.inj hc; simp [gd, hl]
              | succ j => simp [gd, HA.out (j + 1) c (by have := (List.getElem?_eq_some_iff.1 hc).1; simp at this; omega) hc]⟩)
            go_wp2
            go_ret
            exact ⟨by rw [HV.out]; rfl, rfl⟩
      · have hl' : isLt s[0] = false := by simpa using hl
        rw [hl'] at HL
        have HV : Hid (isNm s.data.toList = false) := hid0 (isNm_bad _ 0 _ HC.out (by simp [gd, hl']))
        go_enter Tryd.func40, Tryd.ntmps40
        go_wp2_with (go_at_call 48; refine (HL.out _).mono ?_; rintro e w1 ⟨rfl, rfl⟩)
        go_ret
        exact ⟨by rw [HV.out]; rfl, rfl⟩
end Go.Proofs.YtpimameogmkpcaaDoor
