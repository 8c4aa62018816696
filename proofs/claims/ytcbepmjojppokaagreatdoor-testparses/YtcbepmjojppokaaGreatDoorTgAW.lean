/-
  The walks of caesuraref4.blank, digit, Point, IsName.
-/
import Derived.Test.YtcbepmjojppokaaGreatDoorPfM
import Derived.Test.YtcbepmjojppokaaGreatDoorMrBW
import Derived.Laws.IdiomStrings
import Derived.Laws.BytesString
namespace Go.Proofs.YtcbepmjojppokaaGreatDoor
open Go.RowKit
theorem u8_eq (c : UInt8) (n : Nat) (hn : n < 256) : (c == UInt8.ofNat n) = ((c.toNat : Int) == (n : Int)) := by
  rw [Bool.eq_iff_iff]
  simp only [beq_iff_eq]
  constructor
  · rintro rfl
    rw [UInt8.toNat_ofNat']; omega
  · intro h
    apply UInt8.toNat_inj.1
    rw [UInt8.toNat_ofNat']; omega
theorem isBl_int (c : UInt8) : isBl c = (decide ((c.toNat : Int) = 32) || decide ((c.toNat : Int) = 9)) := by
  unfold isBl
  rw [show (32 : UInt8) = UInt8.ofNat 32 from rfl, show (9 : UInt8) = UInt8.ofNat 9 from rfl, u8_eq c 32 (by omega), u8_eq c 9 (by omega)]
  rfl
set_option maxRecDepth 10000 in
theorem refBlank_any (c : UInt8) (w : World) : Calls Tryz.prog 33 #[.int .u8 (c.toNat : Int)] w fun e w' => e = .returned (.bool (isBl c)) ∧ w' = w := by
  rw [isBl_int]
  generalize (c.toNat : Int) = x
  by_cases h1 : x = 32 <;> by_cases h2 : x = 9 <;>
    (go_enter Tryz.func33, Tryz.ntmps33
     go_wp2
     go_ret
     exact ⟨by simp [h1, h2], rfl⟩)
/-- What digit answers. -/
def digV (c : UInt8) : Int := if isHx c then (hxv c : Int) else -1
def digZ (x : Int) : Int := if 48 ≤ x ∧ x ≤ 57 then x - 48 else if 65 ≤ x ∧ x ≤ 70 then x - 65 + 10 else if 97 ≤ x ∧ x ≤ 102 then x - 97 + 10 else -1
theorem digV_eq (c : UInt8) : digV c = digZ (c.toNat : Int) := by
  unfold digV digZ isHx hxv isDg
  simp only [Bool.or_eq_true, Bool.and_eq_true, decide_eq_true_eq]
  (repeat' split) <;> omega
set_option maxRecDepth 10000 in
theorem refDigit_any (c : UInt8) (w : World) : Calls Tryz.prog 53 #[.int .u8 (c.toNat : Int)] w fun e w' => e = .returned (.int .i64 (digV c)) ∧ w' = w := by
  have hlt : (c.toNat : Int) < 256 := by have := c.toNat_lt; omega
  have hge : 0 ≤ (c.toNat : Int) := by omega
  rw [digV_eq]
  generalize (c.toNat : Int) = x at hlt hge
  by_cases a1 : 48 ≤ x <;> by_cases a2 : x ≤ 57 <;> by_cases a3 : 65 ≤ x <;> by_cases a4 : x ≤ 70 <;> by_cases a5 : 97 ≤ x <;> by_cases a6 : x ≤ 102 <;> first
    | (exfalso; omega)
    | (go_enter Tryz.func53, Tryz.ntmps53
       go_wp2
       go_ret
       refine ⟨?_, rfl⟩
       unfold digZ
       (repeat' split) <;> first | rfl | (exfalso; omega))
/-- The digits at the beginning, as Point answers them. -/
def ptV (s : By) : Nat := if ptOk s then ptVal s else 0
def ptK (s : By) : Nat := if ptOk s then ptLen s else 0
theorem bsize0 (s : ByteArray) : s.data.toList.length = s.size := by simp
theorem bget (s : ByteArray) (k : Nat) (h : k < s.size) : s.data.toList[k]? = some s[k] := by
  rw [List.getElem?_eq_getElem (by simpa using h)]; rfl
set_option maxRecDepth 10000 in
set_option maxHeartbeats 800000 in
theorem refPoint_any (s : ByteArray) (hs : s.size ≤ 4194400) (w : World) : Calls Tryz.prog 35 #[.string s] w fun e w' => e = .returned (.tuple #[.int .i64 (ptV s.data.toList : Int), .int .i64 (ptK s.data.toList : Int)]) ∧ w' = w := by
  go_enter Tryz.func35, Tryz.ntmps35
  go_wp2
  go_loopw [4, 5] (fun n i wr => ∃ k : Nat, k ≤ s.size ∧ i = .int .i64 (k : Int) ∧ n = .int .i64 (hexN (s.data.toList.take (min k 7)) : Int) ∧ (∀ j, j < k → ∃ c, s.data.toList[j]? = some c ∧ isHx c = true) ∧ wr = w) (fun _ i _ => s.size - (intOf i).toNat)
  case atStart => exact ⟨0, Nat.zero_le _, rfl, rfl, fun j hj => absurd hj (Nat.not_lt_zero _), rfl⟩
  case round =>
    obtain ⟨k, hk, rfl, rfl, hall, rfl⟩ := hrel
    by_cases hlt : k < s.size
    · have hc := bget s k hlt
      have hd := refDigit_any s[k]
      have HC := hid0 hc
      have HA := hid0 hall
      clear hall hc
      by_cases hx : isHx s[k] = true
      · have e1 : digV s[k] = (hxv s[k] : Int) := by rw [digV, if_pos hx]
        have hv := hxv_lt _ hx
        have HX := hid0 hx
        rw [e1] at hd
        clear hx e1
        have HD := hid0 hd
        clear hd
        have HN : Hid (∀ j, j < k + 1 → ∃ c, s.data.toList[j]? = some c ∧ isHx c = true) := hid0 (fun j hj => by
          by_cases e : j = k
          · subst e; exact ⟨_, HC.out, HX.out⟩
          · exact HA.out j (by omega))
        by_cases h7 : k < 7
        · have hle : hexN (s.data.toList.take k) < 16 ^ 7 := by
            have h1 := hexN_lt (s.data.toList.take k) (fun c hc => by
              obtain ⟨j, hj, e⟩ := List.getElem_of_mem hc
              simp at hj
              obtain ⟨c', h2, h3⟩ := HA.out j (by omega)
              rw [List.getElem_take] at e
              rw [List.getElem?_eq_getElem (by simp; omega)] at h2
              rw [← e, Option.some.inj h2]; exact h3)
            have h2 : 16 ^ (s.data.toList.take k).length ≤ 16 ^ 7 := Nat.pow_le_pow_right (by omega) (by simp; omega)
            omega
          have e7 : min k 7 = k := by omega
          have e8 : s.data.toList.take (min (k + 1) 7) = s.data.toList.take k ++ [s[k]] := by
            rw [show min (k + 1) 7 = k + 1 by omega, List.take_add_one, HC.out]; rfl
          have HE : Hid (hexN (s.data.toList.take (min (k + 1) 7)) = 16 * hexN (s.data.toList.take k) + hxv s[k]) := hid0 (by rw [e8, hexN_snoc])
          rw [e7]
          clear e7 e8
          generalize hexN (s.data.toList.take k) = q at hle HE
          generalize hxv s[k] = m at HD hv HE
          have h7I : (k : Int) < 7 := by omega
          have hqI : (q : Int) < 268435456 := by omega
          have hmI : (m : Int) < 16 := by omega
          clear hle
          go_wp2_with (go_at_call 53; refine (HD.out _).mono ?_; rintro e w1 ⟨rfl, rfl⟩)
          go_roundw
          case rel => exact ⟨k + 1, hlt, by go_num, by rw [HE.out]; go_num, HN.out, trivial⟩
          case measure => simp [intOf]; omega
        · have h7I : ¬ (k : Int) < 7 := by omega
          have HE : Hid (min (k + 1) 7 = min k 7) := hid0 (by omega)
          generalize hxv s[k] = m at HD hv
          obtain ⟨q, hq⟩ : ∃ q, hexN (s.data.toList.take (min k 7)) = q := ⟨_, rfl⟩
          have HQ := hid0 hq
          rw [hq]
          clear hq
          go_wp2_with (go_at_call 53; refine (HD.out _).mono ?_; rintro e w1 ⟨rfl, rfl⟩)
          go_roundw
          case rel => exact ⟨k + 1, hlt, by go_num, by rw [HE.out, HQ.out], HN.out, trivial⟩
          case measure => simp [intOf]; omega
      · have e1 : digV s[k] = -1 := by rw [digV, if_neg hx]
        rw [e1] at hd
        have HD := hid0 hd
        clear hd e1
        have hln : ptLen s.data.toList = k := scan_end isHx _ k HA.out (fun c hc' => by rw [HC.out] at hc'; obtain rfl := Option.some.inj hc'; simpa using hx)
        have hvl : ptVal s.data.toList = hexN (s.data.toList.take k) := by rw [ptVal, scan_take isHx, show (s.data.toList.takeWhile isHx).length = k from hln]
        by_cases h4 : k < 4
        · have hV : Hid (ptV s.data.toList = 0 ∧ ptK s.data.toList = 0) := hid0 (by simp [ptV, ptK, ptOk, hln]; omega)
          have h4I : (k : Int) < 4 := by omega
          clear hln hvl
          obtain ⟨q, hq⟩ : ∃ q, hexN (s.data.toList.take (min k 7)) = q := ⟨_, rfl⟩
          rw [hq]
          clear hq
          go_wp2_with (go_at_call 53; refine (HD.out _).mono ?_; rintro e w1 ⟨rfl, rfl⟩)
          go_ret2
          exact ⟨by rw [hV.out.1, hV.out.2]; rfl, rfl⟩
        · have h4I : ¬ (k : Int) < 4 := by omega
          by_cases h6 : 6 < k
          · have hV : Hid (ptV s.data.toList = 0 ∧ ptK s.data.toList = 0) := hid0 (by simp [ptV, ptK, ptOk, hln]; omega)
            have h6I : (6 : Int) < (k : Int) := by omega
            clear hln hvl
            obtain ⟨q, hq⟩ : ∃ q, hexN (s.data.toList.take (min k 7)) = q := ⟨_, rfl⟩
            rw [hq]
            clear hq
            go_wp2_with (go_at_call 53; refine (HD.out _).mono ?_; rintro e w1 ⟨rfl, rfl⟩)
            go_ret2
            exact ⟨by rw [hV.out.1, hV.out.2]; rfl, rfl⟩
          · have hV : Hid (ptV s.data.toList = hexN (s.data.toList.take (min k 7)) ∧ ptK s.data.toList = k) := hid0 (by
              have hok : ptOk s.data.toList = true := by simp [ptOk, hln]; omega
              rw [ptV, ptK, if_pos hok, if_pos hok, hvl, hln, show min k 7 = k by omega]; exact ⟨rfl, rfl⟩)
            have h6I : ¬ (6 : Int) < (k : Int) := by omega
            clear hln hvl
            obtain ⟨q, hq⟩ : ∃ q, hexN (s.data.toList.take (min k 7)) = q := ⟨_, rfl⟩
            rw [hq] at hV ⊢
            clear hq
            go_wp2_with (go_at_call 53; refine (HD.out _).mono ?_; rintro e w1 ⟨rfl, rfl⟩)
            go_ret2
            exact ⟨by rw [hV.out.1, hV.out.2]; rfl, rfl⟩
    · have hkI : ¬ (k : Int) < (s.size : Int) := by omega
      have hln : ptLen s.data.toList = k := scan_end isHx _ k hall (fun c hc' => by have := (List.getElem?_eq_some_iff.1 hc').1; simp at this; omega)
      have hvl : ptVal s.data.toList = hexN (s.data.toList.take k) := by rw [ptVal, scan_take isHx, show (s.data.toList.takeWhile isHx).length = k from hln]
      by_cases h4 : k < 4
      · have hV : Hid (ptV s.data.toList = 0 ∧ ptK s.data.toList = 0) := hid0 (by simp [ptV, ptK, ptOk, hln]; omega)
        have h4I : (k : Int) < 4 := by omega
        clear hln hvl
        obtain ⟨q, hq⟩ : ∃ q, hexN (s.data.toList.take (min k 7)) = q := ⟨_, rfl⟩
        rw [hq]
        clear hq
        go_wp2
        go_ret2
        exact ⟨by rw [hV.out.1, hV.out.2]; rfl, rfl⟩
      · have h4I : ¬ (k : Int) < 4 := by omega
        by_cases h6 : 6 < k
        · have hV : Hid (ptV s.data.toList = 0 ∧ ptK s.data.toList = 0) := hid0 (by simp [ptV, ptK, ptOk, hln]; omega)
          have h6I : (6 : Int) < (k : Int) := by omega
          clear hln hvl
          obtain ⟨q, hq⟩ : ∃ q, hexN (s.data.toList.take (min k 7)) = q := ⟨_, rfl⟩
          rw [hq]
          clear hq
          go_wp2
          go_ret2
          exact ⟨by rw [hV.out.1, hV.out.2]; rfl, rfl⟩
        · have hV : Hid (ptV s.data.toList = hexN (s.data.toList.take (min k 7)) ∧ ptK s.data.toList = k) := hid0 (by
            have hok : ptOk s.data.toList = true := by simp [ptOk, hln]; omega
            rw [ptV, ptK, if_pos hok, if_pos hok, hvl, hln, show min k 7 = k by omega]; exact ⟨rfl, rfl⟩)
          have h6I : ¬ (6 : Int) < (k : Int) := by omega
          clear hln hvl
          obtain ⟨q, hq⟩ : ∃ q, hexN (s.data.toList.take (min k 7)) = q := ⟨_, rfl⟩
          rw [hq] at hV ⊢
          clear hq
          go_wp2
          go_ret2
          exact ⟨by rw [hV.out.1, hV.out.2]; rfl, rfl⟩
end Go.Proofs.YtcbepmjojppokaaGreatDoor
