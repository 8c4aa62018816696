/-
  The walks of codec.number, codec.NewReader, (*codec.Reader).Num, (*codec.Reader).Left.
-/
import Derived.Test.YtnclpcnpaodjjaaDoorKnownW
import Derived.Test.YtnclpcnpaodjjaaDoorNum
namespace Go.Proofs.YtnclpcnpaodjjaaDoor
open Go.RowKit
theorem pow128 (i : Nat) : (2 : Nat) ^ (7 * i) = 128 ^ i := by rw [Nat.pow_mul]
theorem group_lt (n i : Nat) (c : UInt8) (hn : n < 128 ^ i) : n + c.toNat % 128 * 128 ^ i < 128 ^ (i + 1) := by
  have h : c.toNat % 128 + 1 ≤ 128 := by omega
  have := Nat.mul_le_mul_right (128 ^ i) h
  rw [Nat.add_mul, Nat.one_mul] at this
  rw [Nat.pow_succ, Nat.mul_comm (128 ^ i) 128]
  omega
theorem low7u8 (c : UInt8) : bits .and .u8 (c.toNat : Int) 127 = ((c.toNat % 128 : Nat) : Int) := by
  have := u8_and_nat c.toNat 127 c.toNat_lt (by omega)
  rw [nat_mask7] at this
  rw [show ((127 : Nat) : Int) = 127 from rfl] at this
  exact this
theorem w64 (x : Nat) (h : x < 9223372036854775808) : wrap64 (x : Int) = (x : Int) := by
  unfold wrap64
  omega
theorem shl_nat (x i : Nat) : ((x : Int) * 2 ^ (7 * i)) = ((x * 128 ^ i : Nat) : Int) := by
  rw [Int.natCast_mul, ← pow128, Int.natCast_pow]
  rfl
theorem lt9 (i n y : Nat) (hi : i ≤ 8) (h : n + y < 128 ^ (i + 1)) : n < 9223372036854775808 ∧ y < 9223372036854775808 := by
  have hq : 128 ^ (i + 1) ≤ 128 ^ 9 := Nat.pow_le_pow_right (by omega) (by omega)
  have hq9 : (128 : Nat) ^ 9 = 9223372036854775808 := by decide
  omega
theorem or_group (n i : Nat) (c : UInt8) (hn : n < 128 ^ i) (hi : i ≤ 8) :
    bits .or .i64 (n : Int) (wrap64 (wrap64 (bits .and .u8 (c.toNat : Int) 127) * 2 ^ (7 * i))) = ((n + c.toNat % 128 * 128 ^ i : Nat) : Int) := by
  have hlt := group_lt n i c hn
  obtain ⟨h1, h2⟩ := lt9 i n _ hi hlt
  have hmod : (c.toNat % 128 * 128 ^ i) % 2 ^ (7 * i) = 0 := by rw [pow128]; exact Nat.mul_mod_left _ _
  have hn2 : n < 2 ^ (7 * i) := by rw [pow128]; exact hn
  rw [low7u8, w64 _ (by omega), shl_nat, w64 _ h2, i64_or_nat n _ h1 h2, Nat.or_comm, nat_join (7 * i) _ n hmod hn2, Nat.add_comm]
theorem zero_group : bits .or .i64 0 (wrap64 (wrap64 (bits .and .u8 0 127))) = 0 := by
  have := or_group 0 0 0 (by simp) (by omega)
  simpa using this
/-- What number answers. -/
def numVal (xs xf : Value) : NumR → Value
  | .ok n k => .tuple #[.int .i64 n, .int .i64 k, .nilIface]
  | .form => .tuple #[.int .i64 0, .int .i64 0, xf]
  | .short => .tuple #[.int .i64 0, .int .i64 0, xs]
set_option maxRecDepth 10000 in
set_option maxHeartbeats 800000 in
theorem number_some (l : List UInt8) (b off cap : Nat) (w : World) (xs xf : Value) (hl : l.length ≤ 140737488355328)
    (hS : w.cell? ⟨5, 0, none⟩ = some xs) (hF : w.cell? ⟨13, 0, none⟩ = some xf)
    (hc : ∀ k (h : k < l.length), w.cell? ⟨b, off + k, none⟩ = some (.int .u8 (l[k].toNat : Int))) :
    Calls Tryd.prog 28 #[.slice (some ⟨b, off, none⟩) l.length cap] w fun e w' => (∃ m, w' = w.drewN m) ∧
      e = .returned (numVal xs xf (num l)) := by
  go_enter Tryd.func28, Tryd.ntmps28
  go_wp2
  go_loop [2, 9] (fun s t => ∃ i n : Nat, i ≤ l.length ∧ i ≤ 8 ∧ t = .int .i64 i ∧ s = .int .i64 n ∧ n < 128 ^ i ∧ numFrom i n (l.drop i) = num l) (fun _ t => l.length - (intOf t).toNat)
  case atStart => exact ⟨0, 0, Nat.zero_le _, Nat.zero_le _, rfl, rfl, by simp, rfl⟩
  case round =>
    obtain ⟨i, n, hi, hi8, rfl, rfl, hn, hnum⟩ := hrel
    have hp : 128 ^ i ≤ 128 ^ 8 := Nat.pow_le_pow_right (by omega) hi8
    have hn56 : n < 72057594037927936 := Nat.lt_of_lt_of_le hn (by simpa using hp)
    have HN := hid0 hn
    have HM := hid0 hnum
    clear hn hp hnum
    by_cases hlt : i < l.length
    · obtain ⟨c, hce⟩ : ∃ c, c = l[i] := ⟨_, rfl⟩
      have hck := hc i hlt
      rw [← hce] at hck
      have hc1 := c.toNat_lt
      have HC := hid0 hce
      have HD : Hid (l.drop i = c :: l.drop (i + 1)) := by show _ = _; rw [hce]; exact List.drop_eq_getElem_cons hlt
      clear hc hce
      by_cases hz : c.toNat = 0
      · by_cases hi0 : i = 0
        · subst hi0
          obtain rfl : n = 0 := by have := HN.out; simp at this; omega
          have HR : Hid (num l = .ok 0 1) := by show _ = _; rw [← HM.out, HD.out, numFrom, if_neg (by omega), if_pos (by omega), hz]
          have hzI : (c.toNat : Int) = 0 := by omega
          rw [Nat.add_zero] at hck
          have hzg := zero_group
          clear hz
          go_wp2
          go_ret3
          exact ⟨⟨0, rfl⟩, by rw [HR.out]; rfl⟩
        · have HR : Hid (num l = .form) := by show _ = _; rw [← HM.out, HD.out, numFrom, if_pos ⟨hz, by omega⟩]
          have hzI : (c.toNat : Int) = 0 := by omega
          clear hz
          go_wp2
          go_quiet ((fail))
          go_wp2
          go_ret3
          exact ⟨⟨_, rfl⟩, by rw [HR.out]; rfl⟩
      · have hzI : ((c.toNat : Int) == 0) = false := by simp; omega
        by_cases h128 : c.toNat < 128
        · have HR : Hid (num l = .ok (n + c.toNat % 128 * 128 ^ i) (i + 1)) := by show _ = _; rw [← HM.out, HD.out, numFrom, if_neg (fun h => hz h.1), if_pos h128]
          have h128I : (c.toNat : Int) < 128 := by omega
          clear hz
          go_wp2
          go_ret3
          exact ⟨⟨0, rfl⟩, by rw [HR.out, numVal, ← or_group n i c HN.out hi8]; rfl⟩
        · have h128I : ¬ (c.toNat : Int) < 128 := by omega
          by_cases h9 : i = 8
          · have HR : Hid (num l = .form) := by show _ = _; rw [← HM.out, HD.out, numFrom, if_neg (fun h => hz h.1), if_neg h128, if_pos (by omega)]
            subst h9
            clear hz
            go_wp2
            go_quiet ((fail))
            go_wp2
            go_ret3
            exact ⟨⟨_, rfl⟩, by rw [HR.out]; rfl⟩
          · have HR : Hid (numFrom (i + 1) (n + c.toNat % 128 * 128 ^ i) (l.drop (i + 1)) = num l) := by show _ = _; rw [← HM.out, HD.out, numFrom, if_neg (fun h => hz h.1), if_neg h128, if_neg (by omega)]
            clear hz
            go_wp2
            go_round
            case rel => exact ⟨i + 1, n + c.toNat % 128 * 128 ^ i, by omega, by omega, by go_num, by rw [← or_group n i c HN.out hi8], group_lt n i c HN.out, HR.out⟩
            case measure => simp [intOf]; omega
    · have HR : Hid (num l = .short) := by show _ = _; rw [← HM.out, List.drop_of_length_le (by omega)]; rfl
      clear hc
      go_wp2
      go_quiet ((fail))
      go_wp2
      go_ret3
      exact ⟨⟨_, rfl⟩, by rw [HR.out]; rfl⟩
set_option maxRecDepth 10000 in
theorem number_none (w : World) (xs xf : Value) (hS : w.cell? ⟨5, 0, none⟩ = some xs) :
    Calls Tryd.prog 28 #[.slice none 0 0] w fun e w' => (∃ m, w' = w.drewN m) ∧ e = .returned (numVal xs xf (num [])) := by
  go_enter Tryd.func28, Tryd.ntmps28
  go_wp2
  refine wp_loop_rounds 1 ?_
  rw [rounds_succ]
  go_wp2
  go_quiet ((fail))
  go_wp2
  go_ret3
  exact ⟨⟨_, rfl⟩, rfl⟩
theorem number_any (l : List UInt8) (v : Value) (w : World) (xs xf : Value) (hl : l.length ≤ 140737488355328) (hS : w.cell? ⟨5, 0, none⟩ = some xs) (hF : w.cell? ⟨13, 0, none⟩ = some xf) (hv : BytesAt w v l) :
    Calls Tryd.prog 28 #[v] w fun e w' => (∃ m, w' = w.drewN m) ∧ e = .returned (numVal xs xf (num l)) := by
  rcases hv with ⟨rfl, rfl⟩ | ⟨b, off, cap, rfl, hc⟩
  · exact number_none w xs xf hS
  · exact number_some l b off cap w xs xf hl hS hF hc
end Go.Proofs.YtnclpcnpaodjjaaDoor
