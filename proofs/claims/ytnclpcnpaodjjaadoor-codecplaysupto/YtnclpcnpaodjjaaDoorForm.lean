/-
  The plain mathematics of a number's form (nothing of the dump).
-/
import Derived.Laws.BitsAllLaws
namespace Go.Proofs.YtnclpcnpaodjjaaDoor
/-- The form of a number, in at most f + 1 bytes. -/
def form : Nat → Nat → List UInt8
  | 0, n => [UInt8.ofNat n]
  | f + 1, n => if n < 128 then [UInt8.ofNat n] else UInt8.ofNat (n % 128 + 128) :: form f (n / 128)
theorem form_small (f n : Nat) (h : n < 128) : form f n = [UInt8.ofNat n] := by
  cases f with
  | zero => rfl
  | succ f => rw [form, if_pos h]
theorem form_big (f n : Nat) (h : ¬ n < 128) : form (f + 1) n = UInt8.ofNat (n % 128 + 128) :: form f (n / 128) := by rw [form, if_neg h]
theorem form_length (f n : Nat) : 1 ≤ (form f n).length ∧ (form f n).length ≤ f + 1 := by
  induction f generalizing n with
  | zero => simp [form]
  | succ f ih =>
    rw [form]
    split
    · simp
    · have := ih (n / 128); simp; omega
theorem i64_wrap_nat (x : Nat) (h : x < 9223372036854775808) : IntKind.i64.wrap (x : Int) = x := by
  simp [IntKind.wrap, IntKind.bits, IntKind.signed]
  omega
theorem i64_and_nat (a b : Nat) (ha : a < 9223372036854775808) (hb : b < 9223372036854775808) : bits .and .i64 (a : Int) (b : Int) = ((a &&& b : Nat) : Int) := by
  have hx : a &&& b < 2 ^ 63 := Nat.and_lt_two_pow _ (by omega)
  show IntKind.i64.wrap ((BitVec.ofInt 64 (a : Int) &&& BitVec.ofInt 64 (b : Int)).toNat : Int) = _
  rw [BitVec.toNat_and, ofInt_u64 a (by omega), ofInt_u64 b (by omega)]
  exact i64_wrap_nat _ (by omega)
theorem i64_or_nat (a b : Nat) (ha : a < 9223372036854775808) (hb : b < 9223372036854775808) : bits .or .i64 (a : Int) (b : Int) = ((a ||| b : Nat) : Int) := by
  have hx : a ||| b < 2 ^ 63 := Nat.or_lt_two_pow (by omega) (by omega)
  show IntKind.i64.wrap ((BitVec.ofInt 64 (a : Int) ||| BitVec.ofInt 64 (b : Int)).toNat : Int) = _
  rw [BitVec.toNat_or, ofInt_u64 a (by omega), ofInt_u64 b (by omega)]
  exact i64_wrap_nat _ (by omega)
theorem low7 (m : Nat) (h : m < 9223372036854775808) : bits .and .i64 (m : Int) 127 = (m : Int) % 128 := by
  have := i64_and_nat m 127 h (by omega)
  rw [nat_mask7] at this
  rw [show ((127 : Nat) : Int) = 127 from rfl] at this
  rw [this]; omega
theorem high8 (m : Nat) : bits .or .i64 ((m : Int) % 128) 128 = (m : Int) % 128 + 128 := by
  have := i64_or_nat (m % 128) 128 (by omega) (by omega)
  rw [Nat.or_comm, nat_join 7 128 (m % 128) (by decide) (by omega)] at this
  rw [show ((128 : Nat) : Int) = 128 from rfl] at this
  have e : ((m % 128 : Nat) : Int) = (m : Int) % 128 := by omega
  rw [e] at this
  rw [this]; omega
theorem u8_toNat (x : Nat) (h : x < 256) : ((UInt8.ofNat x).toNat : Int) = (x : Int) := by rw [UInt8.toNat_ofNat']; omega
end Go.Proofs.YtnclpcnpaodjjaaDoor
