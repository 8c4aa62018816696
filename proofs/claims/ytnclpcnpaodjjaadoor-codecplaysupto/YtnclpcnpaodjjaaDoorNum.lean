/-
  The plain mathematics of reading a number (nothing of the dump).
-/
import Derived.Test.YtnclpcnpaodjjaaDoorForm
namespace Go.Proofs.YtnclpcnpaodjjaaDoor
/-- What reading a number comes to. -/
inductive NumR where
  | ok (n k : Nat)
  | form
  | short
/-- Reading on, from group i on, n read so far. -/
def numFrom (i n : Nat) : List UInt8 → NumR
  | [] => .short
  | c :: r => if c.toNat = 0 ∧ 0 < i then .form else if c.toNat < 128 then .ok (n + c.toNat % 128 * 128 ^ i) (i + 1) else if i + 1 = 9 then .form else numFrom (i + 1) (n + c.toNat % 128 * 128 ^ i) r
def num (l : List UInt8) : NumR := numFrom 0 0 l
theorem byte_low (c : UInt8) (h : ¬ c.toNat < 128) : UInt8.ofNat (c.toNat % 128 + 128) = c := by
  have := c.toNat_lt
  apply UInt8.toNat_inj.1
  rw [UInt8.toNat_ofNat']
  omega
theorem ofNat_toNat (c : UInt8) : UInt8.ofNat c.toNat = c := by
  have := c.toNat_lt
  apply UInt8.toNat_inj.1
  rw [UInt8.toNat_ofNat']
  omega
/-- What was read is put as it was. -/
theorem numFrom_form (f : Nat) : ∀ (i m : Nat) (l : List UInt8) (n k : Nat), i + f = 8 → numFrom i m l = .ok n k → ∃ q, n = m + q * 128 ^ i ∧ i < k ∧ form f q = l.take (k - i) ∧ (0 < i → 0 < q) ∧ q < 128 ^ (f + 1) := by
  induction f with
  | zero =>
    intro i m l n k hi h
    cases l with
    | nil => simp [numFrom] at h
    | cons c r =>
      rw [numFrom] at h
      by_cases h1 : c.toNat = 0 ∧ 0 < i
      · rw [if_pos h1] at h; simp at h
      · rw [if_neg h1] at h
        by_cases h2 : c.toNat < 128
        · rw [if_pos h2] at h
          simp only [NumR.ok.injEq] at h
          refine ⟨c.toNat, by rw [← h.1, Nat.mod_eq_of_lt h2], by omega, ?_, fun h0 => by omega, by simpa using h2⟩
          rw [show k - i = 1 by omega, form_small _ _ h2, ofNat_toNat]
          rfl
        · rw [if_neg h2, if_pos (by omega)] at h; simp at h
  | succ f ih =>
    intro i m l n k hi h
    cases l with
    | nil => simp [numFrom] at h
    | cons c r =>
      rw [numFrom] at h
      by_cases h1 : c.toNat = 0 ∧ 0 < i
      · rw [if_pos h1] at h; simp at h
      · rw [if_neg h1] at h
        by_cases h2 : c.toNat < 128
        · rw [if_pos h2] at h
          simp only [NumR.ok.injEq] at h
          refine ⟨c.toNat, by rw [← h.1, Nat.mod_eq_of_lt h2], by omega, ?_, fun h0 => by omega, ?_⟩
          · rw [show k - i = 1 by omega, form_small _ _ h2, ofNat_toNat]
            rfl
          · have : 128 ^ 1 ≤ 128 ^ (f + 1 + 1) := Nat.pow_le_pow_right (by omega) (by omega)
            omega
        · rw [if_neg h2, if_neg (by omega)] at h
          obtain ⟨q, hq, hk, hf, hpos, hlt⟩ := ih (i + 1) _ r n k (by omega) h
          have hq0 := hpos (by omega)
          have hb : ¬ (c.toNat % 128 + 128 * q) < 128 := by omega
          refine ⟨c.toNat % 128 + 128 * q, ?_, by omega, ?_, fun _ => by omega, ?_⟩
          · rw [hq, Nat.pow_succ, Nat.add_mul, Nat.add_assoc]
            congr 1
            congr 1
            rw [Nat.mul_comm (128 ^ i) 128, ← Nat.mul_assoc, Nat.mul_comm q 128]
          · rw [form_big f _ hb]
            have e1 : (c.toNat % 128 + 128 * q) % 128 = c.toNat % 128 := by omega
            have e2 : (c.toNat % 128 + 128 * q) / 128 = q := by omega
            rw [e1, e2, byte_low c h2, hf, show k - i = (k - (i + 1)) + 1 by omega]
            rfl
          · rw [Nat.pow_succ]
            omega
/-- What was put is read again. -/
theorem numFrom_back (f : Nat) : ∀ (i m q : Nat) (r : List UInt8), i + f = 8 → q < 128 ^ (f + 1) → (0 < i → 0 < q) → numFrom i m (form f q ++ r) = .ok (m + q * 128 ^ i) (i + (form f q).length) := by
  induction f with
  | zero =>
    intro i m q r hi hq hpos
    have hq' : q < 128 := by simpa using hq
    rw [form_small _ _ hq']
    have e : (UInt8.ofNat q).toNat = q := by rw [UInt8.toNat_ofNat']; omega
    show numFrom i m (UInt8.ofNat q :: r) = _
    rw [numFrom, e, if_neg (fun h => by have := hpos h.2; omega), if_pos hq', Nat.mod_eq_of_lt hq']
    rfl
  | succ f ih =>
    intro i m q r hi hq hpos
    by_cases hs : q < 128
    · rw [form_small _ _ hs]
      have e : (UInt8.ofNat q).toNat = q := by rw [UInt8.toNat_ofNat']; omega
      show numFrom i m (UInt8.ofNat q :: r) = _
      rw [numFrom, e, if_neg (fun h => by have := hpos h.2; omega), if_pos hs, Nat.mod_eq_of_lt hs]
      rfl
    · rw [form_big f q hs]
      have e : (UInt8.ofNat (q % 128 + 128)).toNat = q % 128 + 128 := by rw [UInt8.toNat_ofNat']; omega
      show numFrom i m (UInt8.ofNat (q % 128 + 128) :: (form f (q / 128) ++ r)) = _
      rw [numFrom, e, if_neg (by omega), if_neg (by omega), if_neg (by omega)]
      have hd : q / 128 < 128 ^ (f + 1) := by
        rw [Nat.div_lt_iff_lt_mul (by omega)]
        rw [Nat.pow_succ] at hq
        exact hq
      rw [ih (i + 1) _ (q / 128) r (by omega) hd (fun _ => by omega)]
      have e2 : (q % 128 + 128) % 128 = q % 128 := by omega
      have hq2 : q = q % 128 + 128 * (q / 128) := by omega
      congr 1
      · rw [e2, Nat.pow_succ, Nat.add_assoc]
        congr 1
        conv => rhs; rw [hq2]
        rw [Nat.add_mul]
        congr 1
        rw [Nat.mul_comm (128 ^ i) 128, ← Nat.mul_assoc, Nat.mul_comm (q / 128) 128]
      · simp; omega
theorem form_fuel (f n : Nat) (h : n < 128 ^ (f + 1)) : form (f + 1) n = form f n := by
  induction f generalizing n with
  | zero =>
    have : n < 128 := by simpa using h
    rw [form_small _ _ this, form_small _ _ this]
  | succ f ih =>
    by_cases hs : n < 128
    · rw [form_small _ _ hs, form_small _ _ hs]
    · rw [form_big _ _ hs, form_big _ _ hs, ih (n / 128) (by rw [Nat.div_lt_iff_lt_mul (by omega)]; rw [Nat.pow_succ] at h; exact h)]
theorem p9 : (128 : Nat) ^ 9 = 9223372036854775808 := by decide
theorem form98 (n : Nat) (h : n < 9223372036854775808) : form 9 n = form 8 n := form_fuel 8 n (by rw [p9]; exact h)
theorem num_back (n : Nat) (r : List UInt8) (h : n < 9223372036854775808) : num (form 9 n ++ r) = .ok n (form 9 n).length := by
  rw [form98 n h, num, numFrom_back 8 0 0 n r (by omega) (by rw [p9]; exact h) (fun h => absurd h (by omega))]
  simp
theorem num_form (l : List UInt8) (n k : Nat) (h : num l = .ok n k) : form 9 n = l.take k ∧ n < 9223372036854775808 := by
  obtain ⟨q, h1, _, h3, _, h5⟩ := numFrom_form 8 0 0 l n k (by omega) h
  simp at h1 h3
  subst h1
  rw [p9] at h5
  exact ⟨by rw [form98 n h5]; exact h3, h5⟩
/-- No form is another's beginning. -/
theorem form_prefix (n m : Nat) (hn : n < 9223372036854775808) (hm : m < 9223372036854775808) (r : List UInt8) (h : form 9 m = form 9 n ++ r) : n = m := by
  have h1 := num_back m [] hm
  rw [List.append_nil, h, num_back n r hn] at h1
  simp only [NumR.ok.injEq] at h1
  exact h1.1
end Go.Proofs.YtnclpcnpaodjjaaDoor
