/-
  The walk of (*propfile.reading).mark.
-/
import Derived.Test.YthdmhelgmejicaaGreatDoorPfCkW
namespace Go.Proofs.YthdmhelgmejicaaGreatDoor
open Go.RowKit Go.Shelf
/-- A word of bits of which those are set that f tells, from 64 * i on. -/
def wordOf (f : Nat → Bool) (i : Nat) : Nat := (List.range 64).foldr (fun k n => n ||| (if f (64 * i + k) then 2 ^ k else 0)) 0
theorem wordOf_bit (f : Nat → Bool) (i k : Nat) : (wordOf f i).testBit k = (decide (k < 64) && f (64 * i + k)) := by
  have key : ∀ (l : List Nat), (l.foldr (fun k n => n ||| (if f (64 * i + k) then 2 ^ k else 0)) 0).testBit k = (decide (k ∈ l) && f (64 * i + k)) := by
    intro l
    induction l with
    | nil => simp
    | cons a r ih =>
      rw [List.foldr_cons, Nat.testBit_or, ih]
      by_cases ha : k = a
      · subst ha
        cases hf : f (64 * i + k) <;> simp [Nat.testBit_two_pow_self]
      · cases hf : f (64 * i + a)
        · simp [ha]
        · simp [ha, Nat.testBit_two_pow_of_ne (fun h => ha h.symm)]
  rw [wordOf, key]
  simp
theorem wordOf_lt (f : Nat → Bool) (i : Nat) : wordOf f i < 2 ^ 64 := by
  apply Nat.lt_pow_two_of_testBit
  intro k hk
  rw [wordOf_bit]
  simp; omega
theorem word_and (f : Nat → Bool) (p : Nat) : (wordOf f (p / 64) &&& 2 ^ (p % 64) = 0) ↔ f p = false := by
  have hp : 64 * (p / 64) + p % 64 = p := by omega
  have hb := wordOf_bit f (p / 64) (p % 64)
  rw [hp, decide_eq_true (Nat.mod_lt p (by omega)), Bool.true_and] at hb
  constructor
  · intro h
    have h1 := congrArg (fun n => n.testBit (p % 64)) h
    simp only [Nat.testBit_and, Nat.testBit_two_pow_self, Nat.zero_testBit, Bool.and_true] at h1
    rw [← hb, h1]
  · intro h
    apply Nat.eq_of_testBit_eq
    intro k
    rw [Nat.testBit_and, Nat.zero_testBit]
    by_cases hk : k = p % 64
    · subst hk; rw [hb, h]; rfl
    · rw [Nat.testBit_two_pow_of_ne (fun e => hk e.symm), Bool.and_false]
theorem word_or (f : Nat → Bool) (p : Nat) : wordOf f (p / 64) ||| 2 ^ (p % 64) = wordOf (fun q => decide (q = p) || f q) (p / 64) := by
  apply Nat.eq_of_testBit_eq
  intro k
  rw [Nat.testBit_or, wordOf_bit, wordOf_bit]
  by_cases hk : k = p % 64
  · subst hk
    have hp : 64 * (p / 64) + p % 64 = p := by omega
    rw [hp, Nat.testBit_two_pow_self]
    simp; omega
  · rw [Nat.testBit_two_pow_of_ne (fun e => hk e.symm), Bool.or_false]
    by_cases hl : k < 64
    · have : ¬ 64 * (p / 64) + k = p := by omega
      simp [this]
    · simp [hl]
theorem word_other (f : Nat → Bool) (p i : Nat) (h : ¬ i = p / 64) : wordOf (fun q => decide (q = p) || f q) i = wordOf f i := by
  apply Nat.eq_of_testBit_eq
  intro k
  rw [wordOf_bit, wordOf_bit]
  by_cases hl : k < 64
  · have : ¬ 64 * i + k = p := by omega
    simp [this]
  · simp [hl]
end Go.Proofs.YthdmhelgmejicaaGreatDoor
