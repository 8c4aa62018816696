/-
  The reference's well-formed sequences are the table's.
-/
import Derived.Test.YtlmbbohhdgeedaaDoorRGood2W
namespace Go.Proofs.YtlmbbohhdgeedaaDoor
open Go.RowKit
/-- The point and the size of the well-formed sequence at the beginning, by the table. -/
def goodOf (l : List UInt8) : Option (Nat × Nat) := match begunOf l with
  | none => none
  | some (i, f) => if f < tSz i then none else some ((ptL l (((l.getD 0 0).toNat : Int) - tMk i) (tSz i - 1)).toNat, tSz i)
theorem row_if : ∀ c < 256, rowOf c = if c < 128 then some 0 else if c < 194 then none else if c < 224 then some 1 else if c = 224 then some 2 else if c < 237 then some 3 else if c = 237 then some 4 else if c < 240 then some 5 else if c = 240 then some 6 else if c < 244 then some 7 else if c = 244 then some 8 else none := by decide +kernel
theorem row_cases (c : Nat) (hc : c < 256) : (rowOf c = some 0 ∧ c < 128) ∨ (rowOf c = none ∧ 128 ≤ c ∧ c < 192) ∨ (rowOf c = none ∧ 192 ≤ c ∧ c < 194) ∨ (rowOf c = some 1 ∧ 194 ≤ c ∧ c < 224) ∨ (rowOf c = some 2 ∧ c = 224) ∨ (rowOf c = some 3 ∧ 225 ≤ c ∧ c < 237) ∨ (rowOf c = some 4 ∧ c = 237) ∨ (rowOf c = some 5 ∧ 238 ≤ c ∧ c < 240) ∨ (rowOf c = some 6 ∧ c = 240) ∨ (rowOf c = some 7 ∧ 241 ≤ c ∧ c < 244) ∨ (rowOf c = some 8 ∧ c = 244) ∨ (rowOf c = none ∧ 245 ≤ c ∧ c < 248) ∨ (rowOf c = none ∧ 248 ≤ c) := by
  rw [row_if c hc]
  (repeat' split) <;> (simp; try omega)
theorem u8eq (n : Nat) (a : UInt8) : UInt8.ofNat n = a ↔ n % 256 = a.toNat := by
  rw [← UInt8.toNat_inj, UInt8.toNat_ofNat']
theorem enc_one (n : Nat) (a : UInt8) : encL n = [a] ↔ n < 128 ∧ n % 256 = a.toNat := by
  unfold encL
  split
  · simp [u8eq]; omega
  · split
    · simp; omega
    · split <;> (simp; omega)
theorem enc_two (n : Nat) (a b : UInt8) : encL n = [a, b] ↔ (128 ≤ n ∧ n < 2048) ∧ 192 + n / 64 = a.toNat ∧ 128 + n % 64 = b.toNat := by
  unfold encL
  split
  · simp; omega
  · split
    · simp only [List.cons.injEq, and_true, u8eq]; omega
    · split <;> (simp; omega)
theorem enc_three (n : Nat) (a b c : UInt8) : encL n = [a, b, c] ↔ (2048 ≤ n ∧ n < 65536) ∧ 224 + n / 4096 = a.toNat ∧ 128 + n / 64 % 64 = b.toNat ∧ 128 + n % 64 = c.toNat := by
  unfold encL
  split
  · simp; omega
  · split
    · simp; omega
    · split
      · simp only [List.cons.injEq, and_true, u8eq]; omega
      · simp; omega
theorem enc_four (n : Nat) (hn : n < 1114112) (a b c d : UInt8) : encL n = [a, b, c, d] ↔ 65536 ≤ n ∧ 240 + n / 262144 = a.toNat ∧ 128 + n / 4096 % 64 = b.toNat ∧ 128 + n / 64 % 64 = c.toNat ∧ 128 + n % 64 = d.toNat := by
  unfold encL
  split
  · simp; omega
  · split
    · simp; omega
    · split
      · simp; omega
      · simp only [List.cons.injEq, and_true, u8eq]; omega
theorem scalar_iff (p : Int) : scalarP p = true ↔ 0 ≤ p ∧ p ≤ 1114111 ∧ (p < 55296 ∨ 57343 < p) := by
  simp [scalarP, Bool.and_eq_true, Bool.or_eq_true, and_assoc]
theorem begun_none {a : UInt8} {r : List UInt8} (h : rowOf a.toNat = none) : begunOf (a :: r) = none := by rw [begunOf]; simp only [h]
theorem begun_some {a : UInt8} {r : List UInt8} {i : Nat} (h : rowOf a.toNat = some i) : begunOf (a :: r) = some (i, fits (tLo2 i) (tHi2 i) (tSz i - 1) r + 1) := by rw [begunOf]; simp only [h]
theorem good_none {a : UInt8} {r : List UInt8} (h : rowOf a.toNat = none) : goodOf (a :: r) = none := by rw [goodOf, begun_none h]
theorem good_some {a : UInt8} {r : List UInt8} {i : Nat} (h : rowOf a.toNat = some i) : goodOf (a :: r) = if fits (tLo2 i) (tHi2 i) (tSz i - 1) r + 1 < tSz i then none else some ((ptL (a :: r) ((a.toNat : Int) - tMk i) (tSz i - 1)).toNat, tSz i) := by
  rw [goodOf, begun_some h]; rfl
theorem fits_le (lo hi n : Nat) (l : List UInt8) : fits lo hi n l ≤ l.length := by
  induction n generalizing lo hi l with
  | zero => simp [fits]
  | succ n ih =>
    cases l with
    | nil => simp [fits]
    | cons b l => rw [fits]; have := ih 128 191 l; split <;> (simp; try omega)
/-- Where the bytes are there: in the table's way and in the reference's way alike. -/
def refTest (l : List UInt8) (n : Nat) (c0 : Int) : Option (Nat × Nat) :=
  if scalarP (ptL l c0 (n - 1)) = true ∧ encL (ptL l c0 (n - 1)).toNat = l.take n then some ((ptL l c0 (n - 1)).toNat, n) else none
theorem ref_cons (a : UInt8) (r : List UInt8) (n : Nat) (hn : sizeL a.toNat = n) : refGood (a :: r) = if n = 0 then none else if r.length + 1 < n then none else refTest (a :: r) n ((a.toNat : Int) - offL n) := by
  rw [refGood, hn]; rfl
theorem test1 (a : UInt8) (r : List UInt8) (h : a.toNat < 128) : refTest (a :: r) 1 ((a.toNat : Int) - offL 1) = some (a.toNat, 1) := by
  have e : ptL (a :: r) ((a.toNat : Int) - offL 1) (1 - 1) = (a.toNat : Int) := by simp [ptL, offL]
  rw [refTest, e, if_pos ⟨(scalar_iff _).2 (by omega), by
    rw [List.take_succ_cons, List.take_zero, enc_one]; simp; omega⟩]
  rfl
theorem test2 (a b : UInt8) (r : List UInt8) (h0 : 192 ≤ a.toNat) (h1 : a.toNat < 224) :
    refTest (a :: b :: r) 2 ((a.toNat : Int) - offL 2) = if 194 ≤ a.toNat ∧ 128 ≤ b.toNat ∧ b.toNat ≤ 191 then some ((ptL (a :: b :: r) ((a.toNat : Int) - 192) 1).toNat, 2) else none := by
  have e : ptL (a :: b :: r) ((a.toNat : Int) - offL 2) (2 - 1) = ((a.toNat : Int) - 192) * 64 + (b.toNat : Int) - 128 := by simp [ptL, offL]
  have e' : ptL (a :: b :: r) ((a.toNat : Int) - 192) 1 = ((a.toNat : Int) - 192) * 64 + (b.toNat : Int) - 128 := by simp [ptL]
  have hb := b.toNat_lt
  rw [refTest, e, e', List.take_succ_cons, List.take_succ_cons, List.take_zero]
  by_cases h : 194 ≤ a.toNat ∧ 128 ≤ b.toNat ∧ b.toNat ≤ 191
  · rw [if_pos h, if_pos ⟨(scalar_iff _).2 (by omega), (enc_two _ _ _).2 (by omega)⟩]
  · rw [if_neg h, if_neg (fun q => h (by
      have q1 := (scalar_iff _).1 q.1
      have q2 := (enc_two _ _ _).1 q.2
      clear q h
      omega))]
theorem test3 (a b c : UInt8) (r : List UInt8) (h0 : 224 ≤ a.toNat) (h1 : a.toNat < 240) :
    refTest (a :: b :: c :: r) 3 ((a.toNat : Int) - offL 3) = if (128 ≤ b.toNat ∧ b.toNat ≤ 191 ∧ 128 ≤ c.toNat ∧ c.toNat ≤ 191) ∧ (a.toNat = 224 → 160 ≤ b.toNat) ∧ (a.toNat = 237 → b.toNat ≤ 159) then some ((ptL (a :: b :: c :: r) ((a.toNat : Int) - 224) 2).toNat, 3) else none := by
  have e : ptL (a :: b :: c :: r) ((a.toNat : Int) - offL 3) (3 - 1) = (((a.toNat : Int) - 224) * 64 + (b.toNat : Int) - 128) * 64 + (c.toNat : Int) - 128 := by simp [ptL, offL]
  have e' : ptL (a :: b :: c :: r) ((a.toNat : Int) - 224) 2 = (((a.toNat : Int) - 224) * 64 + (b.toNat : Int) - 128) * 64 + (c.toNat : Int) - 128 := by simp [ptL]
  have hb := b.toNat_lt
  have hc := c.toNat_lt
  rw [refTest, e, e', List.take_succ_cons, List.take_succ_cons, List.take_succ_cons, List.take_zero]
  by_cases h : (128 ≤ b.toNat ∧ b.toNat ≤ 191 ∧ 128 ≤ c.toNat ∧ c.toNat ≤ 191) ∧ (a.toNat = 224 → 160 ≤ b.toNat) ∧ (a.toNat = 237 → b.toNat ≤ 159)
  · rw [if_pos h, if_pos ⟨(scalar_iff _).2 (by omega), (enc_three _ _ _ _).2 (by omega)⟩]
  · rw [if_neg h, if_neg (fun q => h (by
      have q1 := (scalar_iff _).1 q.1
      have q2 := (enc_three _ _ _ _).1 q.2
      clear q h
      omega))]
theorem test4 (a b c d : UInt8) (r : List UInt8) (h0 : 240 ≤ a.toNat) (h1 : a.toNat < 248) :
    refTest (a :: b :: c :: d :: r) 4 ((a.toNat : Int) - offL 4) = if a.toNat ≤ 244 ∧ (128 ≤ b.toNat ∧ b.toNat ≤ 191 ∧ 128 ≤ c.toNat ∧ c.toNat ≤ 191 ∧ 128 ≤ d.toNat ∧ d.toNat ≤ 191) ∧ (a.toNat = 240 → 144 ≤ b.toNat) ∧ (a.toNat = 244 → b.toNat ≤ 143) then some ((ptL (a :: b :: c :: d :: r) ((a.toNat : Int) - 240) 3).toNat, 4) else none := by
  have e : ptL (a :: b :: c :: d :: r) ((a.toNat : Int) - offL 4) (4 - 1) = ((((a.toNat : Int) - 240) * 64 + (b.toNat : Int) - 128) * 64 + (c.toNat : Int) - 128) * 64 + (d.toNat : Int) - 128 := by simp [ptL, offL]
  have e' : ptL (a :: b :: c :: d :: r) ((a.toNat : Int) - 240) 3 = ((((a.toNat : Int) - 240) * 64 + (b.toNat : Int) - 128) * 64 + (c.toNat : Int) - 128) * 64 + (d.toNat : Int) - 128 := by simp [ptL]
  have hb := b.toNat_lt
  have hc := c.toNat_lt
  have hd := d.toNat_lt
  rw [refTest, e, e', List.take_succ_cons, List.take_succ_cons, List.take_succ_cons, List.take_succ_cons, List.take_zero]
  by_cases h : a.toNat ≤ 244 ∧ (128 ≤ b.toNat ∧ b.toNat ≤ 191 ∧ 128 ≤ c.toNat ∧ c.toNat ≤ 191 ∧ 128 ≤ d.toNat ∧ d.toNat ≤ 191) ∧ (a.toNat = 240 → 144 ≤ b.toNat) ∧ (a.toNat = 244 → b.toNat ≤ 143)
  · rw [if_pos h, if_pos ⟨(scalar_iff _).2 (by omega), (enc_four _ (by omega) _ _ _ _).2 (by omega)⟩]
  · rw [if_neg h, if_neg (fun q => h (by
      have q1 := (scalar_iff _).1 q.1
      have q2 := (enc_four _ (by omega) _ _ _ _).1 q.2
      clear q h
      omega))]
end Go.Proofs.YtlmbbohhdgeedaaDoor
