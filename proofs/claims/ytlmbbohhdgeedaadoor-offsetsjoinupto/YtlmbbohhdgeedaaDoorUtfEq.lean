/-
  The reference's well-formed sequences are the table's, and its beginnings are the table's.
-/
import Derived.Test.YtlmbbohhdgeedaaDoorUtfGood
namespace Go.Proofs.YtlmbbohhdgeedaaDoor
open Go.RowKit
theorem fits_cons (lo hi n : Nat) (b : UInt8) (l : List UInt8) : fits lo hi (n + 1) (b :: l) = if lo ≤ b.toNat ∧ b.toNat ≤ hi then fits 128 191 n l + 1 else 0 := rfl
theorem fits_zero (lo hi : Nat) (l : List UInt8) : fits lo hi 0 l = 0 := by cases l <;> rfl
theorem fits_nil (lo hi n : Nat) : fits lo hi n [] = 0 := by cases n <;> rfl
theorem good2 {a b : UInt8} {t : List UInt8} {i : Nat} (h : rowOf a.toNat = some i) (hs : tSz i = 2) : goodOf (a :: b :: t) = if tLo2 i ≤ b.toNat ∧ b.toNat ≤ tHi2 i then some ((ptL (a :: b :: t) ((a.toNat : Int) - tMk i) 1).toNat, 2) else none := by
  rw [good_some h, hs, fits_cons, fits_zero]
  by_cases h1 : tLo2 i ≤ b.toNat ∧ b.toNat ≤ tHi2 i
  · rw [if_pos h1, if_pos h1, if_neg (by omega)]
  · rw [if_neg h1, if_neg h1, if_pos (by omega)]
theorem good3 {a b c : UInt8} {t : List UInt8} {i : Nat} (h : rowOf a.toNat = some i) (hs : tSz i = 3) : goodOf (a :: b :: c :: t) = if (tLo2 i ≤ b.toNat ∧ b.toNat ≤ tHi2 i) ∧ 128 ≤ c.toNat ∧ c.toNat ≤ 191 then some ((ptL (a :: b :: c :: t) ((a.toNat : Int) - tMk i) 2).toNat, 3) else none := by
  rw [good_some h, hs, fits_cons, fits_cons, fits_zero]
  by_cases h1 : tLo2 i ≤ b.toNat ∧ b.toNat ≤ tHi2 i
  · by_cases h2 : 128 ≤ c.toNat ∧ c.toNat ≤ 191
    · rw [if_pos h1, if_pos h2, if_neg (by omega), if_pos ⟨h1, h2⟩]
    · rw [if_pos h1, if_neg h2, if_pos (by omega), if_neg (fun q => h2 q.2)]
  · rw [if_neg h1, if_pos (by omega), if_neg (fun q => h1 q.1)]
theorem good4 {a b c d : UInt8} {t : List UInt8} {i : Nat} (h : rowOf a.toNat = some i) (hs : tSz i = 4) : goodOf (a :: b :: c :: d :: t) = if (tLo2 i ≤ b.toNat ∧ b.toNat ≤ tHi2 i) ∧ (128 ≤ c.toNat ∧ c.toNat ≤ 191) ∧ 128 ≤ d.toNat ∧ d.toNat ≤ 191 then some ((ptL (a :: b :: c :: d :: t) ((a.toNat : Int) - tMk i) 3).toNat, 4) else none := by
  rw [good_some h, hs, fits_cons, fits_cons, fits_cons, fits_zero]
  by_cases h1 : tLo2 i ≤ b.toNat ∧ b.toNat ≤ tHi2 i
  · by_cases h2 : 128 ≤ c.toNat ∧ c.toNat ≤ 191
    · by_cases h3 : 128 ≤ d.toNat ∧ d.toNat ≤ 191
      · rw [if_pos h1, if_pos h2, if_pos h3, if_neg (by omega), if_pos ⟨h1, h2, h3⟩]
      · rw [if_pos h1, if_pos h2, if_neg h3, if_pos (by omega), if_neg (fun q => h3 q.2.2)]
    · rw [if_pos h1, if_neg h2, if_pos (by omega), if_neg (fun q => h2 q.2.1)]
  · rw [if_neg h1, if_pos (by omega), if_neg (fun q => h1 q.1)]
theorem good_short {a : UInt8} {r : List UInt8} {i : Nat} (h : rowOf a.toNat = some i) (hs : r.length + 1 < tSz i) : goodOf (a :: r) = none := by
  rw [good_some h, if_pos (by have := fits_le (tLo2 i) (tHi2 i) (tSz i - 1) r; omega)]
theorem size1 {c : Nat} (h : c < 128) : sizeL c = 1 := by rw [sizeL, if_pos h]
theorem size2 {c : Nat} (h : 192 ≤ c) (h1 : c < 224) : sizeL c = 2 := by rw [sizeL, if_neg (by omega), if_pos ⟨h, h1⟩]
theorem size3 {c : Nat} (h : 224 ≤ c) (h1 : c < 240) : sizeL c = 3 := by rw [sizeL, if_neg (by omega), if_neg (by omega), if_pos ⟨h, h1⟩]
theorem size4 {c : Nat} (h : 240 ≤ c) (h1 : c < 248) : sizeL c = 4 := by rw [sizeL, if_neg (by omega), if_neg (by omega), if_neg (by omega), if_pos ⟨h, h1⟩]
theorem size0 {c : Nat} (h : 128 ≤ c) (h1 : c < 192 ∨ 248 ≤ c) : sizeL c = 0 := by rw [sizeL, if_neg (by omega), if_neg (by omega), if_neg (by omega), if_neg (by omega)]
theorem eq_three {a : UInt8} {r : List UInt8} {i : Nat} (h : rowOf a.toNat = some i) (hs : tSz i = 3) (hmk : tMk i = 224) (h0 : 224 ≤ a.toNat) (h1 : a.toNat < 240)
    (hb : ∀ b : Nat, (tLo2 i ≤ b ∧ b ≤ tHi2 i) ↔ (128 ≤ b ∧ b ≤ 191 ∧ (a.toNat = 224 → 160 ≤ b) ∧ (a.toNat = 237 → b ≤ 159))) : refGood (a :: r) = goodOf (a :: r) := by
  rw [ref_cons a r 3 (size3 h0 h1), if_neg (by omega)]
  by_cases hl : r.length + 1 < 3
  · rw [if_pos hl, good_short h (by omega)]
  · rw [if_neg hl]
    match r, hl with
    | [], hl => simp at hl
    | [_], hl => simp at hl
    | b :: c :: t, _ =>
      rw [test3 a b c t h0 h1, good3 h hs, hmk]
      have := hb b.toNat
      by_cases hq : (tLo2 i ≤ b.toNat ∧ b.toNat ≤ tHi2 i) ∧ 128 ≤ c.toNat ∧ c.toNat ≤ 191
      · rw [if_pos hq, if_pos ⟨⟨(this.1 hq.1).1, (this.1 hq.1).2.1, hq.2.1, hq.2.2⟩, (this.1 hq.1).2.2⟩]; rfl
      · rw [if_neg hq, if_neg (fun q => hq ⟨this.2 ⟨q.1.1, q.1.2.1, q.2⟩, q.1.2.2⟩)]
theorem eq_four {a : UInt8} {r : List UInt8} {i : Nat} (h : rowOf a.toNat = some i) (hs : tSz i = 4) (hmk : tMk i = 240) (h0 : 240 ≤ a.toNat) (h1 : a.toNat ≤ 244)
    (hb : ∀ b : Nat, (tLo2 i ≤ b ∧ b ≤ tHi2 i) ↔ (128 ≤ b ∧ b ≤ 191 ∧ (a.toNat = 240 → 144 ≤ b) ∧ (a.toNat = 244 → b ≤ 143))) : refGood (a :: r) = goodOf (a :: r) := by
  rw [ref_cons a r 4 (size4 h0 (by omega)), if_neg (by omega)]
  by_cases hl : r.length + 1 < 4
  · rw [if_pos hl, good_short h (by omega)]
  · rw [if_neg hl]
    match r, hl with
    | [], hl => simp at hl
    | [_], hl => simp at hl
    | [_, _], hl => simp at hl
    | b :: c :: d :: t, _ =>
      rw [test4 a b c d t h0 (by omega), good4 h hs, hmk]
      have := hb b.toNat
      by_cases hq : (tLo2 i ≤ b.toNat ∧ b.toNat ≤ tHi2 i) ∧ (128 ≤ c.toNat ∧ c.toNat ≤ 191) ∧ 128 ≤ d.toNat ∧ d.toNat ≤ 191
      · rw [if_pos hq, if_pos ⟨h1, ⟨(this.1 hq.1).1, (this.1 hq.1).2.1, hq.2.1.1, hq.2.1.2, hq.2.2.1, hq.2.2.2⟩, (this.1 hq.1).2.2⟩]; rfl
      · rw [if_neg hq, if_neg (fun q => hq ⟨this.2 ⟨q.2.1.1, q.2.1.2.1, q.2.2⟩, ⟨q.2.1.2.2.1, q.2.1.2.2.2.1⟩, q.2.1.2.2.2.2⟩)]
theorem refGood_eq (l : List UInt8) : refGood l = goodOf l := by
  cases l with
  | nil => rfl
  | cons a r =>
    have ha := a.toNat_lt
    rcases row_cases a.toNat ha with h | h | h | h | h | h | h | h | h | h | h | h | h
    · rw [ref_cons a r 1 (size1 h.2), if_neg (by omega), if_neg (by omega), test1 a r h.2, good_some h.1, if_neg (by rw [show tSz 0 = 1 from rfl, show (1 : Nat) - 1 = 0 from rfl, fits_zero]; omega)]
      simp [tSz, tMk, ptL]
    · rw [ref_cons a r 0 (size0 h.2.1 (.inl h.2.2)), if_pos rfl, good_none h.1]
    · rw [ref_cons a r 2 (size2 h.2.1 (by omega)), if_neg (by omega), good_none h.1]
      split
      · rfl
      · rename_i hl
        match r, hl with
        | [], hl => simp at hl
        | b :: t, _ => rw [test2 a b t h.2.1 (by omega), if_neg (by omega)]
    · rw [ref_cons a r 2 (size2 (by omega) (by omega)), if_neg (by omega)]
      by_cases hl : r.length + 1 < 2
      · rw [if_pos hl, good_short h.1 (by rw [show tSz 1 = 2 from rfl]; omega)]
      · rw [if_neg hl]
        match r, hl with
        | [], hl => simp at hl
        | b :: t, _ =>
          rw [test2 a b t (by omega) (by omega), good2 h.1 rfl]
          by_cases hq : 128 ≤ b.toNat ∧ b.toNat ≤ 191
          · rw [if_pos ⟨h.2.1, hq⟩, if_pos (by exact hq)]; rfl
          · rw [if_neg (fun q => hq q.2), if_neg (by exact hq)]
    · exact eq_three h.1 rfl rfl (by omega) (by omega) (fun b => by show (160 ≤ b ∧ b ≤ 191) ↔ _; omega)
    · exact eq_three h.1 rfl rfl (by omega) (by omega) (fun b => by show (128 ≤ b ∧ b ≤ 191) ↔ _; omega)
    · exact eq_three h.1 rfl rfl (by omega) (by omega) (fun b => by show (128 ≤ b ∧ b ≤ 159) ↔ _; omega)
    · exact eq_three h.1 rfl rfl (by omega) (by omega) (fun b => by show (128 ≤ b ∧ b ≤ 191) ↔ _; omega)
    · exact eq_four h.1 rfl rfl (by omega) (by omega) (fun b => by show (144 ≤ b ∧ b ≤ 191) ↔ _; omega)
    · exact eq_four h.1 rfl rfl (by omega) (by omega) (fun b => by show (128 ≤ b ∧ b ≤ 191) ↔ _; omega)
    · exact eq_four h.1 rfl rfl (by omega) (by omega) (fun b => by show (128 ≤ b ∧ b ≤ 143) ↔ _; omega)
    · rw [ref_cons a r 4 (size4 (by omega) h.2.2), if_neg (by omega), good_none h.1]
      split
      · rfl
      · rename_i hl
        match r, hl with
        | [], hl => simp at hl
        | [_], hl => simp at hl
        | [_, _], hl => simp at hl
        | b :: c :: d :: t, _ => rw [test4 a b c d t (by omega) h.2.2, if_neg (by omega)]
    · rw [ref_cons a r 0 (size0 (by omega) (.inr h.2)), if_pos rfl, good_none h.1]
/-- The text made longer: a second byte, then 80s. -/
def padL (l : List UInt8) (sec : UInt8) (n : Nat) : List UInt8 :=
  let t := if l.length = 1 then l ++ [sec] else l
  t ++ List.replicate (n - t.length) 128
def refBegins (l : List UInt8) : Bool := match l with
  | [] => false
  | a :: _ => decide (l.length < sizeL a.toNat) && [128, 144, 160].any fun sec => (goodOf (padL l sec (sizeL a.toNat))).map (·.2) == some (sizeL a.toNat)
theorem pad_cons (a : UInt8) (r : List UInt8) (sec : UInt8) (n : Nat) : ∃ q, padL (a :: r) sec n = a :: q := by
  unfold padL
  cases r with
  | nil => exact ⟨_, rfl⟩
  | cons b r => exact ⟨_, rfl⟩
theorem rb_none {a : UInt8} {r : List UInt8} (h : rowOf a.toNat = none) : refBegins (a :: r) = beginsL (a :: r) := by
  have g : ∀ sec n, goodOf (padL (a :: r) sec n) = none := fun sec n => by obtain ⟨q, hq⟩ := pad_cons a r sec n; rw [hq, good_none h]
  rw [beginsL, begun_none h]
  simp [refBegins, g]
theorem begins_some {a : UInt8} {r : List UInt8} {i : Nat} (h : rowOf a.toNat = some i) : beginsL (a :: r) = (fits (tLo2 i) (tHi2 i) (tSz i - 1) r + 1 == (a :: r).length && decide ((a :: r).length < tSz i)) := by
  rw [beginsL, begun_some h]
theorem rb_long {a : UInt8} {r : List UInt8} {i : Nat} (h : rowOf a.toNat = some i) (hz : sizeL a.toNat = tSz i) (hl : tSz i ≤ r.length + 1) : refBegins (a :: r) = beginsL (a :: r) := by
  rw [begins_some h, refBegins, hz]
  have e : decide ((a :: r).length < tSz i) = false := by simpa using hl
  simp only [e, Bool.false_and, Bool.and_false]
theorem any3 (f : UInt8 → Bool) : [128, 144, 160].any f = (f 128 || f 144 || f 160) := by simp [Bool.or_assoc]
theorem some_beq (n : Nat) (q : Prop) [Decidable q] (p : Nat) : (Option.map (·.2) (if q then some (p, n) else none) == some n) = decide q := by
  by_cases h : q <;> simp [h]
theorem rb2 {a : UInt8} {i : Nat} (h : rowOf a.toNat = some i) (hs : tSz i = 2) (hz : sizeL a.toNat = 2) (hx : tLo2 i ≤ 128 ∧ 128 ≤ tHi2 i) : refBegins [a] = beginsL [a] := by
  have g : ∀ sec : UInt8, goodOf (padL [a] sec 2) = if tLo2 i ≤ sec.toNat ∧ sec.toNat ≤ tHi2 i then some ((ptL [a, sec] ((a.toNat : Int) - tMk i) 1).toNat, 2) else none := fun sec => by
    rw [show padL [a] sec 2 = [a, sec] from rfl, good2 h hs]
  rw [begins_some h, refBegins, hz, any3, g, g, g, some_beq, some_beq, some_beq, fits_nil, hs, show (128 : UInt8).toNat = 128 from rfl, decide_eq_true hx]
  simp
theorem rb3 {a : UInt8} {i : Nat} (h : rowOf a.toNat = some i) (hs : tSz i = 3) (hz : sizeL a.toNat = 3) (hx : (tLo2 i ≤ 128 ∧ 128 ≤ tHi2 i) ∨ (tLo2 i ≤ 144 ∧ 144 ≤ tHi2 i) ∨ (tLo2 i ≤ 160 ∧ 160 ≤ tHi2 i)) : refBegins [a] = beginsL [a] := by
  have g : ∀ sec : UInt8, (Option.map (·.2) (goodOf (padL [a] sec 3)) == some 3) = decide (tLo2 i ≤ sec.toNat ∧ sec.toNat ≤ tHi2 i) := fun sec => by
    rw [show padL [a] sec 3 = [a, sec, 128] from rfl, good3 h hs, some_beq, show (128 : UInt8).toNat = 128 from rfl]
    simp
  rw [begins_some h, refBegins, hz, any3, g, g, g, fits_nil, hs, show (128 : UInt8).toNat = 128 from rfl, show (144 : UInt8).toNat = 144 from rfl, show (160 : UInt8).toNat = 160 from rfl]
  rcases hx with hx | hx | hx <;> simp [hx]
theorem rb4 {a : UInt8} {i : Nat} (h : rowOf a.toNat = some i) (hs : tSz i = 4) (hz : sizeL a.toNat = 4) (hx : (tLo2 i ≤ 128 ∧ 128 ≤ tHi2 i) ∨ (tLo2 i ≤ 144 ∧ 144 ≤ tHi2 i) ∨ (tLo2 i ≤ 160 ∧ 160 ≤ tHi2 i)) : refBegins [a] = beginsL [a] := by
  have g : ∀ sec : UInt8, (Option.map (·.2) (goodOf (padL [a] sec 4)) == some 4) = decide (tLo2 i ≤ sec.toNat ∧ sec.toNat ≤ tHi2 i) := fun sec => by
    rw [show padL [a] sec 4 = [a, sec, 128, 128] from rfl, good4 h hs, some_beq, show (128 : UInt8).toNat = 128 from rfl]
    simp
  rw [begins_some h, refBegins, hz, any3, g, g, g, fits_nil, hs, show (128 : UInt8).toNat = 128 from rfl, show (144 : UInt8).toNat = 144 from rfl, show (160 : UInt8).toNat = 160 from rfl]
  rcases hx with hx | hx | hx <;> simp [hx]
theorem rb32 {a b : UInt8} {i : Nat} (h : rowOf a.toNat = some i) (hs : tSz i = 3) (hz : sizeL a.toNat = 3) : refBegins [a, b] = beginsL [a, b] := by
  have g : ∀ sec : UInt8, (Option.map (·.2) (goodOf (padL [a, b] sec 3)) == some 3) = decide (tLo2 i ≤ b.toNat ∧ b.toNat ≤ tHi2 i) := fun sec => by
    rw [show padL [a, b] sec 3 = [a, b, 128] from rfl, good3 h hs, some_beq, show (128 : UInt8).toNat = 128 from rfl]
    simp
  rw [begins_some h, refBegins, hz, any3, g, g, g, hs, fits_cons, fits_nil]
  by_cases hx : tLo2 i ≤ b.toNat ∧ b.toNat ≤ tHi2 i
  · rw [if_pos hx]; simp [hx]
  · rw [if_neg hx, decide_eq_false hx]; simp
theorem rb42 {a b : UInt8} {i : Nat} (h : rowOf a.toNat = some i) (hs : tSz i = 4) (hz : sizeL a.toNat = 4) : refBegins [a, b] = beginsL [a, b] := by
  have g : ∀ sec : UInt8, (Option.map (·.2) (goodOf (padL [a, b] sec 4)) == some 4) = decide (tLo2 i ≤ b.toNat ∧ b.toNat ≤ tHi2 i) := fun sec => by
    rw [show padL [a, b] sec 4 = [a, b, 128, 128] from rfl, good4 h hs, some_beq, show (128 : UInt8).toNat = 128 from rfl]
    simp
  rw [begins_some h, refBegins, hz, any3, g, g, g, hs, fits_cons, fits_nil]
  by_cases hx : tLo2 i ≤ b.toNat ∧ b.toNat ≤ tHi2 i
  · rw [if_pos hx]; simp [hx]
  · rw [if_neg hx, decide_eq_false hx]; simp
theorem rb43 {a b c : UInt8} {i : Nat} (h : rowOf a.toNat = some i) (hs : tSz i = 4) (hz : sizeL a.toNat = 4) : refBegins [a, b, c] = beginsL [a, b, c] := by
  have g : ∀ sec : UInt8, (Option.map (·.2) (goodOf (padL [a, b, c] sec 4)) == some 4) = decide ((tLo2 i ≤ b.toNat ∧ b.toNat ≤ tHi2 i) ∧ 128 ≤ c.toNat ∧ c.toNat ≤ 191) := fun sec => by
    rw [show padL [a, b, c] sec 4 = [a, b, c, 128] from rfl, good4 h hs, some_beq, show (128 : UInt8).toNat = 128 from rfl]
    simp
  rw [begins_some h, refBegins, hz, any3, g, g, g, hs, fits_cons, fits_cons, fits_nil]
  by_cases hx : tLo2 i ≤ b.toNat ∧ b.toNat ≤ tHi2 i
  · by_cases hy : 128 ≤ c.toNat ∧ c.toNat ≤ 191
    · rw [if_pos hx, if_pos hy, decide_eq_true (⟨hx, hy⟩ : _ ∧ _)]; simp
    · rw [if_pos hx, if_neg hy, decide_eq_false (show ¬ ((tLo2 i ≤ b.toNat ∧ b.toNat ≤ tHi2 i) ∧ 128 ≤ c.toNat ∧ c.toNat ≤ 191) from fun q => hy q.2)]; simp
  · rw [if_neg hx, decide_eq_false (show ¬ ((tLo2 i ≤ b.toNat ∧ b.toNat ≤ tHi2 i) ∧ 128 ≤ c.toNat ∧ c.toNat ≤ 191) from fun q => hx q.1)]; simp
theorem refBegins_eq (l : List UInt8) (h3 : l.length ≤ 3) : refBegins l = beginsL l := by
  cases l with
  | nil => rfl
  | cons a r =>
    have ha := a.toNat_lt
    have S3 : ∀ i, rowOf a.toNat = some i → tSz i = 3 → sizeL a.toNat = 3 → ((tLo2 i ≤ 128 ∧ 128 ≤ tHi2 i) ∨ (tLo2 i ≤ 144 ∧ 144 ≤ tHi2 i) ∨ (tLo2 i ≤ 160 ∧ 160 ≤ tHi2 i)) → refBegins (a :: r) = beginsL (a :: r) := by
      intro i h hs hz hx
      match r, h3 with
      | [], _ => exact rb3 h hs hz hx
      | [b], _ => exact rb32 h hs hz
      | b :: c :: t, _ => exact rb_long h (by rw [hz, hs]) (by rw [hs]; simp)
    have S4 : ∀ i, rowOf a.toNat = some i → tSz i = 4 → sizeL a.toNat = 4 → ((tLo2 i ≤ 128 ∧ 128 ≤ tHi2 i) ∨ (tLo2 i ≤ 144 ∧ 144 ≤ tHi2 i) ∨ (tLo2 i ≤ 160 ∧ 160 ≤ tHi2 i)) → refBegins (a :: r) = beginsL (a :: r) := by
      intro i h hs hz hx
      match r, h3 with
      | [], _ => exact rb4 h hs hz hx
      | [b], _ => exact rb42 h hs hz
      | [b, c], _ => exact rb43 h hs hz
      | b :: c :: d :: t, h3 => simp at h3
    rcases row_cases a.toNat ha with h | h | h | h | h | h | h | h | h | h | h | h | h
    · exact rb_long h.1 (size1 h.2) (by rw [show tSz 0 = 1 from rfl]; omega)
    · exact rb_none h.1
    · exact rb_none h.1
    · match r, h3 with
      | [], _ => exact rb2 h.1 rfl (size2 (by omega) (by omega)) (by decide)
      | b :: t, _ => exact rb_long h.1 (size2 (by omega) (by omega)) (by rw [show tSz 1 = 2 from rfl]; simp)
    · exact S3 2 h.1 rfl (size3 (by omega) (by omega)) (by decide)
    · exact S3 3 h.1 rfl (size3 (by omega) (by omega)) (by decide)
    · exact S3 4 h.1 rfl (size3 (by omega) (by omega)) (by decide)
    · exact S3 5 h.1 rfl (size3 (by omega) (by omega)) (by decide)
    · exact S4 6 h.1 rfl (size4 (by omega) (by omega)) (by decide)
    · exact S4 7 h.1 rfl (size4 (by omega) (by omega)) (by decide)
    · exact S4 8 h.1 rfl (size4 (by omega) (by omega)) (by decide)
    · exact rb_none h.1
    · exact rb_none h.1
end Go.Proofs.YtlmbbohhdgeedaaDoor
