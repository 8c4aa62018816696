/-
  The units of a beginning, but for what Cut says of its end, are units of the whole.
-/
import Derived.Test.YtoopigkndomdgabDoorUListW
namespace Go.Proofs.YtoopigkndomdgabDoor
open Go.RowKit
theorem fits_take (n : Nat) : ∀ (lo hi j : Nat) (l : List UInt8), n ≤ j → fits lo hi n (l.take j) = fits lo hi n l := by
  induction n with
  | zero => intro lo hi j l _; rw [fits_zero, fits_zero]
  | succ n ih =>
    intro lo hi j l hj
    cases l with
    | nil => rw [List.take_nil]
    | cons b l =>
      obtain ⟨j', rfl⟩ : ∃ j', j = j' + 1 := ⟨j - 1, by omega⟩
      rw [List.take_succ_cons, fits_cons, fits_cons, ih 128 191 j' l (by omega)]
theorem fits_short (n : Nat) : ∀ (lo hi j : Nat) (l : List UInt8), j ≤ n → fits lo hi n l = n → fits lo hi n (l.take j) = j := by
  induction n with
  | zero => intro lo hi j l hj _; rw [fits_zero]; omega
  | succ n ih =>
    intro lo hi j l hj h
    cases l with
    | nil => rw [fits_nil] at h; omega
    | cons b l =>
      cases j with
      | zero => rw [List.take_zero, fits_nil]
      | succ j =>
        rw [fits_cons] at h
        rw [List.take_succ_cons, fits_cons]
        split at h
        · rename_i hb
          rw [if_pos hb, ih 128 191 j l (by omega) (by omega)]
        · omega
/-- A well-formed sequence, written out. -/
theorem good_iff {l : List UInt8} {p m : Nat} (h : goodOf l = some (p, m)) : ∃ a r i, l = a :: r ∧ rowOf a.toNat = some i ∧ m = tSz i ∧ fits (tLo2 i) (tHi2 i) (tSz i - 1) r = tSz i - 1 ∧ p = (ptL (a :: r) ((a.toNat : Int) - tMk i) (tSz i - 1)).toNat := by
  cases l with
  | nil => simp [goodOf, begunOf] at h
  | cons a r =>
    cases hr : rowOf a.toNat with
    | none => rw [good_none hr] at h; cases h
    | some i =>
      rw [good_some hr] at h
      split at h
      · cases h
      · rename_i hf
        have := fits_max (tLo2 i) (tHi2 i) (tSz i - 1) r
        have hs := sz_pos i (rowOf_lt hr)
        simp only [Option.some.injEq, Prod.mk.injEq] at h
        exact ⟨a, r, i, rfl, hr, h.2.symm, by omega, h.1.symm⟩
theorem good_mk {a : UInt8} {r : List UInt8} {i : Nat} (hr : rowOf a.toNat = some i) (hf : fits (tLo2 i) (tHi2 i) (tSz i - 1) r = tSz i - 1) : goodOf (a :: r) = some ((ptL (a :: r) ((a.toNat : Int) - tMk i) (tSz i - 1)).toNat, tSz i) := by
  have hs := sz_pos i (rowOf_lt hr)
  rw [good_some hr, if_neg (by omega)]
theorem good_take {l : List UInt8} {p m : Nat} (h : goodOf l = some (p, m)) (j : Nat) (hj : m ≤ j) : goodOf (l.take j) = some (p, m) := by
  obtain ⟨a, r, i, rfl, hr, rfl, hf, rfl⟩ := good_iff h
  have hs := sz_pos i (rowOf_lt hr)
  obtain ⟨j', rfl⟩ : ∃ j', j = j' + 1 := ⟨j - 1, by omega⟩
  have e := ptL_take (a :: r) ((a.toNat : Int) - tMk i) (j' + 1) (tSz i - 1) (by omega)
  rw [List.take_succ_cons] at e
  rw [List.take_succ_cons, good_mk hr (by rw [fits_take _ _ _ j' r (by omega)]; exact hf), e]
theorem good_untake {l : List UInt8} {p m : Nat} (j : Nat) (h : goodOf (l.take j) = some (p, m)) : goodOf l = some (p, m) := by
  obtain ⟨a, r, i, e, hr, rfl, hf, rfl⟩ := good_iff h
  have hs := sz_pos i (rowOf_lt hr)
  cases l with
  | nil => simp at e
  | cons b l =>
    cases j with
    | zero => simp at e
    | succ j =>
      rw [List.take_succ_cons] at e
      simp only [List.cons.injEq] at e
      obtain ⟨rfl, rfl⟩ := e
      have hle := fits_le (tLo2 i) (tHi2 i) (tSz i - 1) (l.take j)
      rw [List.length_take] at hle
      rw [hf] at hle
      rw [fits_take _ _ _ j l (by omega)] at hf
      have e := ptL_take (b :: l) ((b.toNat : Int) - tMk i) (j + 1) (tSz i - 1) (by omega)
      rw [List.take_succ_cons] at e
      rw [good_mk hr hf, e]
theorem good_len {l : List UInt8} {p m : Nat} (h : goodOf l = some (p, m)) : m ≤ l.length ∧ 1 ≤ m ∧ m ≤ 4 := by
  obtain ⟨a, r, i, rfl, hr, rfl, hf, rfl⟩ := good_iff h
  have hs := sz_pos i (rowOf_lt hr)
  have hle := fits_le (tLo2 i) (tHi2 i) (tSz i - 1) r
  simp only [List.length_cons]
  omega
/-- The bytes behind the lead byte. -/
theorem good_more {l : List UInt8} {p m : Nat} (h : goodOf l = some (p, m)) (j : Nat) (h0 : 0 < j) (hj : j < m) : 128 ≤ (l.getD j 0).toNat ∧ (l.getD j 0).toNat ≤ 191 := by
  obtain ⟨a, r, i, rfl, hr, rfl, hf, rfl⟩ := good_iff h
  have hs := sz_pos i (rowOf_lt hr)
  exact (good_parts hr (by omega)).2.2.2 j h0 hj
theorem row_lead {c i : Nat} (hc : c < 256) (h : rowOf c = some i) : c < 128 ∨ 194 ≤ c := by
  rcases row_cases c hc with q | q | q | q | q | q | q | q | q | q | q | q | q
  case inr.inl => rw [q.1] at h; cases h
  case inr.inr.inl => rw [q.1] at h; cases h
  all_goals omega
/-- A beginning, written out. -/
theorem begins_iff (l : List UInt8) : beginsL l = true ↔ ∃ a r i, l = a :: r ∧ rowOf a.toNat = some i ∧ fits (tLo2 i) (tHi2 i) (tSz i - 1) r = r.length ∧ r.length + 1 < tSz i := by
  cases l with
  | nil => simp [beginsL, begunOf]
  | cons a r =>
    cases hr : rowOf a.toNat with
    | none =>
      rw [beginsL, begun_none hr]
      simp only [Bool.false_eq_true, false_iff]
      rintro ⟨a', r', i, e, h, _⟩
      simp only [List.cons.injEq] at e
      obtain ⟨rfl, rfl⟩ := e
      rw [hr] at h; cases h
    | some i =>
      rw [begins_some hr]
      simp only [List.length_cons, Bool.and_eq_true, beq_iff_eq, decide_eq_true_eq]
      constructor
      · intro h; exact ⟨a, r, i, rfl, hr, by omega, h.2⟩
      · rintro ⟨a', r', i', e, h, h1, h2⟩
        simp only [List.cons.injEq] at e
        obtain ⟨rfl, rfl⟩ := e
        obtain rfl := Option.some.inj (hr.symm.trans h)
        exact ⟨by omega, h2⟩
/-- A part of a well-formed sequence is a beginning. -/
theorem good_begins {l : List UInt8} {p m : Nat} (h : goodOf l = some (p, m)) (q : Nat) (h0 : 0 < q) (hq : q < m) : beginsL (l.take q) = true := by
  have hl := good_len h
  obtain ⟨a, r, i, rfl, hr, rfl, hf, rfl⟩ := good_iff h
  obtain ⟨q', rfl⟩ : ∃ q', q = q' + 1 := ⟨q - 1, by omega⟩
  simp only [List.length_cons] at hl
  rw [begins_iff, List.take_succ_cons]
  refine ⟨a, r.take q', i, rfl, hr, ?_, ?_⟩
  · rw [List.length_take, fits_short _ _ _ q' r (by omega) hf]; omega
  · rw [List.length_take]; omega
theorem cutFrom_le (l : List UInt8) (n : Nat) : cutFrom l n ≤ n := by
  induction n with
  | zero => simp [cutFrom]
  | succ n ih => rw [cutFrom]; split <;> omega
theorem cutFrom_max (l : List UInt8) (n q : Nat) (hq : q ≤ n) (hb : beginsL (l.drop (l.length - q)) = true) : q ≤ cutFrom l n := by
  induction n with
  | zero => omega
  | succ n ih =>
    rw [cutFrom]
    split
    · exact hq
    · rename_i h
      by_cases e : q = n + 1
      · subst e; exact absurd hb h
      · exact ih (by omega)
theorem cutFrom_spec (l : List UInt8) (n : Nat) (h : cutFrom l n ≠ 0) : beginsL (l.drop (l.length - cutFrom l n)) = true := by
  induction n with
  | zero => simp [cutFrom] at h
  | succ n ih =>
    rw [cutFrom] at h ⊢
    split
    · assumption
    · rename_i hb
      rw [if_neg hb] at h
      exact ih h
theorem cutOf_le (l : List UInt8) : cutOf l ≤ 3 ∧ cutOf l ≤ l.length := by
  have := cutFrom_le l (min 3 l.length)
  rw [cutOf]
  omega
/-- No unit of the whole goes over the place that Cut tells. -/
theorem no_straddle (A B : List UInt8) (k p m : Nat) (hk : k < A.length - cutOf A) (h : goodOf ((A ++ B).drop k) = some (p, m)) : k + m ≤ A.length - cutOf A := by
  have hc := cutOf_le A
  have hm := good_len h
  rcases Nat.lt_or_ge (A.length - cutOf A) (k + m) with hgt | hle
  · exfalso
    rcases Nat.lt_or_ge A.length (k + m) with h1 | h1
    · have hb := good_begins h (A.length - k) (by omega) (by omega)
      have e : ((A ++ B).drop k).take (A.length - k) = A.drop (A.length - (A.length - k)) := by
        rw [List.drop_append_of_le_length (by omega), List.take_append_of_le_length (by rw [List.length_drop]; omega), List.take_of_length_le (by rw [List.length_drop]; omega)]
        congr 1; omega
      rw [e] at hb
      have := cutFrom_max A (min 3 A.length) (A.length - k) (by omega) hb
      rw [cutOf] at hk
      omega
    · have hc0 : cutOf A ≠ 0 := by omega
      have hb := cutFrom_spec A (min 3 A.length) (by rw [cutOf] at hc0; exact hc0)
      rw [← cutOf, begins_iff] at hb
      obtain ⟨a, r, i, e, hr, _, _⟩ := hb
      have hmo := good_more h (A.length - cutOf A - k) (by omega) (by omega)
      have ha : ((A ++ B).drop k).getD (A.length - cutOf A - k) 0 = a := by
        have e2 := congrArg (·[0]?) e
        simp only [List.getElem?_drop, List.getElem?_cons_zero, Nat.add_zero] at e2
        rw [List.getD_eq_getElem?_getD, List.getElem?_drop, show k + (A.length - cutOf A - k) = A.length - cutOf A by omega, List.getElem?_append_left (by omega), e2]
        rfl
      rw [ha] at hmo
      have := row_lead a.toNat_lt hr
      omega
  · exact hle
theorem uni_same (A B : List UInt8) (k : Nat) (hk : k < A.length - cutOf A) :
    uniOf ((A ++ B).drop k) = uniOf ((A.take (A.length - cutOf A)).drop k) ∧ k + (uniOf ((A ++ B).drop k)).2 ≤ A.length - cutOf A := by
  have hc := cutOf_le A
  have e : (A.take (A.length - cutOf A)).drop k = ((A ++ B).drop k).take (A.length - cutOf A - k) := by
    rw [List.drop_append_of_le_length (by omega), List.take_append_of_le_length (by rw [List.length_drop]; omega), List.drop_take]
  have hg : goodOf ((A ++ B).drop k) = goodOf (((A ++ B).drop k).take (A.length - cutOf A - k)) := by
    cases h : goodOf ((A ++ B).drop k) with
    | some q =>
      obtain ⟨p, m⟩ := q
      have := no_straddle A B k p m hk h
      rw [good_take h _ (by omega)]
    | none =>
      cases h2 : goodOf (((A ++ B).drop k).take (A.length - cutOf A - k)) with
      | none => rfl
      | some q =>
        obtain ⟨p, m⟩ := q
        rw [good_untake _ h2] at h
        cases h
  constructor
  · rw [uniOf, uniOf, e, ← hg]
  · rw [uniOf]
    cases h : goodOf ((A ++ B).drop k) with
    | none => show k + 1 ≤ _; omega
    | some q =>
      obtain ⟨p, m⟩ := q
      exact no_straddle A B k p m hk h
theorem units_head (A B : List UInt8) : ∀ (d k : Nat), A.length - cutOf A - k ≤ d → k ≤ A.length - cutOf A → unitsAt (A ++ B) k = unitsAt (A.take (A.length - cutOf A)) k ++ unitsAt (A ++ B) (A.length - cutOf A) := by
  have hc := cutOf_le A
  intro d
  induction d with
  | zero =>
    intro k h1 h2
    obtain rfl : k = A.length - cutOf A := by omega
    rw [unitsAt_end (A.take (A.length - cutOf A)) _ (by rw [List.length_take]; omega), List.nil_append]
  | succ d ih =>
    intro k h1 h2
    by_cases hk : k = A.length - cutOf A
    · subst hk
      rw [unitsAt_end (A.take (A.length - cutOf A)) _ (by rw [List.length_take]; omega), List.nil_append]
    · obtain ⟨u1, u2⟩ := uni_same A B k (by omega)
      have hs : 1 ≤ (uniOf ((A ++ B).drop k)).2 := by
        cases h : (A ++ B).drop k with
        | nil => have := congrArg List.length h; simp at this; omega
        | cons a r => exact (uni_size a r).1
      rw [unitsAt_step (A ++ B) k (by simp; omega), unitsAt_step (A.take (A.length - cutOf A)) k (by rw [List.length_take]; omega), ← u1, ih _ (by omega) u2]
      rfl
def shiftU (n : Nat) (us : List (Int × Nat × Nat)) : List (Int × Nat × Nat) := us.map fun u => (u.1, u.2.1 + n, u.2.2 + n)
theorem unitsF_shift (f : Nat) : ∀ (n k : Nat) (l : List UInt8), unitsF f (k + n) l = shiftU n (unitsF f k l) := by
  induction f with
  | zero => intro n k l; rfl
  | succ f ih =>
    intro n k l
    cases l with
    | nil => rfl
    | cons a l =>
      rw [unitsF, unitsF, show k + n + (uniOf (a :: l)).2 = k + (uniOf (a :: l)).2 + n by omega, ih]
      rfl
theorem units_rest (L : List UInt8) (n : Nat) : unitsAt L n = shiftU n (unitsOf (L.drop n)) := by
  rw [unitsOf, unitsAt, unitsAt, List.drop_zero, Nat.sub_zero, List.length_drop]
  have := unitsF_shift (L.length - n) n 0 (L.drop n)
  rw [Nat.zero_add] at this
  exact this
/-- The units of the whole: those of the beginning, then those of the rest. -/
theorem units_pieces (A B : List UInt8) : unitsOf (A ++ B) = unitsOf (A.take (A.length - cutOf A)) ++ shiftU (A.length - cutOf A) (unitsOf (A.drop (A.length - cutOf A) ++ B)) := by
  have hc := cutOf_le A
  have h := units_head A B _ 0 (Nat.le_refl _) (Nat.zero_le _)
  rw [units_rest (A ++ B) (A.length - cutOf A), List.drop_append_of_le_length (by omega)] at h
  exact h
end Go.Proofs.YtoopigkndomdgabDoor
