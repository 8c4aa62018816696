/-
  What Cut says of a text's end can still become one unit, and else is bad bytes.
-/
import Derived.Test.YtoopigkndomdgaaDoorPiecesM
import Derived.Test.YtoopigkndomdgaaDoorNextW
namespace Go.Proofs.YtoopigkndomdgaaDoor
open Go.RowKit
def endsL : List (List UInt8) := [[128], [144], [160], [128, 128], [144, 128], [160, 128], [128, 128, 128], [144, 128, 128]]
theorem fits_app (n : Nat) : ∀ (lo hi : Nat) (l e : List UInt8), fits lo hi n l = l.length → l.length ≤ n → fits lo hi n (l ++ e) = l.length + fits (if l = [] then lo else 128) (if l = [] then hi else 191) (n - l.length) e := by
  induction n with
  | zero =>
    intro lo hi l e _ h2
    have : l = [] := List.length_eq_zero_iff.1 (by omega)
    subst this
    simp
  | succ n ih =>
    intro lo hi l e h1 h2
    cases l with
    | nil => simp
    | cons b l =>
      rw [fits_cons] at h1
      rw [List.cons_append, fits_cons]
      split at h1
      · rename_i hb
        rw [if_pos hb]
        simp only [List.length_cons] at h1 h2
        rw [ih 128 191 l e (by omega) (by omega)]
        simp only [List.length_cons, reduceCtorEq, if_false]
        by_cases hl : l = []
        · subst hl; simp; omega
        · rw [if_neg hl, if_neg hl, show n + 1 - (l.length + 1) = n - l.length by omega]; omega
      · simp at h1
theorem seconds : ∀ i < 9, 1 < tSz i → (tLo2 i ≤ 128 ∧ 128 ≤ tHi2 i) ∨ (tSz i = 3 ∧ tLo2 i ≤ 160 ∧ 160 ≤ tHi2 i) ∨ (tSz i = 4 ∧ tLo2 i ≤ 144 ∧ 144 ≤ tHi2 i) := by decide
theorem fits_80s (lo hi : Nat) (b : UInt8) (h : lo ≤ b.toNat ∧ b.toNat ≤ hi) : fits lo hi 1 [b] = 1 ∧ fits lo hi 2 [b, 128] = 2 ∧ fits lo hi 3 [b, 128, 128] = 3 := by
  have e : (128 : UInt8).toNat = 128 := rfl
  refine ⟨?_, ?_, ?_⟩ <;> simp only [fits_cons, fits_zero, if_pos h, e]
  all_goals try simp
/-- There is an end that makes a beginning whole. -/
theorem held_end (t : List UInt8) (h : beginsL t = true) : ∃ e ∈ endsL, ∃ p, goodOf (t ++ e) = some (p, t.length + e.length) := by
  obtain ⟨a, r, i, rfl, hr, hf, hl⟩ := (begins_iff t).1 h
  have hi := rowOf_lt hr
  have hs := sz_pos i hi
  have key : ∀ e : List UInt8, fits (if r = [] then tLo2 i else 128) (if r = [] then tHi2 i else 191) (tSz i - 1 - r.length) e = tSz i - 1 - r.length → e.length = tSz i - 1 - r.length → ∃ p, goodOf (a :: r ++ e) = some (p, (a :: r).length + e.length) := by
    intro e h1 h2
    have hfa := fits_app (tSz i - 1) (tLo2 i) (tHi2 i) r e hf (by omega)
    rw [h1] at hfa
    obtain ⟨p, hp⟩ : ∃ p, goodOf (a :: (r ++ e)) = some (p, tSz i) := ⟨_, good_mk hr (by omega)⟩
    exact ⟨p, by rw [List.cons_append, hp, h2, List.length_cons, show r.length + 1 + (tSz i - 1 - r.length) = tSz i by omega]⟩
  have e80 : (128 : UInt8).toNat = 128 := rfl
  have e90 : (144 : UInt8).toNat = 144 := rfl
  have ea0 : (160 : UInt8).toNat = 160 := rfl
  by_cases hr0 : r = []
  · subst hr0
    simp only [List.length_nil, if_true, Nat.sub_zero] at key hl
    rcases seconds i hi (by omega) with h2 | ⟨h3, h2⟩ | ⟨h3, h2⟩
    · obtain ⟨x, y, z⟩ := fits_80s (tLo2 i) (tHi2 i) 128 (by rw [e80]; exact h2)
      obtain hz | hz | hz : tSz i = 2 ∨ tSz i = 3 ∨ tSz i = 4 := by omega
      · rw [hz] at key; exact ⟨[128], by simp [endsL], key [128] x rfl⟩
      · rw [hz] at key; exact ⟨[128, 128], by simp [endsL], key [128, 128] y rfl⟩
      · rw [hz] at key; exact ⟨[128, 128, 128], by simp [endsL], key [128, 128, 128] z rfl⟩
    · obtain ⟨x, y, z⟩ := fits_80s (tLo2 i) (tHi2 i) 160 (by rw [ea0]; exact h2)
      rw [h3] at key; exact ⟨[160, 128], by simp [endsL], key [160, 128] y rfl⟩
    · obtain ⟨x, y, z⟩ := fits_80s (tLo2 i) (tHi2 i) 144 (by rw [e90]; exact h2)
      rw [h3] at key; exact ⟨[144, 128, 128], by simp [endsL], key [144, 128, 128] z rfl⟩
  · have hpos : 0 < r.length := by cases r with | nil => exact absurd rfl hr0 | cons _ _ => simp
    rw [if_neg hr0, if_neg hr0] at key
    obtain ⟨x, y, z⟩ := fits_80s 128 191 128 (by rw [e80]; omega)
    obtain hz | hz : tSz i - 1 - r.length = 1 ∨ tSz i - 1 - r.length = 2 := by omega
    · rw [hz] at key; exact ⟨[128], by simp [endsL], key [128] x rfl⟩
    · rw [hz] at key; exact ⟨[128, 128], by simp [endsL], key [128, 128] y rfl⟩
theorem edgeFrom_true (l : List UInt8) (k : Nat) : ∀ n j, (∀ i, j ≤ i → i < j + n → i + wszOf (l.drop i) ≤ k) → edgeFrom l k n j = true := by
  intro n
  induction n with
  | zero => intro j _; rfl
  | succ n ih =>
    intro j h
    have := h j (Nat.le_refl _) (by omega)
    rw [edgeFrom, if_neg (by omega)]
    exact ih (j + 1) (fun i h1 h2 => h i (by omega) (by omega))
/-- The place that Cut tells is an edge, whatever follows. -/
theorem cut_edge (A B : List UInt8) : edgeL (A ++ B) (A.length - cutOf A) = true := by
  refine edgeFrom_true _ _ _ _ (fun i h1 h2 => ?_)
  unfold wszOf
  cases h : goodOf ((A ++ B).drop i) with
  | none => show i + 0 ≤ _; omega
  | some q =>
    obtain ⟨p, m⟩ := q
    exact no_straddle A B i p m (by omega) h
/-- The test of one end. -/
def endTest (A e : List UInt8) : Bool := match goodOf ((A ++ e).drop (A.length - cutOf A)) with
  | none => false
  | some (_, m) => A.length - cutOf A + m == A.length + e.length
theorem held_found (A : List UInt8) (h : cutOf A ≠ 0) : endsL.any (endTest A) = true := by
  have hc := cutOf_le A
  have hb := cutFrom_spec A (min 3 A.length) (by rw [cutOf] at h; exact h)
  rw [← cutOf] at hb
  obtain ⟨e, he, p, hg⟩ := held_end _ hb
  rw [List.any_eq_true]
  refine ⟨e, he, ?_⟩
  rw [endTest, List.drop_append_of_le_length (by omega), hg, List.length_drop]
  simp
  omega
/-- Bad bytes, one behind the other. -/
def badU (k : Nat) : Nat → List (Int × Nat × Nat)
  | 0 => []
  | n + 1 => (-1, k, k + 1) :: badU (k + 1) n
theorem badU_length (k n : Nat) : (badU k n).length = n := by
  induction n generalizing k with
  | zero => rfl
  | succ n ih => rw [badU, List.length_cons, ih]
theorem badU_bad (k n : Nat) : ∀ u ∈ badU k n, u.1 = -1 := by
  induction n generalizing k with
  | zero => intro u hu; simp [badU] at hu
  | succ n ih =>
    intro u hu
    rw [badU] at hu
    rcases List.mem_cons.1 hu with rfl | h
    · rfl
    · exact ih (k + 1) u h
theorem fits_len (n : Nat) : ∀ (lo hi : Nat) (l : List UInt8), 128 ≤ lo → hi ≤ 191 → fits lo hi n l = l.length → ∀ j < l.length, 128 ≤ (l.getD j 0).toNat ∧ (l.getD j 0).toNat ≤ 191 := by
  induction n with
  | zero => intro lo hi l _ _ h j hj; rw [fits_zero] at h; omega
  | succ n ih =>
    intro lo hi l h1 h2 h j hj
    cases l with
    | nil => simp at hj
    | cons b l =>
      rw [fits_cons] at h
      split at h
      · rename_i hb
        cases j with
        | zero => simp; omega
        | succ j =>
          have := ih 128 191 l (by omega) (by omega) (by simpa using h) j (by simpa using hj)
          simpa using this
      · simp at h
theorem held_none (A : List UInt8) (j : Nat) (h1 : A.length - cutOf A ≤ j) (h2 : j < A.length) : goodOf (A.drop j) = none := by
  have hc := cutOf_le A
  have hb := cutFrom_spec A (min 3 A.length) (by rw [← cutOf]; omega)
  rw [← cutOf, begins_iff] at hb
  obtain ⟨a, r, i, e, hr, hf, hl⟩ := hb
  have hlen := congrArg List.length e
  rw [List.length_drop, List.length_cons] at hlen
  have hs := sz_pos i (rowOf_lt hr)
  by_cases hj : j = A.length - cutOf A
  · subst hj
    rw [e, good_some hr, if_pos (by omega)]
  · obtain ⟨m, rfl⟩ : ∃ m, j = A.length - cutOf A + (m + 1) := ⟨j - (A.length - cutOf A) - 1, by omega⟩
    have hd : A.drop (A.length - cutOf A + (m + 1)) = r.drop m := by rw [← List.drop_drop, e, List.drop_succ_cons]
    obtain ⟨m1, m2, m3⟩ := tab_mk i (rowOf_lt hr)
    have hb2 : 128 ≤ (r.getD m 0).toNat ∧ (r.getD m 0).toNat ≤ 191 := by
      have := fits_len (tSz i - 1) (tLo2 i) (tHi2 i) r (m3 (by omega)).1 (m3 (by omega)).2 hf
      exact this m (by omega)
    have hm : m < r.length := by omega
    rw [hd, List.drop_eq_getElem_cons hm]
    have hg : r.getD m 0 = r[m] := by simp [List.getD_eq_getElem?_getD, hm]
    rw [hg] at hb2
    cases hq : rowOf r[m].toNat with
    | none => exact good_none hq
    | some i' => have := row_lead r[m].toNat_lt hq; omega
theorem units_held (A : List UInt8) : ∀ (n k : Nat), k + n = A.length → A.length - cutOf A ≤ k → unitsAt A k = badU k n := by
  intro n
  induction n with
  | zero => intro k h _; rw [unitsAt_end A k (by omega)]; rfl
  | succ n ih =>
    intro k h hk
    have hu : uniOf (A.drop k) = (-1, 1) := by rw [uniOf, held_none A k hk (by omega)]
    rw [unitsAt_step A k (by omega), hu, badU]
    show _ :: unitsAt A (k + 1) = _
    rw [ih (k + 1) (by omega) (by omega)]
theorem units_end (A : List UInt8) : unitsOf A = unitsOf (A.take (A.length - cutOf A)) ++ badU (A.length - cutOf A) (cutOf A) := by
  have hc := cutOf_le A
  have h := units_head A [] _ 0 (Nat.le_refl _) (Nat.zero_le _)
  rw [List.append_nil] at h
  rw [units_held A (cutOf A) (A.length - cutOf A) (by omega) (Nat.le_refl _)] at h
  exact h
end Go.Proofs.YtoopigkndomdgaaDoor
