/-
  Edges are seen from the bytes near them; the units that begin and end there.
-/
import Derived.Test.YtlmbbohhdgeedaaDoorNextW
namespace Go.Proofs.YtlmbbohhdgeedaaDoor
open Go.RowKit
theorem good_cont {l : List UInt8} {p m : Nat} (h : goodOf l = some (p, m)) (j : Nat) (h0 : 0 < j) (hj : j < m) : goodOf (l.drop j) = none := by
  cases l with
  | nil => simp [goodOf, begunOf] at h
  | cons a r =>
    cases hr : rowOf a.toNat with
    | none => rw [good_none hr] at h; cases h
    | some i =>
      rw [good_some hr] at h
      split at h
      · cases h
      · rename_i hf
        simp only [Option.some.injEq, Prod.mk.injEq] at h
        obtain ⟨g1, _, _, g4⟩ := good_parts hr hf
        have hb := g4 j h0 (by omega)
        have hjl : j < (a :: r).length := by simp; omega
        rw [List.drop_eq_getElem_cons hjl]
        have hg : (a :: r).getD j 0 = (a :: r)[j] := by rw [List.getD_eq_getElem?_getD, List.getElem?_eq_getElem hjl]; rfl
        rw [hg] at hb
        cases hq : rowOf (a :: r)[j].toNat with
        | none => exact good_none hq
        | some i' =>
          rcases row_cases _ (a :: r)[j].toNat_lt with q | q | q | q | q | q | q | q | q | q | q | q | q
          case inr.inl => rw [q.1] at hq; cases hq
          all_goals omega
/-- No sequence ahead of the place goes over it. -/
def clean (l : List UInt8) (k : Nat) : Prop := ∀ i, i < k → i + wszOf (l.drop i) ≤ k
theorem clean_zero (l : List UInt8) : clean l 0 := fun i hi => by omega
theorem uni_wsz (l : List UInt8) : (uniOf l).2 = wszOf l ∨ ((uniOf l).2 = 1 ∧ wszOf l = 0) := by
  unfold uniOf wszOf
  cases goodOf l with
  | none => exact .inr ⟨rfl, rfl⟩
  | some q => exact .inl rfl
theorem inside {l : List UInt8} {j i : Nat} (h1 : j < i) (h2 : i < j + (uniOf (l.drop j)).2) : wszOf (l.drop i) = 0 := by
  have hg : goodOf ((l.drop j).drop (i - j)) = none := by
    cases h : goodOf (l.drop j) with
    | none => rw [uniOf, h] at h2; simp only at h2; omega
    | some q =>
      obtain ⟨p, m⟩ := q
      rw [uniOf, h] at h2
      exact good_cont h (i - j) (by omega) (by simp only at h2; omega)
  rw [List.drop_drop, show j + (i - j) = i by omega] at hg
  rw [wszOf, hg]
theorem clean_next {l : List UInt8} {j : Nat} (h : clean l j) : clean l (j + (uniOf (l.drop j)).2) := by
  intro i hi
  rcases Nat.lt_trichotomy i j with q | q | q
  · have := h i q; omega
  · subst q; rcases uni_wsz (l.drop i) with h' | h' <;> omega
  · rw [inside q hi]; omega
theorem edgeFrom_iff (l : List UInt8) (k : Nat) : ∀ n j, edgeFrom l k n j = true ↔ ∀ i, j ≤ i → i < j + n → i + wszOf (l.drop i) ≤ k := by
  intro n
  induction n with
  | zero => intro j; exact ⟨fun _ i h1 h2 => by omega, fun _ => rfl⟩
  | succ n ih =>
    intro j
    rw [edgeFrom]
    split
    · rename_i h
      constructor
      · intro q; cases q
      · intro q; have := q j (Nat.le_refl _) (by omega); omega
    · rename_i h
      rw [ih]
      constructor
      · intro q i h1 h2
        by_cases e : i = j
        · subst e; omega
        · exact q i (by omega) (by omega)
      · intro q i h1 h2; exact q i (by omega) (by omega)
theorem edge_clean {l : List UInt8} {k : Nat} (h : clean l k) : edgeL l k = true := (edgeFrom_iff l k _ _).2 (fun i h1 h2 => h i (by omega))
theorem edge_not {l : List UInt8} {j k : Nat} (h1 : j < k) (h2 : k < j + (uniOf (l.drop j)).2) (h4 : (uniOf (l.drop j)).2 ≤ 4) : edgeL l k = false := by
  cases h : edgeL l k with
  | false => rfl
  | true =>
    have := (edgeFrom_iff l k _ _).1 h j (by omega) (by omega)
    rcases uni_wsz (l.drop j) with q | q <;> omega
/-- The unit from a place on. -/
def unitU (l : List UInt8) (k : Nat) : Int × Nat × Nat := ((uniOf (l.drop k)).1, k, k + (uniOf (l.drop k)).2)
theorem drop_size (l : List UInt8) (k : Nat) (h : k < l.length) : 1 ≤ (uniOf (l.drop k)).2 ∧ k + (uniOf (l.drop k)).2 ≤ l.length ∧ (uniOf (l.drop k)).2 ≤ 4 := by
  cases h' : l.drop k with
  | nil => have := congrArg List.length h'; rw [List.length_drop] at this; simp at this; omega
  | cons a r =>
    have hl := congrArg List.length h'
    rw [List.length_drop, List.length_cons] at hl
    have := uni_size a r
    omega
theorem starts_ge (l : List UInt8) : ∀ (d j : Nat), l.length - j ≤ d → ∀ u ∈ unitsAt l j, j ≤ u.2.1 ∧ u.2.1 < l.length ∧ j < u.2.2 := by
  intro d
  induction d with
  | zero => intro j h u hu; rw [unitsAt_end l j (by omega)] at hu; simp at hu
  | succ d ih =>
    intro j h u hu
    by_cases hj : j < l.length
    · have hs := drop_size l j hj
      rw [unitsAt_step l j hj] at hu
      rcases List.mem_cons.1 hu with rfl | hu
      · simp only; omega
      · have := ih _ (by omega) u hu; omega
    · rw [unitsAt_end l j (by omega)] at hu; simp at hu
/-- The unit that begins at a place, in the list. -/
theorem find_start (l : List UInt8) (k : Nat) (hk : k < l.length) : ∀ (d j : Nat), l.length - j ≤ d → j ≤ k → clean l j → (unitsAt l j).find? (fun u => u.2.1 == k) = if edgeL l k then some (unitU l k) else none := by
  intro d
  induction d with
  | zero => intro j h hj; omega
  | succ d ih =>
    intro j h hjk hc
    have hs := drop_size l j (by omega)
    rw [unitsAt_step l j (by omega)]
    by_cases e : j = k
    · subst e
      rw [List.find?_cons_of_pos (by simp), edge_clean hc]
      rfl
    · rw [List.find?_cons_of_neg (by simpa using e)]
      by_cases hb : k < j + (uniOf (l.drop j)).2
      · rw [edge_not (by omega) hb hs.2.2]
        rw [List.find?_eq_none.2 (fun u hu => by have := starts_ge l _ _ (Nat.le_refl _) u hu; simp; omega)]
        rfl
      · exact ih _ (by omega) (by omega) (clean_next hc)
/-- The place at which the unit begins that ends here. -/
def prevFrom (l : List UInt8) (k : Nat) : Nat → Nat → Nat
  | 0, _ => k - 1
  | n + 1, j => if j + wszOf (l.drop j) = k then j else prevFrom l k n (j + 1)
def prevL (l : List UInt8) (k : Nat) : Nat := prevFrom l k (k - 1 - (k - 4)) (k - 4)
theorem prevFrom_at (l : List UInt8) (k b : Nat) : ∀ n j, (∀ i, j ≤ i → i < j + n → (i + wszOf (l.drop i) = k ↔ i = b)) → (b = k - 1 ∨ (j ≤ b ∧ b < j + n)) → (b = k - 1 → j + n ≤ b) → prevFrom l k n j = b := by
  intro n
  induction n with
  | zero =>
    intro j _ h _
    rw [prevFrom]
    rcases h with h | h <;> omega
  | succ n ih =>
    intro j hi hb hq
    rw [prevFrom]
    have h0 := hi j (Nat.le_refl _) (by omega)
    by_cases e : j = b
    · subst e; rw [if_pos (h0.2 rfl)]
    · rw [if_neg (fun q => e (h0.1 q))]
      refine ih (j + 1) (fun i h1 h2 => hi i (by omega) (by omega)) ?_ (fun q => by have := hq q; omega)
      rcases hb with h | h
      · exact .inl h
      · exact .inr (by omega)
/-- A unit of more than one byte is a sequence. -/
theorem prev_is {l : List UInt8} {b k : Nat} (hc : clean l b) (hb : b < l.length) (hk : k = b + (uniOf (l.drop b)).2) : prevL l k = b := by
  have hs := drop_size l b hb
  refine prevFrom_at l k b _ _ (fun i h1 h2 => ?_) ?_ (fun q => by omega)
  · constructor
    · intro h
      rcases Nat.lt_trichotomy i b with q | q | q
      · have := hc i q; omega
      · exact q
      · have := inside (l := l) q (by omega); omega
    · rintro rfl
      rcases uni_wsz (l.drop i) with q | q <;> omega
  · by_cases e : b = k - 1
    · exact .inl e
    · exact .inr (by omega)
/-- The unit that ends at a place, in the list. -/
theorem find_end (l : List UInt8) (k : Nat) (hk : k ≤ l.length) : ∀ (d j : Nat), l.length - j ≤ d → j < k → clean l j → (unitsAt l j).find? (fun u => u.2.2 == k) = if edgeL l k then some (unitU l (prevL l k)) else none := by
  intro d
  induction d with
  | zero => intro j h hj; omega
  | succ d ih =>
    intro j h hjk hc
    have hs := drop_size l j (by omega)
    rw [unitsAt_step l j (by omega)]
    by_cases e : j + (uniOf (l.drop j)).2 = k
    · rw [List.find?_cons_of_pos (by simpa using e), edge_clean (by rw [← e]; exact clean_next hc), prev_is hc (by omega) e.symm]
      rfl
    · rw [List.find?_cons_of_neg (by simpa using e)]
      by_cases hb : k < j + (uniOf (l.drop j)).2
      · rw [edge_not (by omega) hb hs.2.2]
        rw [List.find?_eq_none.2 (fun u hu => by have := starts_ge l _ _ (Nat.le_refl _) u hu; simp; omega)]
        rfl
      · exact ih _ (by omega) (by omega) (clean_next hc)
theorem next_find (l : List UInt8) (k : Nat) (hk : k < l.length) : (unitsOf l).find? (fun u => u.2.1 == k) = if edgeL l k then some (unitU l k) else none := find_start l k hk _ 0 (Nat.le_refl _) (Nat.zero_le _) (clean_zero l)
theorem prev_find (l : List UInt8) (k : Nat) (h0 : 0 < k) (hk : k ≤ l.length) : (unitsOf l).find? (fun u => u.2.2 == k) = if edgeL l k then some (unitU l (prevL l k)) else none := find_end l k hk _ 0 (Nat.le_refl _) h0 (clean_zero l)
end Go.Proofs.YtlmbbohhdgeedaaDoor
