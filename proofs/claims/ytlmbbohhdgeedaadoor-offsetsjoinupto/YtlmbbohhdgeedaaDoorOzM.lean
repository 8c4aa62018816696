/-
  A text's places counted in each way: the mathematics of layer 26.
-/
import Derived.Test.YtlmbbohhdgeedaaDoorNearM
namespace Go.Proofs.YtlmbbohhdgeedaaDoor
open Go.RowKit
/-- What stands ahead of a place: bytes, units, widths; its line and column. -/
structure Pl where
  b : Nat
  u : Nat
  w : Nat
  l : Nat
  c : Nat
def widP (p : Int) : Nat := if 65535 < p then 2 else 1
/-- The place behind a unit. -/
def stP (p : Pl) (x : Int × Nat × Nat) : Pl := ⟨x.2.2, p.u + 1, p.w + widP x.1, if x.1 = 10 then p.l + 1 else p.l, if x.1 = 10 then 1 else p.c + 1⟩
def p0 : Pl := ⟨0, 0, 0, 1, 1⟩
/-- The place behind the first k units. -/
def stK (U : List (Int × Nat × Nat)) (k : Nat) : Pl := (U.take k).foldl stP p0
/-- The first n places. -/
def plN (U : List (Int × Nat × Nat)) (n : Nat) : List Pl := (List.range n).map (stK U)
theorem plN_len (U : List (Int × Nat × Nat)) (n : Nat) : (plN U n).length = n := by simp [plN]
theorem plN_at (U : List (Int × Nat × Nat)) (n k : Nat) (h : k < (plN U n).length) : (plN U n)[k] = stK U k := by simp [plN]
theorem plN_snoc (U : List (Int × Nat × Nat)) (n : Nat) : plN U (n + 1) = plN U n ++ [stK U n] := by simp [plN, List.range_succ]
theorem stK_zero (U : List (Int × Nat × Nat)) : stK U 0 = p0 := rfl
theorem stK_step (U : List (Int × Nat × Nat)) (k : Nat) (h : k < U.length) : stK U (k + 1) = stP (stK U k) U[k] := by
  rw [stK, stK, List.take_add_one, List.getElem?_eq_getElem h, Option.toList_some, List.foldl_append]
  rfl
theorem wid_pos (p : Int) : 1 ≤ widP p ∧ widP p ≤ 2 := by unfold widP; split <;> omega
/-- Where the k-th unit begins. -/
def posK (l : List UInt8) : Nat → Nat
  | 0 => 0
  | k + 1 => posK l k + (uniOf (l.drop (posK l k))).2
theorem posK_drop (l : List UInt8) : ∀ k, k ≤ (unitsOf l).length → posK l k ≤ l.length ∧ (unitsOf l).drop k = unitsAt l (posK l k) ∧ clean l (posK l k) := by
  intro k
  induction k with
  | zero => intro _; exact ⟨Nat.zero_le _, rfl, clean_zero l⟩
  | succ k ih =>
    intro h
    obtain ⟨h1, h2, h3⟩ := ih (by omega)
    have hlt : posK l k < l.length := by
      rcases Nat.lt_or_ge (posK l k) l.length with q | q
      · exact q
      · rw [unitsAt_end l _ q] at h2
        have := congrArg List.length h2
        rw [List.length_drop, List.length_nil] at this
        omega
    have hs := drop_size l _ hlt
    rw [unitsAt_step l _ hlt] at h2
    refine ⟨hs.2.1, ?_, clean_next h3⟩
    rw [posK, ← List.drop_drop, h2]
    rfl
/-- The k-th unit. -/
theorem units_at (l : List UInt8) (k : Nat) (h : k < (unitsOf l).length) : posK l k < l.length ∧ (unitsOf l)[k] = unitU l (posK l k) ∧ (unitsOf l)[k] = ((uniOf (l.drop (posK l k))).1, posK l k, posK l (k + 1)) ∧ posK l k < posK l (k + 1) := by
  obtain ⟨h1, h2, h3⟩ := posK_drop l k (by omega)
  have hlt : posK l k < l.length := by
    rcases Nat.lt_or_ge (posK l k) l.length with q | q
    · exact q
    · rw [unitsAt_end l _ q] at h2
      have := congrArg List.length h2
      rw [List.length_drop, List.length_nil] at this
      omega
  have hs := drop_size l _ hlt
  have e : (unitsOf l)[k] = unitU l (posK l k) := by
    rw [List.drop_eq_getElem_cons h, unitsAt_step l _ hlt] at h2
    exact (List.cons.inj h2).1
  refine ⟨hlt, e, e, ?_⟩
  rw [posK]
  omega
theorem posK_end (l : List UInt8) : posK l (unitsOf l).length = l.length := by
  obtain ⟨h1, h2, h3⟩ := posK_drop l _ (Nat.le_refl _)
  rw [List.drop_length] at h2
  rcases Nat.lt_or_ge (posK l (unitsOf l).length) l.length with q | q
  · rw [unitsAt_step l _ q] at h2; cases h2
  · omega
theorem stK_b (l : List UInt8) : ∀ k, k ≤ (unitsOf l).length → (stK (unitsOf l) k).b = posK l k ∧ (stK (unitsOf l) k).u = k := by
  intro k
  induction k with
  | zero => intro _; exact ⟨rfl, rfl⟩
  | succ k ih =>
    intro h
    obtain ⟨_, _, h3, _⟩ := units_at l k (by omega)
    rw [stK_step _ k (by omega), h3]
    exact ⟨rfl, by simp only [stP]; rw [(ih (by omega)).2]⟩
/-- One place lies behind another one in all ways. -/
def Bef (p q : Pl) : Prop := p.b < q.b ∧ p.u < q.u ∧ p.w < q.w ∧ (p.l < q.l ∨ p.l = q.l ∧ p.c < q.c)
theorem Bef.trans {p q r : Pl} (h : Bef p q) (k : Bef q r) : Bef p r := by
  obtain ⟨h1, h2, h3, h4⟩ := h
  obtain ⟨k1, k2, k3, k4⟩ := k
  exact ⟨by omega, by omega, by omega, by omega⟩
theorem stK_next (l : List UInt8) (k : Nat) (h : k < (unitsOf l).length) : Bef (stK (unitsOf l) k) (stK (unitsOf l) (k + 1)) := by
  obtain ⟨_, _, h3, h4⟩ := units_at l k h
  have hb := stK_b l k (by omega)
  have hw := wid_pos (unitsOf l)[k].1
  rw [stK_step _ k h]
  refine ⟨?_, by simp [stP], by simp only [stP]; omega, ?_⟩
  · rw [h3, hb.1]; exact h4
  · simp only [stP]
    by_cases e : (unitsOf l)[k].1 = 10
    · rw [if_pos e]; omega
    · rw [if_neg e, if_neg e]; omega
theorem stK_bef (l : List UInt8) (i : Nat) : ∀ j, i < j → j ≤ (unitsOf l).length → Bef (stK (unitsOf l) i) (stK (unitsOf l) j) := by
  intro j
  induction j with
  | zero => intro h; omega
  | succ j ih =>
    intro h hj
    by_cases e : i = j
    · subst e; exact stK_next l i (by omega)
    · exact (ih (by omega) (by omega)).trans (stK_next l j (by omega))
/-- No number is greater than what the text's length allows. -/
theorem stK_le (l : List UInt8) : ∀ k, k ≤ (unitsOf l).length → (stK (unitsOf l) k).b ≤ l.length ∧ (stK (unitsOf l) k).u ≤ k ∧ (stK (unitsOf l) k).w ≤ 2 * k ∧ 1 ≤ (stK (unitsOf l) k).l ∧ (stK (unitsOf l) k).l ≤ k + 1 ∧ 1 ≤ (stK (unitsOf l) k).c ∧ (stK (unitsOf l) k).c ≤ k + 1 := by
  intro k
  induction k with
  | zero => intro _; simp [stK, p0]
  | succ k ih =>
    intro h
    obtain ⟨a1, a2, a3, a4, a5, a6, a7⟩ := ih (by omega)
    have hb := stK_b l (k + 1) h
    have hp := (posK_drop l (k + 1) h).1
    have hw := wid_pos (unitsOf l)[k].1
    refine ⟨by rw [hb.1]; exact hp, by rw [hb.2]; exact Nat.le_refl _, ?_⟩
    rw [stK_step _ k (by omega)]
    simp only [stP]
    by_cases e : (unitsOf l)[k].1 = 10
    · rw [if_pos e, if_pos e]; omega
    · rw [if_neg e, if_neg e]; omega
/-- Which way -1, 0, 1 says a number stands to another one. -/
def cmpI (x y : Int) : Int := if x < y then -1 else if y < x then 1 else 0
/-- A question that rises along a list. -/
def Rises (sg : Pl → Int) (L : List Pl) : Prop := ∀ i j (hi : i < j) (hj : j < L.length), 0 ≤ sg (L[i]'(by omega)) → 0 < sg L[j]
/-- The one that is neither less nor greater. -/
def hit (sg : Pl → Int) (L : List Pl) : Option Pl := L.find? (fun p => sg p == 0)
theorem hit_at {sg : Pl → Int} {L : List Pl} (hr : Rises sg L) (k : Nat) (hk : k < L.length) (h0 : sg L[k] = 0) : hit sg L = some L[k] := by
  rw [hit, List.find?_eq_some_iff_getElem]
  refine ⟨by simpa using h0, k, hk, rfl, fun j hj => ?_⟩
  have := hr j k hj hk
  simp only [Bool.not_eq_true', beq_eq_false_iff_ne, ne_eq]
  intro e
  rw [e] at this
  have := this (Int.le_refl _)
  omega
theorem hit_none {sg : Pl → Int} {L : List Pl} (h : ∀ k (hk : k < L.length), sg L[k] ≠ 0) : hit sg L = none := by
  rw [hit, List.find?_eq_none]
  intro p hp
  obtain ⟨k, hk, rfl⟩ := List.getElem_of_mem hp
  simpa using h k hk
def sgB (at_ : Int) (p : Pl) : Int := cmpI p.b at_
def sgU (at_ : Int) (p : Pl) : Int := cmpI p.u at_
def sgW (at_ : Int) (p : Pl) : Int := cmpI p.w at_
def sgL (a b : Int) (p : Pl) : Int := if cmpI p.l a = 0 then cmpI p.c b else cmpI p.l a
def allP (l : List UInt8) : List Pl := plN (unitsOf l) ((unitsOf l).length + 1)
theorem allP_len (l : List UInt8) : (allP l).length = (unitsOf l).length + 1 := plN_len _ _
theorem allP_at (l : List UInt8) (k : Nat) (h : k < (allP l).length) : (allP l)[k] = stK (unitsOf l) k := plN_at _ _ _ h
theorem rises_of {l : List UInt8} {sg : Pl → Int} (h : ∀ p q, Bef p q → 0 ≤ sg p → 0 < sg q) : Rises sg (allP l) := by
  intro i j hi hj
  rw [allP_at, allP_at]
  rw [allP_len] at hj
  exact h _ _ (stK_bef l i j hi (by omega))
theorem risB (l : List UInt8) (x : Int) : Rises (sgB x) (allP l) := rises_of (fun p q h h0 => by
  have := h.1
  unfold sgB cmpI at *
  repeat' split at h0
  all_goals (repeat' split) <;> omega)
theorem risU (l : List UInt8) (x : Int) : Rises (sgU x) (allP l) := rises_of (fun p q h h0 => by
  have := h.2.1
  unfold sgU cmpI at *
  repeat' split at h0
  all_goals (repeat' split) <;> omega)
theorem risW (l : List UInt8) (x : Int) : Rises (sgW x) (allP l) := rises_of (fun p q h h0 => by
  have := h.2.2.1
  unfold sgW cmpI at *
  repeat' split at h0
  all_goals (repeat' split) <;> omega)
theorem risL (l : List UInt8) (x y : Int) : Rises (sgL x y) (allP l) := rises_of (fun p q h h0 => by
  have := h.2.2.2
  unfold sgL cmpI at *
  repeat' split at h0
  all_goals (repeat' split) <;> omega)
end Go.Proofs.YtlmbbohhdgeedaaDoor
