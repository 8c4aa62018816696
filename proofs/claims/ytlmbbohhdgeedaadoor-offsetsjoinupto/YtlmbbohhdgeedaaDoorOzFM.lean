/-
  What offsets answers: mathematics of the searches.
-/
import Derived.Test.YtlmbbohhdgeedaaDoorOzDW
namespace Go.Proofs.YtlmbbohhdgeedaaDoor
open Go.RowKit
theorem belowDN {B : Nat} {a w : World} (h : Below B a w) (q : Nat) : Below B a (w.drewN q) := ⟨h.os, h.tape, h.output, h.size, h.block⟩
theorem cmpI_zero (x y : Int) : cmpI x y = 0 ↔ x = y := by unfold cmpI; (repeat' split) <;> omega
theorem sgL_zero (x y : Int) (p : Pl) : sgL x y p = 0 ↔ (p.l : Int) = x ∧ (p.c : Int) = y := by
  have h1 := cmpI_zero (p.l : Int) x
  have h2 := cmpI_zero (p.c : Int) y
  unfold sgL
  by_cases h : cmpI (p.l : Int) x = 0
  · rw [if_pos h, h2]; exact ⟨fun q => ⟨h1.1 h, q⟩, fun q => q.2⟩
  · rw [if_neg h]; exact ⟨fun q => absurd q h, fun q => h1.2 q.1⟩
/-- The place that is found, or noughts. -/
def getP (o : Option Pl) : Pl := o.getD ⟨0, 0, 0, 0, 0⟩
/-- What the program tells with it, and what the document does. -/
def errV (pe : Addr) : Option Pl → Value
  | some _ => .nilIface
  | none => .iface 107 (.pointer (some pe))
def numP : Option Pl → Int
  | some _ => 0
  | none => 1
/-- A search between two bounds. -/
structure BS (sg : Pl → Int) (L : List Pl) (lo hi : Nat) : Prop where
  le : lo ≤ hi
  len : hi ≤ L.length
  low : ∀ k (h : k < L.length), k < lo → sg L[k] < 0
  high : ∀ k (h : k < L.length), hi ≤ k → 0 < sg L[k]
theorem BS.start (sg : Pl → Int) (L : List Pl) : BS sg L 0 L.length := ⟨Nat.zero_le _, Nat.le_refl _, fun k _ h => absurd h (Nat.not_lt_zero _), fun k h h2 => by omega⟩
theorem BS.lower {sg : Pl → Int} {L : List Pl} {lo hi m : Nat} (h : BS sg L lo hi) (hr : Rises sg L) (h1 : lo ≤ m) (h2 : m < hi) (h3 : m < L.length) (hs : sg L[m] < 0) : BS sg L (m + 1) hi :=
  ⟨h2, h.len, fun k hk hkm => by
    by_cases e : k = m
    · subst e; exact hs
    · rcases Int.lt_or_le (sg L[k]) 0 with q | q
      · exact q
      · have := hr k m (by omega) h3 q
        omega, h.high⟩
theorem BS.upper {sg : Pl → Int} {L : List Pl} {lo hi m : Nat} (h : BS sg L lo hi) (hr : Rises sg L) (h1 : lo ≤ m) (h2 : m < hi) (h3 : m < L.length) (hs : 0 < sg L[m]) : BS sg L lo m :=
  ⟨h1, by omega, h.low, fun k hk hkm => by
    by_cases e : k = m
    · subst e; exact hs
    · exact hr m k (by omega) hk (by omega)⟩
theorem BS.none {sg : Pl → Int} {L : List Pl} {lo hi : Nat} (h : BS sg L lo hi) (he : ¬ lo < hi) : hit sg L = none :=
  hit_none (fun k hk => by
    by_cases e : k < lo
    · have := h.low k hk e; omega
    · have := h.high k hk (by omega); omega)
theorem hit_drop (sg : Pl → Int) (L : List Pl) (k : Nat) (hk : k < L.length) : (L.drop k).find? (fun p => sg p == 0) = if sg L[k] = 0 then some L[k] else (L.drop (k + 1)).find? (fun p => sg p == 0) := by
  rw [List.drop_eq_getElem_cons hk, List.find?_cons]
  by_cases h : sg L[k] = 0
  · rw [if_pos h, beq_iff_eq.2 h]
  · rw [if_neg h, beq_eq_false_iff_ne.2 h]
theorem hit_mem {sg : Pl → Int} {L : List Pl} {p : Pl} (h : hit sg L = some p) : p ∈ L := List.mem_of_find?_eq_some h
/-- Every place of a text of so many bytes: its numbers. -/
def Sm (p : Pl) (n : Nat) : Prop := p.b ≤ n ∧ p.u ≤ n ∧ p.w ≤ 2 * n ∧ p.l ≤ n + 1 ∧ p.c ≤ n + 1
theorem unitsA_le (l : List UInt8) : (unitsOf l).length ≤ l.length := by
  have := units_le ⟨l.toArray⟩
  have e1 : (ByteArray.mk l.toArray).size = l.length := by rw [ByteArray.size]; simp
  rw [e1] at this
  simpa using this
theorem allP_sm (l : List UInt8) (k : Nat) (h : k < (allP l).length) : Sm (allP l)[k] l.length := by
  rw [allP_at]
  rw [allP_len] at h
  obtain ⟨a1, a2, a3, _, a5, _, a7⟩ := stK_le l k (by omega)
  have := unitsA_le l
  exact ⟨a1, by omega, by omega, by omega, by omega⟩
/-- The unit's number finds the place itself. -/
theorem hitU_at (l : List UInt8) (k : Nat) (h : k < (allP l).length) : hit (sgU (k : Int)) (allP l) = some (allP l)[k] := by
  refine hit_at (risU l _) k h ?_
  rw [sgU, cmpI_zero, allP_at]
  rw [allP_len] at h
  rw [(stK_b l k (by omega)).2]
theorem hitU_none (l : List UInt8) (x : Int) (h : x < 0 ∨ ((allP l).length : Int) ≤ x) : hit (sgU x) (allP l) = none := by
  refine hit_none (fun k hk => ?_)
  rw [Ne, sgU, cmpI_zero, allP_at]
  rw [allP_len] at hk h
  rw [(stK_b l k (by omega)).2]
  omega
end Go.Proofs.YtlmbbohhdgeedaaDoor
