/-
  What the units of a text are, one by one.
-/
import Derived.Test.YtoopigkndomdgabDoorBackW
namespace Go.Proofs.YtoopigkndomdgabDoor
open Go.RowKit
theorem good_says {l : List UInt8} {p m : Nat} (h : goodOf l = some (p, m)) : scalarP (p : Int) = true ∧ encL p = l.take m := by
  rw [← refGood_eq] at h
  cases l with
  | nil => simp [refGood] at h
  | cons a r =>
    rw [refGood] at h
    split at h
    · cases h
    · split at h
      · cases h
      · split at h
        · rename_i hq
          simp only [Option.some.injEq, Prod.mk.injEq] at h
          obtain ⟨h1, h2⟩ := h
          have hn := ((scalar_iff _).1 hq.1).1
          rw [h1, h2] at hq
          refine ⟨?_, hq.2⟩
          have e : ((p : Nat) : Int) = ptL (a :: r) ((a.toNat : Int) - offL (sizeL a.toNat)) (sizeL a.toNat - 1) := by rw [← h1]; exact Int.toNat_of_nonneg hn
          rw [e, h2]
          exact hq.1
        · cases h
theorem next_at {l : List UInt8} {j : Nat} (hc : clean l j) (hj : j < l.length) : (unitsOf l).find? (atS (j : Int)) = some (unitU l j) := by
  rw [(find_nat _ j).1, next_find l j hj, edge_clean hc]; rfl
theorem prev_at {l : List UInt8} {j : Nat} (hc : clean l j) (hj : j < l.length) : (unitsOf l).find? (atE ((j + (uniOf (l.drop j)).2 : Nat) : Int)) = some (unitU l j) := by
  have hs := drop_size l j hj
  rw [(find_nat _ _).2, prev_find l _ (by omega) (by omega), edge_clean (clean_next hc), prev_is hc hj rfl]; rfl
theorem none_at {l : List UInt8} {j k : Nat} (hj : j < l.length) (h1 : j < k) (h2 : k < j + (uniOf (l.drop j)).2) : (unitsOf l).find? (atS (k : Int)) = none ∧ (unitsOf l).find? (atE (k : Int)) = none := by
  have hs := drop_size l j hj
  have he := edge_not h1 h2 hs.2.2
  rw [(find_nat _ k).1, (find_nat _ k).2, next_find l k (by omega), prev_find l k (by omega) (by omega), he]
  exact ⟨rfl, rfl⟩
theorem none_end (l : List UInt8) : (unitsOf l).find? (atS (l.length : Int)) = none ∧ (unitsOf l).find? (atE 0) = none := by
  constructor
  · exact List.find?_eq_none.2 (fun u hu => by have := unit_le l u hu; simp only [atS, beq_iff_eq]; omega)
  · exact List.find?_eq_none.2 (fun u hu => by have := unit_le l u hu; simp only [atE, beq_iff_eq]; omega)
end Go.Proofs.YtoopigkndomdgabDoor
