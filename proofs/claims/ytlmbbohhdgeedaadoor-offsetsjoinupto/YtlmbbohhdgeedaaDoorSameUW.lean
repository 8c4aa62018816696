/-
  The walk of caesuraref0.SameUnits on equal lists; caesuralaw2.UnitsSplits.
-/
import Derived.Test.YtlmbbohhdgeedaaDoorSplitW
import Derived.Deep.QuietTactic
import Derived.BigQuiet
namespace Go.Proofs.YtlmbbohhdgeedaaDoor
open Go.RowKit
/-- A slice value that reads as these units. -/
def UnitsAt (w : World) (v : Value) (us : List (Int × Nat × Nat)) : Prop :=
  (v = .slice none 0 0 ∧ us = []) ∨ ∃ b off cap, v = .slice (some ⟨b, off, none⟩) us.length cap ∧ ∀ k (h : k < us.length),
    w.cell? ⟨b, off + k * 3, none⟩ = some (.int .i64 us[k].1) ∧ w.cell? ⟨b, off + k * 3 + 1, none⟩ = some (.int .i64 (us[k].2.1 : Int)) ∧ w.cell? ⟨b, off + k * 3 + 2, none⟩ = some (.int .i64 (us[k].2.2 : Int))
theorem cellsU_at (us : List (Int × Nat × Nat)) : ∀ (k : Nat) (h : k < us.length), (cellsU us)[k * 3]? = some (.int .i64 us[k].1) ∧ (cellsU us)[k * 3 + 1]? = some (.int .i64 (us[k].2.1 : Int)) ∧ (cellsU us)[k * 3 + 2]? = some (.int .i64 (us[k].2.2 : Int)) := by
  induction us with
  | nil => intro k h; simp at h
  | cons u us ih =>
    intro k h
    have e : cellsU (u :: us) = .int .i64 u.1 :: .int .i64 (u.2.1 : Int) :: .int .i64 (u.2.2 : Int) :: cellsU us := rfl
    cases k with
    | zero => rw [e]; simp
    | succ k =>
      have := ih k (by simpa using h)
      rw [e, show (k + 1) * 3 = k * 3 + 1 + 1 + 1 by omega, show k * 3 + 1 + 1 + 1 + 1 = (k * 3 + 1) + 1 + 1 + 1 by omega, show k * 3 + 1 + 1 + 1 + 2 = (k * 3 + 2) + 1 + 1 + 1 by omega]
      simpa using this
theorem OwnU.at {w : World} {base : Nat} {v : Value} {us : List (Int × Nat × Nat)} (h : OwnU w base v us) : UnitsAt w v us := by
  have h0 := h
  rcases h.2 with ⟨rfl, hn⟩ | ⟨g, cap, cur, rfl, _⟩
  · exact .inl ⟨rfl, List.length_eq_zero_iff.1 hn⟩
  · refine .inr ⟨g, 0, cap, rfl, fun k hk => ?_⟩
    obtain ⟨a, b, c⟩ := cellsU_at us k hk
    rw [Nat.zero_add, World.ownsRow.cellAt h0 _ (by omega), World.ownsRow.cellAt h0 _ (by omega), World.ownsRow.cellAt h0 _ (by omega)]
    exact ⟨a, b, c⟩
/-- Units in memory, each where it is asked. -/
structure UA (w : World) (a : Option Addr) (us : List (Int × Nat × Nat)) : Prop where
  at' : ∀ k (h : k < us.length), ∃ b off, a = some ⟨b, off, none⟩ ∧
    w.cell? ⟨b, off + k * 3, none⟩ = some (.int .i64 us[k].1) ∧ w.cell? ⟨b, off + k * 3 + 1, none⟩ = some (.int .i64 (us[k].2.1 : Int)) ∧ w.cell? ⟨b, off + k * 3 + 2, none⟩ = some (.int .i64 (us[k].2.2 : Int))
theorem UnitsAt.ua {w : World} {v : Value} {us : List (Int × Nat × Nat)} (h : UnitsAt w v us) : ∃ a cap, v = .slice a us.length cap ∧ UA w a us := by
  rcases h with ⟨rfl, rfl⟩ | ⟨b, off, cap, rfl, hc⟩
  · exact ⟨none, 0, rfl, ⟨fun k h => absurd h (Nat.not_lt_zero _)⟩⟩
  · exact ⟨_, cap, rfl, ⟨fun k h => ⟨b, off, rfl, hc k h⟩⟩⟩
end Go.Proofs.YtlmbbohhdgeedaaDoor
