/-
  The walk of caesuraref0.SameUnits on equal lists; caesuralaw2.UnitsSplits.
-/
import Derived.Test.YtoopigkndomdgabDoorSplitW
import Derived.Deep.QuietTactic
import Derived.BigQuiet
namespace Go.Proofs.YtoopigkndomdgabDoor
open Go.RowKit
/-- A slice value that reads as these units. -/
def UnitsAt (w : World) (v : Value) (us : List (Int × Nat × Nat)) : Prop :=
  (v = .slice none 0 0 ∧ us = []) ∨ ∃ b off cap, v = .slice (some ⟨b, off, none⟩) us.length cap ∧ ∀ k (h : k < us.length),
    w.cell? ⟨b, off + k * 3, none⟩ = some (.int .i64 us[k].1) ∧ w.cell? ⟨b, off + k * 3 + 1, none⟩ = some (.int .i64 (us[k].2.1 : Int)) ∧ w.cell? ⟨b, off + k * 3 + 2, none⟩ = some (.int .i64 (us[k].2.2 : Int))
theorem cellsU_at (us : List (Int × Nat × Nat)) : ∀ (k : Nat) (h : k < us.length), (cellsU us)[k * 3]? = some (.int .i64 us[k].1) ∧ (cellsU us)[k * 3 + 1]? = some (.int .i64 (us[k].2.1 : Int)) ∧ (cellsU us)[k * 3 + 2]? = some (.int .i64 (us[k].2.2 : Int)) := by
  induction us with
  | nil => intro k h; simp at h
  | cons u us ih =>
    intro k h
    have e : cellsU (u :: us) = .int .i64 u.1 :: .int .i64 (u.2.1 : Int) :: .int .i64 (u.2.2 : Int) :: cellsU us := rfl
    cases k with
    | zero => rw [e]; simp
    | succ k =>
      have := ih k (by simpa using h)
      rw [e, show (k + 1) * 3 = k * 3 + 1 + 1 + 1 by omega, show k * 3 + 1 + 1 + 1 + 1 = (k * 3 + 1) + 1 + 1 + 1 by omega, show k * 3 + 1 + 1 + 1 + 2 = (k * 3 + 2) + 1 + 1 + 1 by omega]
      simpa using this
theorem OwnU.at {w : World} {base : Nat} {v : Value} {us : List (Int × Nat × Nat)} (h : OwnU w base v us) : UnitsAt w v us := by
  have h0 := h
  rcases h.2 with ⟨rfl, hn⟩ | ⟨g, cap, cur, rfl, _⟩
  · exact .inl ⟨rfl, List.length_eq_zero_iff.1 hn⟩
  · refine .inr ⟨g, 0, cap, rfl, fun k hk => ?_⟩
    obtain ⟨a, b, c⟩ := cellsU_at us k hk
    rw [Nat.zero_add, World.ownsRow.cellAt h0 _ (by omega), World.ownsRow.cellAt h0 _ (by omega), World.ownsRow.cellAt h0 _ (by omega)]
    exact ⟨a, b, c⟩
/-- Units in memory, each where it is asked. -/
structure UA (w : World) (a : Option Addr) (us : List (Int × Nat × Nat)) : Prop where
  at' : ∀ k (h : k < us.length), ∃ b off, a = some ⟨b, off, none⟩ ∧
    w.cell? ⟨b, off + k * 3, none⟩ = some (.int .i64 us[k].1) ∧ w.cell? ⟨b, off + k * 3 + 1, none⟩ = some (.int .i64 (us[k].2.1 : Int)) ∧ w.cell? ⟨b, off + k * 3 + 2, none⟩ = some (.int .i64 (us[k].2.2 : Int))
theorem UnitsAt.ua {w : World} {v : Value} {us : List (Int × Nat × Nat)} (h : UnitsAt w v us) : ∃ a cap, v = .slice a us.length cap ∧ UA w a us := by
  rcases h with ⟨rfl, rfl⟩ | ⟨b, off, cap, rfl, hc⟩
  · exact ⟨none, 0, rfl, ⟨fun k h => absurd h (Nat.not_lt_zero _)⟩⟩
  · exact ⟨_, cap, rfl, ⟨fun k h => ⟨b, off, rfl, hc k h⟩⟩⟩
set_option maxRecDepth 10000 in
set_option maxHeartbeats 400000 in
theorem same_ua (us : List (Int × Nat × Nat)) (a b : Option Addr) (ca cb : Nat) (w : World) (hl : us.length ≤ 140737488355328) (ha : UA w a us) (hb : UA w b us) :
    Calls Tryd.prog 17 #[.slice a us.length ca, .slice b us.length cb] w fun e w' => e = .returned (.bool true) ∧ ∃ q, w' = w.drewN q := by
  have HA := hid ha
  have HB := hid hb
  clear ha hb
  go_enter Tryd.func17, Tryd.ntmps17
  go_wp2
  go_loopw [5] (fun i wr => ∃ k q : Nat, k ≤ us.length ∧ i = .int .i64 (k : Int) ∧ wr = w.drewN q) (fun i _ => us.length - (intOf i).toNat)
  case atStart => exact ⟨0, 0, Nat.zero_le _, rfl, rfl⟩
  case round =>
    obtain ⟨k, q, hk, rfl, rfl⟩ := hrel
    by_cases hlt : k < us.length
    · obtain ⟨b1, o1, rfl, c0, c1, c2⟩ := HA.out.at' k hlt
      obtain ⟨b2, o2, rfl, d0, d1, d2⟩ := HB.out.at' k hlt
      generalize us[k] = u at *
      clear HA HB
      go_wp2
      go_quiet ((fail))
      go_wp2
      go_roundw
      case rel => exact ⟨k + 1, _, hlt, by go_num, rfl⟩
      case measure => simp [intOf]; omega
    · have hk2 : ¬ (k : Int) < (us.length : Int) := by omega
      clear HA HB
      go_wp2
      go_ret
      exact ⟨rfl, q, rfl⟩
theorem sameU_any (us : List (Int × Nat × Nat)) (v v' : Value) (w : World) (hl : us.length ≤ 140737488355328) (ha : UnitsAt w v us) (hb : UnitsAt w v' us) :
    Calls Tryd.prog 17 #[v, v'] w fun e w' => e = .returned (.bool true) ∧ ∃ q, w' = w.drewN q := by
  obtain ⟨a, ca, rfl, ha'⟩ := ha.ua
  obtain ⟨b, cb, rfl, hb'⟩ := hb.ua
  exact same_ua us a b ca cb w hl ha' hb'
end Go.Proofs.YtoopigkndomdgabDoor
