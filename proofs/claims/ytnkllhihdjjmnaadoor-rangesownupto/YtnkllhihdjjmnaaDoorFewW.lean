/-
  The walk of caesuralaw3.few.
-/
import Derived.Test.YtnkllhihdjjmnaaDoorFrontM
namespace Go.Proofs.YtnkllhihdjjmnaaDoor
open Go.RowKit
theorem own_lit (w : World) (l : List (Int × Int)) (h : l.length ≤ 10) : OwnR (w.alloc (.cells (cellsR l).toArray 35)) w.heap.size (.slice (some ⟨w.heap.size, 0, none⟩) l.length l.length) l := by
  have := World.ownsRow_lit (e := 35) (base := w.heap.size) (size := 2) w (cellsR l).toArray l.length (Nat.le_refl _) (by unfold maxLen; omega) (by simp [cellsR_length])
  exact this
set_option maxRecDepth 10000 in
set_option maxHeartbeats 400000 in
theorem few_any (w : World) : Calls Tryd.prog 25 #[] w fun e w' => ∃ v1 v2, e = .returned (.agg #[v1, v2, .int .i64 0]) ∧ OwnR w' w.heap.size v1 [(1, 5), (9, 9)] ∧ OwnR w' w.heap.size v2 [(4, 20)] ∧ Below w.heap.size w w' := by
  go_enter Tryd.func25, Tryd.ntmps25
  go_wp2
  go_returns
  refine ⟨_, _, rfl, ?_, ?_, by go_grown⟩
  · have h := fun o1 o2 => World.ownsRow.alloc (OwnR.base (own_lit (w.alloc o1) [(1, 5), (9, 9)] (by simp)) (base' := w.heap.size) (by simp)) o2
    simp [cellsR] at h
    exact h _ _
  · have h := fun o1 o2 => OwnR.base (own_lit ((w.alloc o1).alloc o2) [(4, 20)] (by simp)) (base' := w.heap.size) (by simp; omega)
    simp [cellsR] at h
    exact h _ _
end Go.Proofs.YtnkllhihdjjmnaaDoor
