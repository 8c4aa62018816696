/-
  The property that is cut, while it is made.
-/
import Derived.Test.YtgmicmepcmmcaaaDoorPbS4W
namespace Go.Proofs.YtgmicmepcmmcaaaDoor
open Go.RowKit Go.Shelf
/-- The variable at C holds names and the spans X; only C and new blocks were written since w6. -/
structure CutSt (w6 : World) (C : Nat) (vC vS : Value) (X : List Sp) (wx : World) : Prop where
  row : wx.heap[C]? = some (.cells #[vC, vS] 25 (0, 0))
  own : OwnP wx w6.heap.size vS X
  only : Only w6 wx (fun k => k = C)
  lt : C < w6.heap.size
theorem CutSt.below {w6 : World} {C : Nat} {vC vS : Value} {X : List Sp} {wx wy : World} (h : CutSt w6 C vC vS X wx) (hb : Below wx.heap.size wx wy) : CutSt w6 C vC vS X wy :=
  ⟨(hb.block C (Array.getElem?_eq_some_iff.1 h.row).1).trans h.row, World.ownsRow.kept h.own (row := none) ⟨hb.os, hb.tape, hb.output, hb.size, fun k hk _ => hb.block k hk⟩ (by cases hv : vS.ownBlock <;> simp), h.only.trans (T := fun _ => False) ⟨hb.os, hb.tape, hb.output, hb.size, fun k hk _ => hb.block k hk⟩ (fun _ h => h.elim), h.lt⟩
theorem CutSt.ne {w6 : World} {C : Nat} {vC vS : Value} {X : List Sp} {wx : World} (h : CutSt w6 C vC vS X wx) : vS.ownBlock ≠ some C := fun e => by have := (World.ownsRow.lt h.own C e).1; have := h.lt; omega
theorem CutSt.cells {w6 : World} {C : Nat} {vC vS : Value} {X : List Sp} {wx : World} (h : CutSt w6 C vC vS X wx) (o : Obj) {y : World} (hg : (wx.alloc o).grownBy y vS.ownBlock) : y.heap[C]? = some (.cells #[vC, vS] 25 (0, 0)) ∧ y.cell? ⟨C, 1, none⟩ = some vS ∧ y.frozen? ⟨C, 1, none⟩ = false := by
  have hC := (Array.getElem?_eq_some_iff.1 h.row).1
  have hr := ((hg.block C (by simp; omega) (fun e => h.ne e.symm)).trans (Below.heap_alloc wx o C hC)).trans h.row
  exact ⟨hr, by rw [cell_of_row _ _ _ _ _ _ hr]; rfl, by simp [World.frozen?, hr]⟩
theorem CutSt.step {w6 : World} {C : Nat} {vC vS v' : Value} {X : List Sp} {wx y : World} (h : CutSt w6 C vC vS X wx) (o : Obj) (u : Sp) (n : Nat) (hn : n = X.length) (ho : y.ownsRow w6.heap.size 38 3 v' (n + 1) (cellsP X ++ [.int .i64 u.1, .int .i64 u.2.1, .int .i64 u.2.2])) (hg : (wx.alloc o).grownBy y vS.ownBlock) :
    CutSt w6 C vC v' (X ++ [u]) (y.setCell ⟨C, 1, none⟩ v') := by
  have hne : v'.ownBlock ≠ some C := fun e => by have := (World.ownsRow.lt ho C e).1; have := h.lt; omega
  refine ⟨?_, ?_, ?_, h.lt⟩
  · rw [heap_setCell_same y C 1 _ _ v' (h.cells o hg).1]; rfl
  · have e2 : cellsP (X ++ [u]) = cellsP X ++ [.int .i64 u.1, .int .i64 u.2.1, .int .i64 u.2.2] := by rw [cellsP_append]; rfl
    have g := ownsRow_setCell_other ho (a := ⟨C, 1, none⟩) hne v'
    unfold OwnP
    rw [List.length_append, e2, List.length_singleton, ← hn]
    exact g
  · exact ((h.only.trans (Only.alloc wx o (fun _ => False)) (fun _ h => h.elim)).trans (Only.ofGrown hg) (fun k hk => .inr (World.ownsRow.lt h.own k hk).1)).trans (Only.setCell y C 1 v') (fun k hk => .inl hk)
/-- A cell of another block stays. -/
theorem far_cell {C : Nat} {vS : Value} {wx y : World} (o : Obj) (hg : (wx.alloc o).grownBy y vS.ownBlock) (v' : Value) {b off : Nat} {u : Value} (hu : wx.cell? ⟨b, off, none⟩ = some u) (hb : ¬ b = C) (hs : vS.ownBlock ≠ some b) : (y.setCell ⟨C, 1, none⟩ v').cell? ⟨b, off, none⟩ = some u :=
  (World.cell?_of_block (a := ⟨b, off, none⟩) (Below.heap_setCell y ⟨C, 1, none⟩ v' b hb)).trans (hg.cell (cell_alloc hu o) (fun e => hs e.symm))
/-- What one append and its store leave. -/
theorem CutSt.all {w6 : World} {C : Nat} {vC vS : Value} {X : List Sp} {wx y : World} {g cap n B : Nat} {hi q : Value} (h : CutSt w6 C vC vS X wx) (o : Obj) (u : Sp) (hn : n = X.length) (ho : y.ownsRow w6.heap.size 38 3 (.slice (some ⟨g, 0, none⟩) (n + 1) cap) (n + 1) (cellsP X ++ [.int .i64 u.1, .int .i64 u.2.1, .int .i64 u.2.2])) (hg : (wx.alloc o).grownBy y vS.ownBlock)
    (h1 : wx.cell? ⟨B, 1, none⟩ = some hi) (h2 : wx.cell? ⟨B, 2, none⟩ = some q) (hB : ¬ B = C) (hs : vS.ownBlock ≠ some B) (hat : (Value.slice (some ⟨g, 0, none⟩) (n + 1) cap).ownBlock = vS.ownBlock ∨ (Value.slice (some ⟨g, 0, none⟩) (n + 1) cap).ownBlock = some (wx.heap.size + 1)) :
    ∃ y2, y.setCell ⟨C, 1, none⟩ (.slice (some ⟨g, 0, none⟩) (n + 1) cap) = y2 ∧ CutSt w6 C vC (.slice (some ⟨g, 0, none⟩) (n + 1) cap) (X ++ [u]) y2 ∧ y2.cell? ⟨B, 1, none⟩ = some hi ∧ y2.cell? ⟨B, 2, none⟩ = some q ∧ y2.cell? ⟨C, 1, none⟩ = some (.slice (some ⟨g, 0, none⟩) (n + 1) cap) ∧ y2.frozen? ⟨C, 1, none⟩ = false ∧ (Value.slice (some ⟨g, 0, none⟩) (n + 1) cap).ownBlock ≠ some B ∧ wx.heap.size ≤ y2.heap.size := by
  have st := h.step o u n hn ho hg
  refine ⟨_, rfl, st, far_cell o hg _ h1 hB hs, far_cell o hg _ h2 hB hs, by rw [cell_of_row _ _ _ _ _ _ st.row]; rfl, by simp [World.frozen?, st.row], fun e => ?_, ?_⟩
  · rcases hat with hat | hat
    · rw [hat] at e; exact hs e
    · rw [hat] at e
      have := World.block_lt_of_cell? wx _ h1
      simp only [Option.some.injEq] at e
      simp only at this
      omega
  · have := hg.size
    simp at this
    simp [World.setCell]
    omega
theorem cellsP_one (a b c : Int) : ∀ u ∈ [Value.int .i64 a, .int .i64 b, .int .i64 c], u.oneCell' = true := by
  intro u hu
  simp only [List.mem_cons, List.not_mem_nil, or_false] at hu
  rcases hu with rfl | rfl | rfl <;> rfl
end Go.Proofs.YtgmicmepcmmcaaaDoor
