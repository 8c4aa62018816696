/-
  The document's New: its loop in memory.
-/
import Derived.Test.YtlmbbohhdgeedaaDoorOzGW
import Derived.Test.YtlmbbohhdgeedaaDoorSameUW
import Derived.Test.YtlmbbohhdgeedaaDoorExTk
namespace Go.Proofs.YtlmbbohhdgeedaaDoor
open Go.RowKit
theorem infoPlR : (Tryd.prog.info? 72).map (fun i => (i.zero, i.size, i.bytes)) = some (some (.agg #[.int .i64 0, .int .i64 0, .int .i64 0, .int .i64 0, .int .i64 0]), 5, 40) := by kernel_rfl
/-- A place that is being counted on. -/
structure XS (wr wx : World) (X : Nat) (p : Pl) : Prop where
  row : wx.heap[X]? = some (ob5 p 72)
  oth : ∀ g, g ≠ X → wx.heap[g]? = wr.heap[g]?
  bel : Below X wr wx
theorem XS.refl {wr : World} {X : Nat} {p : Pl} (h : wr.heap[X]? = some (ob5 p 72)) : XS wr wr X p := ⟨h, fun _ _ => rfl, Below.refl _ _⟩
theorem XS.setB {wr wx : World} {X : Nat} {p : Pl} (h : XS wr wx X p) (n : Nat) : XS wr (wx.setCell ⟨X, 0, none⟩ (.int .i64 (n : Int))) X ⟨n, p.u, p.w, p.l, p.c⟩ :=
  ⟨heap_setCell_same _ _ 0 _ _ _ h.row, fun g hg => (Below.heap_setCell _ _ _ g hg).trans (h.oth g hg), h.bel.setCell (p := ⟨X, 0, none⟩) (Nat.le_refl _) _⟩
theorem XS.setU {wr wx : World} {X : Nat} {p : Pl} (h : XS wr wx X p) (n : Nat) : XS wr (wx.setCell ⟨X, 1, none⟩ (.int .i64 (n : Int))) X ⟨p.b, n, p.w, p.l, p.c⟩ :=
  ⟨heap_setCell_same _ _ 1 _ _ _ h.row, fun g hg => (Below.heap_setCell _ _ _ g hg).trans (h.oth g hg), h.bel.setCell (p := ⟨X, 1, none⟩) (Nat.le_refl _) _⟩
theorem XS.setW {wr wx : World} {X : Nat} {p : Pl} (h : XS wr wx X p) (n : Nat) : XS wr (wx.setCell ⟨X, 2, none⟩ (.int .i64 (n : Int))) X ⟨p.b, p.u, n, p.l, p.c⟩ :=
  ⟨heap_setCell_same _ _ 2 _ _ _ h.row, fun g hg => (Below.heap_setCell _ _ _ g hg).trans (h.oth g hg), h.bel.setCell (p := ⟨X, 2, none⟩) (Nat.le_refl _) _⟩
theorem XS.setL {wr wx : World} {X : Nat} {p : Pl} (h : XS wr wx X p) (n : Nat) : XS wr (wx.setCell ⟨X, 3, none⟩ (.int .i64 (n : Int))) X ⟨p.b, p.u, p.w, n, p.c⟩ :=
  ⟨heap_setCell_same _ _ 3 _ _ _ h.row, fun g hg => (Below.heap_setCell _ _ _ g hg).trans (h.oth g hg), h.bel.setCell (p := ⟨X, 3, none⟩) (Nat.le_refl _) _⟩
theorem XS.setC {wr wx : World} {X : Nat} {p : Pl} (h : XS wr wx X p) (n : Nat) : XS wr (wx.setCell ⟨X, 4, none⟩ (.int .i64 (n : Int))) X ⟨p.b, p.u, p.w, p.l, n⟩ :=
  ⟨heap_setCell_same _ _ 4 _ _ _ h.row, fun g hg => (Below.heap_setCell _ _ _ g hg).trans (h.oth g hg), h.bel.setCell (p := ⟨X, 4, none⟩) (Nat.le_refl _) _⟩
/-- The document's New at its loop's head. -/
structure RJ (w0 wr : World) (X M : Nat) (v : Value) (U : List (Int × Nat × Nat)) (k : Nat) : Prop where
  own : OwnPl 72 wr w0.heap.size v (plN U (k + 1))
  rowX : wr.heap[X]? = some (ob5 (stK U k) 72)
  rowM : wr.heap[M]? = some (.cells #[v] 75 (0, 0))
  neX : v.ownBlock ≠ some X
  neM : v.ownBlock ≠ some M
  hXM : X < M
  lo : w0.heap.size ≤ X
  bel : Below w0.heap.size w0 wr
theorem ownPl_one (w : World) (base g : Nat) (p : Pl) (hb : base ≤ g) (h : w.heap[g]? = some (ob5 p 72)) : OwnPl 72 w base (.slice (some ⟨g, 0, none⟩) 1 1) [p] :=
  ⟨rfl, .inr ⟨g, 1, _, rfl, hb, h, Nat.le_refl _, by unfold maxLen; omega, rfl, rfl⟩⟩
theorem RJ.start {w0 w3 : World} (U : List (Int × Nat × Nat)) (hX : w3.heap[w0.heap.size]? = some (ob5 p0 72)) (hV : w3.heap[w0.heap.size + 1]? = some (ob5 p0 72))
    (hM : w3.heap[w0.heap.size + 2]? = some (.cells #[.slice (some ⟨w0.heap.size + 1, 0, none⟩) 1 1] 75 (0, 0))) (hb : Below w0.heap.size w0 w3) :
    RJ w0 w3 w0.heap.size (w0.heap.size + 2) (.slice (some ⟨w0.heap.size + 1, 0, none⟩) 1 1) U 0 :=
  ⟨ownPl_one _ _ _ _ (Nat.le_succ _) hV, hX, hM, fun e => by have := Option.some.inj e; simp only at this; omega, fun e => by have := Option.some.inj e; simp only at this; omega, by omega, Nat.le_refl _, hb⟩
theorem RJ.next {w0 wr wx w2 : World} {X M : Nat} {v v2 : Value} {U : List (Int × Nat × Nat)} {k : Nat} {o : Obj} (h : RJ w0 wr X M v U k) (hx : XS wr wx X (stK U (k + 1)))
    (hown : w2.ownsRow w0.heap.size 72 5 v2 (k + 1 + 1) (cellsP (plN U (k + 1)) ++ plC (stK U (k + 1)))) (hgrow : (wx.alloc o).grownBy w2 v.ownBlock) (hat : v2.ownBlock = v.ownBlock ∨ v2.ownBlock = some (wx.alloc o).heap.size) :
    RJ w0 (w2.setCell ⟨M, 0, none⟩ v2) X M v2 U (k + 1) ∧ w2.heap[M]? = some (.cells #[v] 75 (0, 0)) ∧ w2.heap[X]? = some (ob5 (stK U (k + 1)) 72) := by
  have hX := (Array.getElem?_eq_some_iff.1 hx.row).1
  have hM0 : wx.heap[M]? = some (.cells #[v] 75 (0, 0)) := (hx.oth M (by have := h.hXM; omega)).trans h.rowM
  have hM := (Array.getElem?_eq_some_iff.1 hM0).1
  have hXM := h.hXM
  have hlo := h.lo
  have hX2 : w2.heap[X]? = some (ob5 (stK U (k + 1)) 72) := by
    rw [hgrow.block X (by rw [World.size_alloc]; omega) (fun e => h.neX e.symm), Below.heap_alloc _ _ _ hX]; exact hx.row
  have hM2 : w2.heap[M]? = some (.cells #[v] 75 (0, 0)) := by
    rw [hgrow.block M (by rw [World.size_alloc]; omega) (fun e => h.neM e.symm), Below.heap_alloc _ _ _ hM]; exact hM0
  have hne : ∀ b, b < wx.heap.size → v.ownBlock ≠ some b → v2.ownBlock ≠ some b := fun b hb hn => by
    rcases hat with e | e
    · rw [e]; exact hn
    · rw [e, World.size_alloc]; intro e2; have := Option.some.inj e2; omega
  have hown1 : OwnPl 72 wx w0.heap.size v (plN U (k + 1)) := h.own.keep (fun g hg => hx.oth g (fun e => h.neX (e ▸ hg)))
  have hbx : Below w0.heap.size w0 wx := h.bel.trans (hx.bel.mono hlo)
  obtain ⟨h1, h2⟩ := ownPl_snoc (u := stK U (k + 1)) (plN_len U (k + 1)).symm hown1 hown hgrow (plN_snoc U (k + 1)) hbx (Nat.le_refl _)
  refine ⟨⟨h1.keep (fun g hg => ?_), ?_, heap_setCell_same _ _ 0 _ _ _ hM2, hne X hX h.neX, hne M hM h.neM, hXM, hlo, h2.setCell (p := ⟨M, 0, none⟩) (by show w0.heap.size ≤ M; omega) _⟩, hM2, hX2⟩
  · exact Below.heap_setCell _ _ _ g (fun e => hne M hM h.neM (by rw [hg]; exact congrArg some e))
  · rw [Below.heap_setCell _ _ _ X (show X ≠ M by omega)]; exact hX2
end Go.Proofs.YtlmbbohhdgeedaaDoor
