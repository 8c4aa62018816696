/-
  placesOf's loop in memory.
-/
import Derived.Test.YtlmbbohhdgeedaaDoorOzBW
namespace Go.Proofs.YtlmbbohhdgeedaaDoor
open Go.RowKit
theorem infoPl : (Tryd.prog.info? 62).map (fun i => (i.zero, i.size, i.bytes)) = some (some (.agg #[.int .i64 0, .int .i64 0, .int .i64 0, .int .i64 0, .int .i64 0]), 5, 40) := by kernel_rfl
/-- Next at the k-th edge. -/
theorem next_k (s : ByteArray) (k : Nat) (hk : k ≤ (unitsOf s.data.toList).length) (hs : s.size ≤ 140737488355328) (w : World) (hT : SeqAt w) :
    Calls Tryd.prog 42 #[.string s, .int .i64 (posK s.data.toList k : Int)] w fun e w' => e = .returned (optVal (unitsOf s.data.toList)[k]?) ∧ Below w.heap.size w w' := by
  obtain ⟨h1, h2, h3⟩ := posK_drop s.data.toList k hk
  rw [bsize] at h1
  by_cases hlt : k < (unitsOf s.data.toList).length
  · obtain ⟨h4, h5, _⟩ := units_at s.data.toList k hlt
    rw [bsize] at h4
    refine (next_in s _ h4 hs w hT).mono fun e w' h => ?_
    rw [List.getElem?_eq_getElem hlt, h5]
    rw [nextVal_eq, edge_clean h3] at h
    exact h
  · have hke : k = (unitsOf s.data.toList).length := by omega
    have he := posK_end s.data.toList
    rw [← hke, bsize] at he
    rw [List.getElem?_eq_none (by omega)]
    exact next_out s _ (.inr (by omega)) w
/-- What Next answers, opened. -/
def nxU (U : List (Int × Nat × Nat)) (k : Nat) : Int × Nat × Nat := (U[k]?).getD (0, 0, 0)
theorem optVal_nx (U : List (Int × Nat × Nat)) (k : Nat) : optVal U[k]? = .tuple #[.agg #[.int .i64 (nxU U k).1, .int .i64 ((nxU U k).2.1 : Int), .int .i64 ((nxU U k).2.2 : Int)], .bool (decide (k < U.length))] := by
  by_cases h : k < U.length
  · rw [nxU, List.getElem?_eq_getElem h, decide_eq_true h]; rfl
  · rw [nxU, List.getElem?_eq_none (by omega), decide_eq_false h]; rfl
theorem nxU_at (U : List (Int × Nat × Nat)) (k : Nat) (h : k < U.length) : nxU U k = U[k] := by rw [nxU, List.getElem?_eq_getElem h]; rfl
theorem OwnPl.keep {t : TypeId} {w w' : World} {base : Nat} {v : Value} {L : List Pl} (h : OwnPl t w base v L) (hk : ∀ g, v.ownBlock = some g → w'.heap[g]? = w.heap[g]?) : OwnPl t w' base v L := by
  obtain ⟨h1, h2⟩ := h
  refine ⟨h1, ?_⟩
  rcases h2 with h2 | ⟨g, cap, cur, hv, hg, hh, r⟩
  · exact .inl h2
  · exact .inr ⟨g, cap, cur, hv, hg, (hk g (by rw [hv]; rfl)).trans hh, r⟩
/-- Five cells of a row that are written over. -/
def st5 (w : World) (H : Nat) (p : Pl) : World := ((((w.setCell ⟨H, 0, none⟩ (.int .i64 (p.b : Int))).setCell ⟨H, 1, none⟩ (.int .i64 (p.u : Int))).setCell ⟨H, 2, none⟩ (.int .i64 (p.w : Int))).setCell ⟨H, 3, none⟩ (.int .i64 (p.l : Int))).setCell ⟨H, 4, none⟩ (.int .i64 (p.c : Int))
def ob5 (p : Pl) (t : TypeId) : Obj := .cells #[.int .i64 (p.b : Int), .int .i64 (p.u : Int), .int .i64 (p.w : Int), .int .i64 (p.l : Int), .int .i64 (p.c : Int)] t (0, 0)
def ob3 (u : Int × Nat × Nat) : Obj := .cells #[.int .i64 u.1, .int .i64 (u.2.1 : Int), .int .i64 (u.2.2 : Int)] 28 (0, 0)
theorem st5_other {w : World} {H k : Nat} (p : Pl) (h : k ≠ H) : (st5 w H p).heap[k]? = w.heap[k]? := by
  unfold st5
  rw [Below.heap_setCell _ _ _ k h, Below.heap_setCell _ _ _ k h, Below.heap_setCell _ _ _ k h, Below.heap_setCell _ _ _ k h, Below.heap_setCell _ _ _ k h]
theorem st5_below {B : Nat} {w W : World} {H : Nat} (h : Below B w W) (hX : B ≤ H) (p : Pl) : Below B w (st5 W H p) := by
  unfold st5
  exact ((((h.setCell (p := ⟨H, 0, none⟩) hX _).setCell (p := ⟨H, 1, none⟩) hX _).setCell (p := ⟨H, 2, none⟩) hX _).setCell (p := ⟨H, 3, none⟩) hX _).setCell (p := ⟨H, 4, none⟩) hX _
theorem st5_size (w : World) (H : Nat) (p : Pl) : (st5 w H p).heap.size = w.heap.size := by simp [st5]
/-- placesOf's loop at its head. -/
structure PJ (w wr : World) (H B : Nat) (v : Value) (U : List (Int × Nat × Nat)) (k : Nat) : Prop where
  own : OwnPl 62 wr w.heap.size v (plN U k)
  rowH : wr.heap[H]? = some (ob5 (stK U k) 62)
  rowB : wr.heap[B]? = some (ob3 (nxU U k))
  neH : v.ownBlock ≠ some H
  neB : v.ownBlock ≠ some B
  hb : H < B
  lo : w.heap.size ≤ H
  bel : Below w.heap.size w wr
theorem PJ.app {w wr w3 : World} {H B : Nat} {v v' : Value} {U : List (Int × Nat × Nat)} {k : Nat} {o : Obj} (h : PJ w wr H B v U k) (hown' : w3.ownsRow w.heap.size 62 5 v' (k + 1) (cellsP (plN U k) ++ plC (stK U k)))
    (hgrow : (wr.alloc o).grownBy w3 v.ownBlock) (hat : v'.ownBlock = v.ownBlock ∨ v'.ownBlock = some (wr.alloc o).heap.size) :
    OwnPl 62 w3 w.heap.size v' (plN U (k + 1)) ∧ Below w.heap.size w w3 ∧ w3.heap[H]? = some (ob5 (stK U k) 62) ∧ w3.heap[B]? = some (ob3 (nxU U k)) ∧ v'.ownBlock ≠ some H ∧ wr.heap.size < w3.heap.size := by
  obtain ⟨h1, h2⟩ := ownPl_snoc (u := stK U k) (plN_len U k).symm h.own hown' hgrow (plN_snoc U k) h.bel (Nat.le_refl _)
  have hH := (Array.getElem?_eq_some_iff.1 h.rowH).1
  have hB := (Array.getElem?_eq_some_iff.1 h.rowB).1
  have hs := hgrow.size
  rw [World.size_alloc] at hs
  refine ⟨h1, h2, ?_, ?_, ?_, by omega⟩
  · rw [hgrow.block H (by rw [World.size_alloc]; omega) (fun e => h.neH e.symm), Below.heap_alloc _ _ _ hH]; exact h.rowH
  · rw [hgrow.block B (by rw [World.size_alloc]; omega) (fun e => h.neB e.symm), Below.heap_alloc _ _ _ hB]; exact h.rowB
  · rcases hat with e | e
    · rw [e]; exact h.neH
    · rw [e, World.size_alloc]; intro e2; have := Option.some.inj e2; omega
theorem PJ.next {w w3 w4 w6 : World} {H : Nat} {v' : Value} {U : List (Int × Nat × Nat)} {k : Nat} {u : Int × Nat × Nat} (hO : OwnPl 62 w3 w.heap.size v' (plN U (k + 1))) (hB3 : Below w.heap.size w w3)
    (hH : w3.heap[H]? = some (ob5 (stK U k) 62)) (hn : v'.ownBlock ≠ some H) (hlo : w.heap.size ≤ H) (hb4 : Below w3.heap.size w3 w4) (hb6 : Below (w4.heap.size + 1) ((st5 w4 H (stK U (k + 1))).alloc (ob3 u)) w6) :
    PJ w (((w6.setCell ⟨w4.heap.size, 0, none⟩ (.int .i64 (nxU U (k + 1)).1)).setCell ⟨w4.heap.size, 1, none⟩ (.int .i64 ((nxU U (k + 1)).2.1 : Int))).setCell ⟨w4.heap.size, 2, none⟩ (.int .i64 ((nxU U (k + 1)).2.2 : Int))) H w4.heap.size v' U (k + 1) := by
  have hH3 := (Array.getElem?_eq_some_iff.1 hH).1
  have hs4 := hb4.size
  have hs3 := hB3.size
  have hH4 : w4.heap[H]? = some (ob5 (stK U k) 62) := (hb4.block H hH3).trans hH
  have hH5 : (st5 w4 H (stK U (k + 1))).heap[H]? = some (ob5 (stK U (k + 1)) 62) := set5n _ _ _ _ _ hH4
  have hB5 : ((st5 w4 H (stK U (k + 1))).alloc (ob3 u)).heap[w4.heap.size]? = some (ob3 u) := by
    have h := heap_alloc_new (st5 w4 H (stK U (k + 1))) (ob3 u)
    rw [st5_size] at h
    exact h
  have hB6 : w6.heap[w4.heap.size]? = some (ob3 u) := (hb6.block _ (by omega)).trans hB5
  have hoth : ∀ g, g < w4.heap.size → g ≠ H → (((w6.setCell ⟨w4.heap.size, 0, none⟩ (.int .i64 (nxU U (k + 1)).1)).setCell ⟨w4.heap.size, 1, none⟩ (.int .i64 ((nxU U (k + 1)).2.1 : Int))).setCell ⟨w4.heap.size, 2, none⟩ (.int .i64 ((nxU U (k + 1)).2.2 : Int))).heap[g]? = w4.heap[g]? := fun g hg hne => by
    have hge : g ≠ w4.heap.size := by omega
    rw [Below.heap_setCell _ _ _ g hge, Below.heap_setCell _ _ _ g hge, Below.heap_setCell _ _ _ g hge, hb6.block g (by omega), Below.heap_alloc _ _ _ (by rw [st5_size]; exact hg), st5_other _ hne]
  have hlt : ∀ g, v'.ownBlock = some g → g < w3.heap.size := fun g hg => (World.ownsRow.lt hO g hg).2
  refine ⟨hO.keep (fun g hg => ?_), ?_, set3 _ _ _ hB6, hn, fun e => ?_, by omega, hlo, ?_⟩
  · have := hlt g hg
    rw [hoth g (by omega) (fun e => hn (e ▸ hg)), hb4.block g this]
  · have hge : H ≠ w4.heap.size := by omega
    rw [Below.heap_setCell _ _ _ H hge, Below.heap_setCell _ _ _ H hge, Below.heap_setCell _ _ _ H hge, hb6.block H (by omega), Below.heap_alloc _ _ _ (by rw [st5_size]; omega)]
    exact hH5
  · have := hlt _ e
    omega
  · have h4 : Below w.heap.size w w4 := hB3.trans (hb4.mono hs3)
    have h5 : Below w.heap.size w ((st5 w4 H (stK U (k + 1))).alloc (ob3 u)) := (st5_below h4 hlo _).alloc (by rw [st5_size]; omega) _
    have h6 : Below w.heap.size w w6 := h5.trans (hb6.mono (by omega))
    exact ((h6.setCell (p := ⟨w4.heap.size, 0, none⟩) (by show w.heap.size ≤ w4.heap.size; omega) _).setCell (p := ⟨w4.heap.size, 1, none⟩) (by show w.heap.size ≤ w4.heap.size; omega) _).setCell (p := ⟨w4.heap.size, 2, none⟩) (by show w.heap.size ≤ w4.heap.size; omega) _
end Go.Proofs.YtlmbbohhdgeedaaDoor
