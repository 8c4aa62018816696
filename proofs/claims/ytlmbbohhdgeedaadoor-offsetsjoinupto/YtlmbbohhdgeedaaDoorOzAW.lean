/-
  Places in memory; the walks of offsets.width, behind.
-/
import Derived.Test.YtlmbbohhdgeedaaDoorOzM
import Derived.Test.YtlmbbohhdgeedaaDoorSplitW
import Derived.Test.YtlmbbohhdgeedaaDoorStepsW
import Derived.Deep.QuietTactic
import Derived.BigQuiet
import Derived.Deep.RegionHeld3
import Derived.Deep.Cut
namespace Go.Proofs.YtlmbbohhdgeedaaDoor
open Go.RowKit
def plV (p : Pl) : Value := .agg #[.int .i64 (p.b : Int), .int .i64 (p.u : Int), .int .i64 (p.w : Int), .int .i64 (p.l : Int), .int .i64 (p.c : Int)]
def plC (p : Pl) : List Value := [.int .i64 (p.b : Int), .int .i64 (p.u : Int), .int .i64 (p.w : Int), .int .i64 (p.l : Int), .int .i64 (p.c : Int)]
def cellsP (L : List Pl) : List Value := L.flatMap plC
theorem cellsP_length (L : List Pl) : (cellsP L).length = L.length * 5 := by
  induction L with
  | nil => rfl
  | cons u us ih => rw [cellsP, List.flatMap_cons, List.length_append, List.length_cons]; rw [cellsP] at ih; rw [ih]; simp [plC]; omega
theorem cellsP_append (us vs : List Pl) : cellsP (us ++ vs) = cellsP us ++ cellsP vs := by simp [cellsP]
theorem cellsP_at (L : List Pl) : ∀ (k : Nat) (h : k < L.length), (cellsP L)[k * 5]? = some (.int .i64 (L[k].b : Int)) ∧ (cellsP L)[k * 5 + 1]? = some (.int .i64 (L[k].u : Int)) ∧ (cellsP L)[k * 5 + 2]? = some (.int .i64 (L[k].w : Int)) ∧ (cellsP L)[k * 5 + 3]? = some (.int .i64 (L[k].l : Int)) ∧ (cellsP L)[k * 5 + 4]? = some (.int .i64 (L[k].c : Int)) := by
  induction L with
  | nil => intro k h; simp at h
  | cons u us ih =>
    intro k h
    have e : cellsP (u :: us) = .int .i64 (u.b : Int) :: .int .i64 (u.u : Int) :: .int .i64 (u.w : Int) :: .int .i64 (u.l : Int) :: .int .i64 (u.c : Int) :: cellsP us := rfl
    cases k with
    | zero => rw [e]; simp
    | succ k =>
      have := ih k (by simpa using h)
      rw [e, show (k + 1) * 5 = k * 5 + 1 + 1 + 1 + 1 + 1 by omega, show k * 5 + 1 + 1 + 1 + 1 + 1 + 1 = (k * 5 + 1) + 1 + 1 + 1 + 1 + 1 by omega, show k * 5 + 1 + 1 + 1 + 1 + 1 + 2 = (k * 5 + 2) + 1 + 1 + 1 + 1 + 1 by omega, show k * 5 + 1 + 1 + 1 + 1 + 1 + 3 = (k * 5 + 3) + 1 + 1 + 1 + 1 + 1 by omega, show k * 5 + 1 + 1 + 1 + 1 + 1 + 4 = (k * 5 + 4) + 1 + 1 + 1 + 1 + 1 by omega]
      simpa using this
/-- Five numbers in a row. -/
def At5 (w : World) (b off : Nat) (p : Pl) : Prop := w.cell? ⟨b, off, none⟩ = some (.int .i64 (p.b : Int)) ∧ w.cell? ⟨b, off + 1, none⟩ = some (.int .i64 (p.u : Int)) ∧ w.cell? ⟨b, off + 2, none⟩ = some (.int .i64 (p.w : Int)) ∧ w.cell? ⟨b, off + 3, none⟩ = some (.int .i64 (p.l : Int)) ∧ w.cell? ⟨b, off + 4, none⟩ = some (.int .i64 (p.c : Int))
/-- Places in memory, each where it is asked. -/
structure PlA (w : World) (a : Option Addr) (L : List Pl) : Prop where
  at' : ∀ k (h : k < L.length), ∃ b off, a = some ⟨b, off, none⟩ ∧ At5 w b (off + k * 5) L[k]
theorem PlA.later {w w' : World} {a : Option Addr} {L : List Pl} (h : PlA w a L) (hb : Below w.heap.size w w') : PlA w' a L := ⟨fun k hk => by
  obtain ⟨b, off, rfl, h1, h2, h3, h4, h5⟩ := h.at' k hk
  have hl := World.block_lt_of_cell? w _ h1
  exact ⟨b, off, rfl, (hb.cell (p := ⟨b, off + k * 5, none⟩) hl).trans h1, (hb.cell (p := ⟨b, off + k * 5 + 1, none⟩) hl).trans h2, (hb.cell (p := ⟨b, off + k * 5 + 2, none⟩) hl).trans h3, (hb.cell (p := ⟨b, off + k * 5 + 3, none⟩) hl).trans h4, (hb.cell (p := ⟨b, off + k * 5 + 4, none⟩) hl).trans h5⟩⟩
/-- A slice of places of the call's own, of whichever of the two types. -/
def OwnPl (t : TypeId) (w : World) (base : Nat) (v : Value) (L : List Pl) : Prop := w.ownsRow base t 5 v L.length (cellsP L)
theorem OwnPl.later {t : TypeId} {w w' : World} {base : Nat} {v : Value} {L : List Pl} (h : OwnPl t w base v L) (hb : Below w.heap.size w w') : OwnPl t w' base v L := by
  obtain ⟨h1, h2⟩ := h
  refine ⟨h1, ?_⟩
  rcases h2 with h2 | ⟨g, cap, cur, hv, hg, hh, r⟩
  · exact .inl h2
  · exact .inr ⟨g, cap, cur, hv, hg, (hb.block g (Array.getElem?_eq_some_iff.1 hh).1).trans hh, r⟩
theorem OwnPl.pa {t : TypeId} {w : World} {base : Nat} {v : Value} {L : List Pl} (h : OwnPl t w base v L) : ∃ a cap, v = .slice a L.length cap ∧ PlA w a L := by
  have h0 := h
  rcases h.2 with ⟨rfl, hn⟩ | ⟨g, cap, cur, rfl, _⟩
  · have : L = [] := List.length_eq_zero_iff.1 hn
    subst this
    exact ⟨none, 0, rfl, ⟨fun k h => absurd h (Nat.not_lt_zero _)⟩⟩
  · refine ⟨_, cap, rfl, ⟨fun k hk => ⟨g, 0, rfl, ?_⟩⟩⟩
    obtain ⟨a, b, c, d, e⟩ := cellsP_at L k hk
    unfold At5
    rw [Nat.zero_add, World.ownsRow.cellAt h0 _ (by omega), World.ownsRow.cellAt h0 _ (by omega), World.ownsRow.cellAt h0 _ (by omega), World.ownsRow.cellAt h0 _ (by omega), World.ownsRow.cellAt h0 _ (by omega)]
    exact ⟨a, b, c, d, e⟩
theorem ownPl_snoc {t : TypeId} {w wr w1 : World} {base : Nat} {v v' : Value} {L m : List Pl} {u : Pl} {o : Obj} {n : Nat} (hn : n = L.length) (hown : OwnPl t wr base v L)
    (hown' : w1.ownsRow base t 5 v' (n + 1) (cellsP L ++ plC u)) (hgrow : (wr.alloc o).grownBy w1 v.ownBlock) (hm : m = L ++ [u]) (hbel : Below base w wr) (hb : base ≤ w.heap.size) :
    OwnPl t w1 base v' m ∧ Below base w w1 := by
  subst hm hn
  have hsz := hbel.size
  refine ⟨?_, (hbel.alloc (by omega) o).grown hgrow (by simp; omega) (fun k hk => (World.ownsRow.lt hown k hk).1)⟩
  have e2 : cellsP (L ++ [u]) = cellsP L ++ plC u := by rw [cellsP_append]; simp [cellsP]
  unfold OwnPl
  rw [List.length_append, e2]
  exact hown'
theorem row5 {W : World} {X : Nat} {t : TypeId} {a b c d e : Value} (h : W.heap[X]? = some (.cells #[a, b, c, d, e] t (0, 0))) : (W.cell? ⟨X, 0, none⟩ = some a ∧ W.cell? ⟨X, 1, none⟩ = some b ∧ W.cell? ⟨X, 2, none⟩ = some c ∧ W.cell? ⟨X, 3, none⟩ = some d ∧ W.cell? ⟨X, 4, none⟩ = some e) ∧ (W.frozen? ⟨X, 0, none⟩ = false ∧ W.frozen? ⟨X, 1, none⟩ = false ∧ W.frozen? ⟨X, 2, none⟩ = false ∧ W.frozen? ⟨X, 3, none⟩ = false ∧ W.frozen? ⟨X, 4, none⟩ = false) :=
  ⟨⟨by rw [cell_of_row _ _ _ _ _ _ h]; rfl, by rw [cell_of_row _ _ _ _ _ _ h]; rfl, by rw [cell_of_row _ _ _ _ _ _ h]; rfl, by rw [cell_of_row _ _ _ _ _ _ h]; rfl, by rw [cell_of_row _ _ _ _ _ _ h]; rfl⟩,
   ⟨by simp [World.frozen?, h], by simp [World.frozen?, h], by simp [World.frozen?, h], by simp [World.frozen?, h], by simp [World.frozen?, h]⟩⟩
theorem cell5_new (w : World) (a b c d e : Value) (t : TypeId) : ∀ j u, [a, b, c, d, e][j]? = some u → (w.alloc (.cells #[a, b, c, d, e] t)).cell? ((⟨w.heap.size, 0, none⟩ : Addr).add j) = some u := by
  intro j u h
  rw [Addr.add_lit, cell_of_row _ w.heap.size _ _ _ _ (heap_alloc_new w _), Nat.zero_add]
  simpa using h
set_option maxRecDepth 10000 in
set_option maxHeartbeats 400000 in
theorem width_any (p a b : Int) (w : World) :
    Calls Tryd.prog 54 #[.agg #[.int .i64 p, .int .i64 a, .int .i64 b]] w fun e w' => e = .returned (.int .i64 (widP p : Int)) ∧ w' = w.alloc (.cells #[.int .i64 p, .int .i64 a, .int .i64 b] 28) := by
  by_cases h : 65535 < p
  · have hw : widP p = 2 := if_pos h
    go_enter Tryd.func54, Tryd.ntmps54
    go_wp2
    go_ret
    exact ⟨by first | rfl | (rw [hw]; rfl), rfl⟩
  · have hw : widP p = 1 := if_neg h
    go_enter Tryd.func54, Tryd.ntmps54
    go_wp2
    go_ret
    exact ⟨by first | rfl | (rw [hw]; rfl), rfl⟩
end Go.Proofs.YtlmbbohhdgeedaaDoor
