/-
  MfJM.
-/
import Derived.Test.YtbbejfkgopcjoaaDoorNebb
namespace Go.Proofs.YtbbejfkgopcjoaaDoor
open Go.RowKit Go.Shelf
/-- Numbers that lie in memory, in no block that av names. -/
structure IAF (w : World) (av : Nat → Prop) (a : Option Addr) (L : List Int) : Prop where
  at' : ∀ k (h : k < L.length), ∃ b off, a = some ⟨b, off, none⟩ ∧ b < w.heap.size ∧ ¬ av b ∧ w.cell? ⟨b, off + k, none⟩ = some (.int .i64 L[k])
/-- Rows that lie so. -/
structure RwF (w : World) (av : Nat → Prop) (a : Option Addr) (L : List (List Int)) : Prop where
  at' : ∀ k (h : k < L.length), ∃ b off, a = some ⟨b, off, none⟩ ∧ b < w.heap.size ∧ ¬ av b ∧ ∃ a1 c1, w.cell? ⟨b, off + k, none⟩ = some (.slice a1 (L[k]).length c1) ∧ IAF w av a1 L[k]
theorem IAF.ia {w : World} {av : Nat → Prop} {a : Option Addr} {L : List Int} (h : IAF w av a L) : IA w a L := ⟨fun k hk => by
  obtain ⟨b, off, e, h1, _, h2⟩ := h.at' k hk
  exact ⟨b, off, e, h1, h2⟩⟩
theorem RwF.rwa {w : World} {av : Nat → Prop} {a : Option Addr} {L : List (List Int)} (h : RwF w av a L) : RwA w a L := ⟨fun k hk => by
  obtain ⟨b, off, e, h1, _, a1, c1, h2, h3⟩ := h.at' k hk
  exact ⟨b, off, e, h1, a1, c1, h2, h3.ia⟩⟩
theorem cell_blk {w w' : World} {b i : Nat} (h : w'.heap[b]? = w.heap[b]?) : w'.cell? ⟨b, i, none⟩ = w.cell? ⟨b, i, none⟩ := by
  unfold World.cell?
  rw [h]
theorem IAF.keep {w w' : World} {av av' : Nat → Prop} {a : Option Addr} {L : List Int} (h : IAF w av a L) (hs : w.heap.size ≤ w'.heap.size) (hb : ∀ k, k < w.heap.size → ¬ av k → w'.heap[k]? = w.heap[k]?) (ha : ∀ k, k < w.heap.size → av' k → av k) : IAF w' av' a L := ⟨fun k hk => by
  obtain ⟨b, off, e, h1, h2, h3⟩ := h.at' k hk
  exact ⟨b, off, e, by omega, fun q => h2 (ha b h1 q), (cell_blk (hb b h1 h2)).trans h3⟩⟩
theorem RwF.keep {w w' : World} {av av' : Nat → Prop} {a : Option Addr} {L : List (List Int)} (h : RwF w av a L) (hs : w.heap.size ≤ w'.heap.size) (hb : ∀ k, k < w.heap.size → ¬ av k → w'.heap[k]? = w.heap[k]?) (ha : ∀ k, k < w.heap.size → av' k → av k) : RwF w' av' a L := ⟨fun k hk => by
  obtain ⟨b, off, e, h1, h2, a1, c1, h3, h4⟩ := h.at' k hk
  exact ⟨b, off, e, by omega, fun q => h2 (ha b h1 q), a1, c1, (cell_blk (hb b h1 h2)).trans h3, h4.keep hs hb ha⟩⟩
theorem own_iaf {w : World} {lo : Nat} {v : Value} {L : List Int} (h : OwnI w lo v L) : ∃ a c, v = .slice a L.length c ∧ IAF w (· < lo) a L := by
  rcases Nat.eq_zero_or_pos L.length with h0 | h0
  · obtain ⟨a, c, e⟩ := own_sl h
    exact ⟨a, c, e, ⟨fun k hk => by omega⟩⟩
  · obtain ⟨g, c, e, h1, h2, _⟩ := own_form h h0
    refine ⟨_, c, e, ⟨fun k hk => ⟨g, 0, rfl, h2, by omega, ?_⟩⟩⟩
    subst e
    have := World.ownsRow.cellAt h k (by omega)
    rw [Nat.zero_add, this]
    simp [hk]
/-- Rows of one's own lie so. -/
theorem RwsM.rwf {w : World} {lo : Nat} {v : Value} {VS : List Value} {L : List (List Nat)} (h : RwsM w lo v VS L) : ∃ a c, v = .slice a L.length c ∧ RwF w (· < lo) a (L.map nI) := by
  rcases Nat.eq_zero_or_pos L.length with h0 | h0
  · obtain ⟨a, c, e⟩ := own_sl h.outer
    rw [h.len] at e
    exact ⟨a, c, e, ⟨fun k hk => by rw [List.length_map] at hk; omega⟩⟩
  · obtain ⟨g, c, e, h1, h2, _⟩ := own_form h.outer (by rw [h.len]; exact h0)
    have ho := h.outer
    subst e
    rw [h.len] at ho ⊢
    refine ⟨_, c, rfl, ⟨fun k hk => ?_⟩⟩
    rw [List.length_map] at hk
    obtain ⟨x, e1, e2⟩ := h.row k hk
    obtain ⟨a1, c1, e3, e4⟩ := own_iaf e2
    refine ⟨g, 0, rfl, h2, by omega, a1, c1, ?_, ?_⟩
    · have := World.ownsRow.cellAt ho k (by omega)
      rw [Nat.zero_add, this, e1, e3, List.getElem_map]
    · rw [List.getElem_map]; exact e4
/-- Two cells are laid. -/
structure LaidY (W v1 v2 : World) (R : Nat) (o0 o1 a b : Value) : Prop where
  g1 : W.setCell ⟨R, 0, none⟩ a = v1
  g2 : v1.setCell ⟨R, 1, none⟩ b = v2
  z : W.cell? ⟨R, 0, none⟩ = some o0 ∧ W.cell? ⟨R, 1, none⟩ = some o1
  a1 : v1.cell? ⟨R, 1, none⟩ = some o1
  f0 : ∀ k, W.frozen? ⟨R, k, none⟩ = false
  f1 : ∀ k, v1.frozen? ⟨R, k, none⟩ = false
  r : v2.heap[R]? = some (.cells #[a, b] 76 (0, 0))
  only : Only W v2 (fun k => k = R)
theorem laidY {W : World} {R : Nat} {o0 o1 : Value} (a b : Value) (hrb : W.heap[R]? = some (.cells #[o0, o1] 76 (0, 0))) : ∃ v1 v2, LaidY W v1 v2 R o0 o1 a b := by
  have r1 := heap_setCell_same W R 0 _ _ a hrb
  have r2 := heap_setCell_same _ R 1 _ _ b r1
  refine ⟨_, _, rfl, rfl, ⟨?_, ?_⟩, ?_, fun k => by simp [World.frozen?, hrb], fun k => by simp [World.frozen?, r1], r2, ((Only.setCell _ _ _ _).trans (Only.setCell _ _ _ _) (fun _ h => .inl h))⟩
  all_goals first
    | (rw [cell_of_row _ _ _ _ _ _ hrb]; rfl)
    | (rw [cell_of_row _ _ _ _ _ _ r1]; rfl)
/-- A state that is being made. -/
structure SnM (w w3 : World) (X : Nat) (bl : Bool) (vT : Value) (VS : List Value) (L : List (List Nat)) (W : World) : Prop where
  bel : Below w.heap.size w W
  size : w3.heap.size ≤ W.heap.size
  fr : ∀ k, k < w3.heap.size → k ≠ X → W.heap[k]? = w3.heap[k]?
  box : W.heap[X]? = some (.cells #[vT, .bool bl] 76 (0, 0))
  rows : RwsM W w3.heap.size vT VS L
  lt : X < w3.heap.size
  le : w.heap.size ≤ X
theorem SnM.past {w w3 W W' : World} {X : Nat} {bl : Bool} {vT : Value} {VS : List Value} {L : List (List Nat)} (h : SnM w w3 X bl vT VS L W) (hb : Below W.heap.size W W') : SnM w w3 X bl vT VS L W' := ⟨Below.later h.bel hb, Nat.le_trans h.size hb.size, fun k hk hx => (hb.block k (Nat.lt_of_lt_of_le hk h.size)).trans (h.fr k hk hx), (hb.block X (Nat.lt_of_lt_of_le h.lt h.size)).trans h.box, h.rows.keB (KeB.below [] hb) (by simp) (by simp), h.lt, h.le⟩
theorem SnM.add {w w3 W w1 : World} {X n : Nat} {bl : Bool} {vT v' x : Value} {VS : List Value} {L : List (List Nat)} {l : List Nat} {o : Obj} (h : SnM w w3 X bl vT VS L W) (hx : OwnI W w3.heap.size x (nI l)) (hn : n = VS.length) (hown : w1.ownsRow w3.heap.size 34 1 v' (n + 1) (VS ++ [x])) (hg : (W.alloc o).grownBy w1 vT.ownBlock) :
    w1.heap[X]? = some (.cells #[vT, .bool bl] 76 (0, 0)) ∧ SnM w w3 X bl v' (VS ++ [x]) (L ++ [l]) (w1.setCell ⟨X, 0, none⟩ v') := by
  subst hn
  have hXW := Nat.lt_of_lt_of_le h.lt h.size
  have hvl : ∀ k, vT.ownBlock = some k → w3.heap.size ≤ k := fun k hk => (World.ownsRow.lt h.rows.outer k hk).1
  have keep : ∀ k, k < w3.heap.size → w1.heap[k]? = W.heap[k]? := fun k hk => by
    rw [hg.block k (by simp; have := h.size; omega) (fun e => by have := hvl k e.symm; omega), Below.heap_alloc W o k (Nat.lt_of_lt_of_le hk h.size)]
  have hb1 := (keep X h.lt).trans h.box
  have hb2 := heap_setCell_same w1 X 0 _ _ v' hb1
  have hs1 : W.heap.size ≤ w1.heap.size := by have := hg.size; simp at this; omega
  have hs2 : (w1.setCell ⟨X, 0, none⟩ v').heap.size = w1.heap.size := by simp [World.setCell]
  have hkA : KeB [34] W w1 := by
    refine (KeB.below [34] ((Below.refl _ W).alloc (Nat.le_refl _) o)).trans ⟨hg.size, fun k ob hk ht => ?_⟩
    rw [hg.block k (Array.getElem?_eq_some_iff.1 hk).1 (fun e => ?_)]
    · exact hk
    · obtain ⟨cs, hcs⟩ := own_typ h.rows.outer e.symm
      have hlt := (World.ownsRow.lt h.rows.outer k e.symm).2
      rw [Below.heap_alloc W o k hlt, hcs] at hk
      injection hk with hk
      exact ht _ _ _ hk.symm (by simp)
  have hkC : KeB [76] w1 (w1.setCell ⟨X, 0, none⟩ v') := KeB.cell hb1 (by simp) v'
  refine ⟨hb1, ⟨?_, by rw [hs2]; exact Nat.le_trans h.size hs1, fun k hk hx' => ?_, hb2, ?_, h.lt, h.le⟩⟩
  · refine Below.trans (Below.grown (Below.later h.bel ((Below.refl _ W).alloc (Nat.le_refl _) o)) hg (by have := h.bel.size; simp; omega) (fun k hk => ?_)) ((Only.setCell w1 X 0 v').below (by have := h.bel.size; omega) (fun k hk => by rw [hk]; exact h.le))
    have := hvl k hk
    have := h.lt
    have := h.le
    omega
  · rw [Below.heap_setCell _ _ _ _ hx', keep k hk]
    exact h.fr k hk hx'
  · refine RwsM.inner h.rows ((hkA.mono (T' := [34, 76]) (by simp)).trans (hkC.mono (by simp))) (by decide) ?_ hx
    rw [List.length_append]
    exact hkC.own hown (by decide)
end Go.Proofs.YtbbejfkgopcjoaaDoor
