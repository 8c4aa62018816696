/-
  A slice of lists that caesurakit.List made, and a row of marks behind it.
-/
import Derived.Test.YthcpalpcakjfnaaMgOW
namespace Go.Proofs.Ythcpalpcakjfnaa
open Go.RowKit Go.Shelf
theorem row_later {w w' : World} {base : Nat} {t : TypeId} {size n : Nat} {v : Value} {xs : List Value} (h : w.ownsRow base t size v n xs) (hb : Below w.heap.size w w') : w'.ownsRow base t size v n xs := own_blk h (fun k hk => hb.block k (World.ownsRow.lt h k hk).2)
abbrev Lot := List (Value × List Int)
theorem LW.lt {w : World} {lo g c : Nat} {L : List Int} (h : LW w lo g c L) : lo ≤ g ∧ g < w.heap.size := World.ownsRow.lt h g rfl
theorem LW.frozen {w : World} {lo g c : Nat} {L : List Int} (h : LW w lo g c L) (k : Nat) : w.frozen? ⟨g, k, none⟩ = false := World.ownsRow.frozenAt h k
theorem LW.put {w : World} {lo g c : Nat} {L : List Int} (h : LW w lo g c L) (k : Nat) (hk : k < L.length) (z : Int) : LW (w.setCell ⟨g, k, none⟩ (.int .i64 z)) lo g c (L.set k z) := by
  have h1 := (World.ownsRow.stored h k (.int .i64 z)).1
  unfold LW
  rw [List.length_set, List.map_set]
  rw [List.set_append_left _ _ (by simpa using hk)] at h1
  exact h1
/-- A slice of such lists. -/
structure Pile (w : World) (base : Nat) (v : Value) (ps : Lot) : Prop where
  outer : w.ownsRow base 33 1 v ps.length (ps.map (·.1))
  row : ∀ x ∈ ps, ∃ g c, x.1 = .slice (some ⟨g, 0, none⟩) x.2.length c ∧ LW w base g c x.2
  apart : ps.Pairwise fun x y => ∀ g, x.1.ownBlock = some g → y.1.ownBlock ≠ some g
  away : ∀ x ∈ ps, ∀ g, v.ownBlock = some g → x.1.ownBlock ≠ some g
theorem Pile.nil (w : World) (base : Nat) : Pile w base (.slice none 0 0) [] := ⟨World.ownsRow_nil _ _ _ _, by simp, List.Pairwise.nil, by simp⟩
theorem Pile.later {w w' : World} {base : Nat} {v : Value} {ps : Lot} (h : Pile w base v ps) (hb : Below w.heap.size w w') : Pile w' base v ps :=
  ⟨row_later h.outer hb, fun x hx => by obtain ⟨g, c, e, hl⟩ := h.row x hx; exact ⟨g, c, e, hl.past hb⟩, h.apart, h.away⟩
theorem Pile.blk {w : World} {base : Nat} {v : Value} {ps : Lot} (h : Pile w base v ps) {x : Value × List Int} (hx : x ∈ ps) {g : Nat} (hg : x.1.ownBlock = some g) : base ≤ g ∧ g < w.heap.size := by
  obtain ⟨g', c, e, hl⟩ := h.row x hx
  rw [e] at hg
  obtain rfl : g' = g := by simpa [Value.ownBlock] using hg
  exact hl.lt
/-- What only other blocks are written into leaves a pile as it is. -/
theorem Pile.kept {w w' : World} {base : Nat} {v : Value} {ps : Lot} (h : Pile w base v ps) (hb : ∀ k, base ≤ k → k < w.heap.size → w'.heap[k]? = w.heap[k]?) : Pile w' base v ps :=
  ⟨own_blk h.outer (fun k hk => hb k (World.ownsRow.lt h.outer k hk).1 (World.ownsRow.lt h.outer k hk).2), fun x hx => by
    obtain ⟨g, c, e, hl⟩ := h.row x hx
    exact ⟨g, c, e, own_blk hl (fun k hk => hb k (World.ownsRow.lt hl k hk).1 (World.ownsRow.lt hl k hk).2)⟩, h.apart, h.away⟩
/-- One more, made behind the pile. -/
theorem Pile.snoc {W wr w1 : World} {base : Nat} {v v' : Value} {ps : Lot} {l : List Int} {g c : Nat} {o : Obj} {n : Nat} (hn : n = ps.length) (h : Pile W base v ps) (hk : Below W.heap.size W wr) (hx : LW wr W.heap.size g c l) (hbase : base ≤ W.heap.size)
    (hown' : w1.ownsRow base 33 1 v' (n + 1) (ps.map (·.1) ++ [.slice (some ⟨g, 0, none⟩) l.length c])) (hgrow : (wr.alloc o).grownBy w1 v.ownBlock) (hat : v'.ownBlock = v.ownBlock ∨ v'.ownBlock = some (wr.alloc o).heap.size) {w : World} (hb : Below base w W) :
    Pile w1 base v' (ps ++ [(.slice (some ⟨g, 0, none⟩) l.length c, l)]) ∧ Below base w w1 := by
  subst hn
  have h2 := h.later hk
  have hs := hk.size
  have hgl := hx.lt
  have old : ∀ {t : TypeId} {size m : Nat} {u : Value} {xs : List Value} {b : Nat}, wr.ownsRow b t size u m xs → (∀ g, v.ownBlock = some g → u.ownBlock ≠ some g) → w1.ownsRow b t size u m xs := fun {t size m u xs b} hu hne => by
    refine World.ownsRow.kept (World.ownsRow.alloc hu o) hgrow ?_
    cases e : u.ownBlock with
    | none => exact .inl rfl
    | some g => exact .inr fun hc => hne g hc.symm e
  have hxa : ∀ q, v.ownBlock = some q → q ≠ g := fun q hq hqg => by
    have e1 := (World.ownsRow.lt h.outer q hq).2
    omega
  refine ⟨⟨?_, ?_, ?_, ?_⟩, ?_⟩
  · rw [List.length_append, List.map_append]
    exact hown'
  · intro y hy
    rcases List.mem_append.1 hy with hy | hy
    · obtain ⟨g1, c1, e1, hl1⟩ := h2.row y hy
      refine ⟨g1, c1, e1, old hl1 (fun q hq hqg => ?_)⟩
      exact h.away y hy q hq (by rw [e1]; exact hqg)
    · rw [List.mem_singleton] at hy
      subst hy
      exact ⟨g, c, rfl, owns_lower (old hx (fun q hq hqg => hxa q hq (by simpa [Value.ownBlock] using hqg.symm))) hbase⟩
  · rw [List.pairwise_append]
    refine ⟨h.apart, List.pairwise_singleton _ _, ?_⟩
    intro y hy z hz q hq hzq
    rw [List.mem_singleton] at hz
    subst hz
    have e1 := (h.blk hy hq).2
    have e2 : g = q := by simpa [Value.ownBlock] using hzq
    omega
  · intro y hy q hq hyq
    have hyl : y.1.ownBlock = some q → q < wr.heap.size ∧ (y ∈ ps ∨ q = g) := fun e => by
      rcases List.mem_append.1 hy with hy | hy
      · exact ⟨(h2.blk hy e).2, .inl hy⟩
      · rw [List.mem_singleton] at hy
        subst hy
        have e2 : g = q := by simpa [Value.ownBlock] using e
        subst e2
        exact ⟨hgl.2, .inr rfl⟩
    obtain ⟨e1, e2⟩ := hyl hyq
    rcases hat with hat | hat
    · rw [hat] at hq
      rcases e2 with e2 | e2
      · exact h.away y e2 q hq hyq
      · exact hxa q hq e2
    · rw [hat] at hq
      simp at hq
      omega
  · refine ((hb.trans (hk.mono hbase)).alloc ?_ o).grown hgrow ?_ (fun k hk' => (World.ownsRow.lt h.outer k hk').1)
    · omega
    · simp; omega
theorem Pile.cells {w : World} {base : Nat} {v : Value} {ps : Lot} (h : Pile w base v ps) : ∃ a c, v = .slice a ps.length c ∧ (a = none → c = 0) ∧ ∀ j (hj : j < ps.length), ∃ b, a = some ⟨b, 0, none⟩ ∧ v.ownBlock = some b ∧ b < w.heap.size ∧ w.cell? ⟨b, j, none⟩ = some (ps[j]).1 := by
  have h0 := h.outer
  rcases h0.2 with ⟨hv, hn⟩ | ⟨g, cap, cur, hv, _⟩
  · exact ⟨none, 0, by rw [hv, hn], fun _ => rfl, fun j hj => by omega⟩
  · refine ⟨some ⟨g, 0, none⟩, cap, hv, fun e => (by cases e), fun j hj => ⟨g, rfl, by rw [hv]; rfl, ?_, ?_⟩⟩
    · exact (World.ownsRow.lt h0 g (by rw [hv]; rfl)).2
    · rw [hv] at h0
      rw [World.ownsRow.cellAt h0 j (by omega)]
      simp [hj]
theorem Pile.rwa {w : World} {base : Nat} {v : Value} {ps : Lot} (h : Pile w base v ps) : ∃ a c, v = .slice a ps.length c ∧ RwA w a (ps.map (·.2)) := by
  obtain ⟨a, c, hv, _, hc⟩ := h.cells
  refine ⟨a, c, hv, ⟨fun k hk => ?_⟩⟩
  have hk' : k < ps.length := by simpa using hk
  obtain ⟨b, rfl, _, hb, hcell⟩ := hc k hk'
  obtain ⟨g1, c1, e1, hl⟩ := h.row ps[k] (List.getElem_mem hk')
  refine ⟨b, 0, rfl, hb, some ⟨g1, 0, none⟩, c1, ?_, ?_⟩
  · rw [Nat.zero_add, hcell, e1]
    simp
  · simp only [List.getElem_map]
    exact hl.ia
/-- One number of one list written over. -/
theorem Pile.put {w : World} {base : Nat} {v : Value} {ps : Lot} (h : Pile w base v ps) (i : Nat) (hi : i < ps.length) {g c : Nat} (hp : (ps[i]).1 = .slice (some ⟨g, 0, none⟩) (ps[i]).2.length c) (k : Nat) (hk : k < (ps[i]).2.length) (z : Int) :
    ∃ ps', ps'.length = ps.length ∧ ps'.map (fun x => x.2.length) = ps.map (fun x => x.2.length) ∧ ps'.map (·.1) = ps.map (·.1) ∧ Pile (w.setCell ⟨g, k, none⟩ (.int .i64 z)) base v ps' := by
  have hmem : ps[i] ∈ ps := List.getElem_mem hi
  have hbl : (ps[i]).1.ownBlock = some g := by rw [hp]; rfl
  have haw : ∀ g', v.ownBlock = some g' → g' ≠ g := fun g' hg' e => by subst e; exact h.away _ hmem g' hg' hbl
  have keep : ∀ {t : TypeId} {size m : Nat} {u : Value} {xs : List Value}, w.ownsRow base t size u m xs → (∀ g', u.ownBlock = some g' → g' ≠ g) → (w.setCell ⟨g, k, none⟩ (.int .i64 z)).ownsRow base t size u m xs := by
    intro t size m u xs ho hne
    exact own_blk ho (fun q hq => Below.heap_setCell w _ _ q (hne q hq))
  have hmap : (ps.set i ((ps[i]).1, (ps[i]).2.set k z)).map (·.1) = ps.map (·.1) := by
    rw [List.map_set]
    apply List.ext_getElem
    · simp
    · intro j h1 h2
      rw [List.getElem_set]
      split
      · subst_vars; simp
      · rfl
  have hmap2 : (ps.set i ((ps[i]).1, (ps[i]).2.set k z)).map (fun x => x.2.length) = ps.map (fun x => x.2.length) := by
    rw [List.map_set]
    apply List.ext_getElem
    · simp
    · intro j h1 h2
      rw [List.getElem_set]
      split
      · subst_vars; simp
      · rfl
  refine ⟨ps.set i ((ps[i]).1, (ps[i]).2.set k z), by simp, hmap2, hmap, ?_, ?_, ?_, ?_⟩
  · rw [hmap, List.length_set]
    exact keep h.outer haw
  · intro x hx
    obtain ⟨j, hj, rfl⟩ := List.getElem_of_mem hx
    have hj2 : j < ps.length := by simpa using hj
    rw [List.getElem_set]
    split
    · obtain ⟨g1, c1, e1, hl⟩ := h.row _ hmem
      rw [hp] at e1
      simp only [Value.slice.injEq, Option.some.injEq, Addr.mk.injEq, and_true, true_and] at e1
      obtain ⟨rfl, rfl⟩ := e1
      exact ⟨g, c, by simp only [List.length_set]; exact hp, hl.put k hk z⟩
    · rename_i hne
      obtain ⟨g1, c1, e1, hl⟩ := h.row _ (List.getElem_mem hj2)
      refine ⟨g1, c1, e1, keep hl ?_⟩
      intro g' hg' e
      subst e
      have e2 : g1 = g' := by simpa [Value.ownBlock] using hg'
      subst e2
      have hbj : (ps[j]).1.ownBlock = some g1 := by rw [e1]; rfl
      have := List.pairwise_iff_getElem.1 h.apart
      rcases Nat.lt_or_gt_of_ne hne with hlt | hlt
      · exact this i j hi hj2 hlt g1 hbl hbj
      · exact this j i hj2 hi hlt g1 hbj hbl
  · have hpr : ∀ (qs : Lot), qs.Pairwise (fun x y => ∀ g, x.1.ownBlock = some g → y.1.ownBlock ≠ some g) ↔ (qs.map (·.1)).Pairwise (fun x y => ∀ g, x.ownBlock = some g → y.ownBlock ≠ some g) := fun qs => by rw [List.pairwise_map]
    rw [hpr, hmap, ← hpr]
    exact h.apart
  · intro x hx g' hg'
    have hx1 : x.1 ∈ ps.map (·.1) := by rw [← hmap]; exact List.mem_map_of_mem hx
    obtain ⟨y, hy, hye⟩ := List.mem_map.1 hx1
    rw [← hye]
    exact h.away y hy g' hg'
end Go.Proofs.Ythcpalpcakjfnaa
