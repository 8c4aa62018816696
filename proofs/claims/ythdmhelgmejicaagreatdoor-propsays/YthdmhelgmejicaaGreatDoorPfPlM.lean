/-
  Slices of ranges, each in a row of its own, in one row.
-/
import Derived.Test.YthdmhelgmejicaaGreatDoorPfSmW
import Derived.OneCell
import Derived.Laws.OwnMore
namespace Go.Proofs.YthdmhelgmejicaaGreatDoor
open Go.RowKit Go.Shelf
theorem row_later {w w' : World} {base : Nat} {t : TypeId} {size n : Nat} {v : Value} {xs : List Value} (h : w.ownsRow base t size v n xs) (hb : Below w.heap.size w w') : w'.ownsRow base t size v n xs := by
  obtain ⟨h1, h2⟩ := h
  refine ⟨h1, ?_⟩
  rcases h2 with h2 | ⟨g, cap, cur, hv, hg, hh, r⟩
  · exact .inl h2
  · exact .inr ⟨g, cap, cur, hv, hg, (hb.block g (Array.getElem?_eq_some_iff.1 hh).1).trans hh, r⟩
theorem rows_ne {w : World} {base base' : Nat} {t t' : TypeId} {s s' n n' : Nat} {v v' : Value} {xs ys : List Value} (h : w.ownsRow base t s v n xs) (h' : w.ownsRow base' t' s' v' n' ys) (ht : ¬ t = t') : v.ownBlock = none ∨ v.ownBlock ≠ v'.ownBlock := by
  rcases h.2 with ⟨rfl, _⟩ | ⟨g, cap, cur, rfl, _, hh, _⟩
  · exact .inl rfl
  · refine .inr fun e => ?_
    rcases h'.2 with ⟨rfl, _⟩ | ⟨g', cap', cur', rfl, _, hh', _⟩
    · simp [Value.ownBlock] at e
    · simp only [Value.ownBlock, Option.some.injEq] at e
      subst e
      rw [hh] at hh'
      simp only [Option.some.injEq, Obj.cells.injEq] at hh'
      exact ht hh'.2.1
/-- .. of different types, as inequality of blocks. -/
theorem rows_ne' {w : World} {base base' : Nat} {t t' : TypeId} {s s' n n' : Nat} {v v' : Value} {xs ys : List Value} (h : w.ownsRow base t s v n xs) (h' : w.ownsRow base' t' s' v' n' ys) (ht : ¬ t = t') {g : Nat} (hg : v'.ownBlock = some g) : v.ownBlock ≠ some g := by
  rcases rows_ne h h' ht with e | e
  · rw [e]; simp
  · rw [← hg]; exact e
structure Pl (w : World) (base : Nat) (v : Value) (vs : List Value) (F : Nat → List (Int × Int)) : Prop where
  outer : w.ownsRow base 93 1 v vs.length vs
  row : ∀ k (h : k < vs.length), OwnR w base vs[k] (F k)
  apart : ∀ j k (hj : j < vs.length) (hk : k < vs.length), ¬ j = k → ∀ g, vs[j].ownBlock = some g → vs[k].ownBlock ≠ some g
theorem Pl.nil (w : World) (base : Nat) (F : Nat → List (Int × Int)) : Pl w base (.slice none 0 0) [] F := ⟨World.ownsRow_nil _ _ _ _, fun k h => by simp at h, fun j k h => by simp at h⟩
theorem Pl.later {w w' : World} {base : Nat} {v : Value} {vs : List Value} {F : Nat → List (Int × Int)} (h : Pl w base v vs F) (hb : Below w.heap.size w w') : Pl w' base v vs F :=
  ⟨row_later h.outer hb, fun k hk => (h.row k hk).later hb, h.apart⟩
theorem Pl.below {w : World} {base : Nat} {v : Value} {vs : List Value} {F : Nat → List (Int × Int)} (h : Pl w base v vs F) {a : Addr} (ha : a.block < base) (u : Value) : Pl (w.setCell a u) base v vs F :=
  ⟨ownsRow_setCell_below h.outer ha u, fun k hk => ownsRow_setCell_below (h.row k hk) ha u, h.apart⟩
/-- Another row, of another type, has grown. -/
theorem Pl.kept {w w' : World} {base base' : Nat} {v u : Value} {vs : List Value} {F : Nat → List (Int × Int)} {t' : TypeId} {s' n' : Nat} {ys : List Value} (h : Pl w base v vs F) (hu : w.ownsRow base' t' s' u n' ys) (h1 : ¬ 93 = t') (h2 : ¬ 86 = t') (hg : w.grownBy w' u.ownBlock) : Pl w' base v vs F :=
  ⟨World.ownsRow.kept h.outer hg (rows_ne h.outer hu h1), fun k hk => World.ownsRow.kept (h.row k hk) hg (rows_ne (h.row k hk) hu h2), h.apart⟩
theorem Pl.alloc {w : World} {base : Nat} {v : Value} {vs : List Value} {F : Nat → List (Int × Int)} (h : Pl w base v vs F) (o : Obj) : Pl (w.alloc o) base v vs F :=
  ⟨World.ownsRow.alloc h.outer o, fun k hk => World.ownsRow.alloc (h.row k hk) o, h.apart⟩
theorem infoRanges : (Tryz.prog.info? 93).map (fun i => (i.zero, i.size, i.bytes)) = some (some (.slice none 0 0), 1, 24) := by kernel_rfl
/-- An empty slice behind the others. -/
theorem Pl.push {wr w1 : World} {base n : Nat} {v v' : Value} {vs : List Value} {F : Nat → List (Int × Int)} {o : Obj} (hn : n = vs.length) (h : Pl wr base v vs F) (hF : F n = [])
    (hown' : w1.ownsRow base 93 1 v' (n + 1) (vs ++ [.slice none 0 0])) (hgrow : (wr.alloc o).grownBy w1 v.ownBlock) : Pl w1 base v' (vs ++ [.slice none 0 0]) F := by
  subst hn
  refine ⟨by rw [List.length_append, List.length_singleton]; exact hown', fun k hk => ?_, fun j k hj hk hne g hg => ?_⟩
  · rw [List.getElem_append]
    split
    · rename_i hlt
      exact World.ownsRow.kept (World.ownsRow.alloc (h.row k hlt) o) hgrow (rows_ne (h.row k hlt) h.outer (by decide))
    · rename_i hlt
      have e : k = vs.length := by simp at hk; omega
      subst e
      rw [hF]
      simp only [Nat.sub_self, List.getElem_cons_zero]
      exact OwnR.nil _ _
  · rw [List.getElem_append] at hg ⊢
    split at hg
    · rename_i hj2
      split
      · rename_i hk2
        exact h.apart j k hj2 hk2 hne g hg
      · simp [Value.ownBlock]
    · simp [Value.ownBlock] at hg
/-- One row has grown, and is put in its place. -/
theorem Pl.grow {wr w1 : World} {base n : Nat} {v x' : Value} {vs : List Value} {F : Nat → List (Int × Int)} {o : Obj} (h : Pl wr base v vs F) (k : Nat) (hk : k < vs.length) (r : Int × Int) (hn : n = (F k).length)
    (hown' : w1.ownsRow base 86 2 x' (n + 1) (cellsR (F k) ++ [.int .i64 r.1, .int .i64 r.2])) (hgrow : (wr.alloc o).grownBy w1 vs[k].ownBlock) (hat : x'.ownBlock = vs[k].ownBlock ∨ x'.ownBlock = some (wr.alloc o).heap.size)
    {gO : Nat} (hv : v.ownBlock = some gO) : Pl (w1.setCell ⟨gO, k, none⟩ x') base v (vs.set k x') (fun j => if j = k then F k ++ [r] else F j) := by
  subst hn
  have hO : w1.ownsRow base 93 1 v vs.length vs := World.ownsRow.kept (World.ownsRow.alloc h.outer o) hgrow (rows_ne h.outer (h.row k hk) (by decide))
  have hrows : ∀ j (hj : j < vs.length), ¬ j = k → OwnR w1 base vs[j] (F j) := fun j hj hne => World.ownsRow.kept (World.ownsRow.alloc (h.row j hj) o) hgrow (by
    cases e : vs[j].ownBlock with
    | none => exact .inl rfl
    | some g => exact .inr (fun e2 => h.apart j k hj hk hne g e e2.symm))
  have hx : OwnR w1 base x' (F k ++ [r]) := by
    unfold OwnR
    rw [List.length_append, List.length_singleton, cellsR_append]
    exact hown'
  have put : ∀ {u : Value} {l : List (Int × Int)}, OwnR w1 base u l → OwnR (w1.setCell ⟨gO, k, none⟩ x') base u l := fun hu => ownsRow_setCell_other hu (rows_ne' hu hO (by decide) hv) _
  refine ⟨?_, fun j hj => ?_, fun i j hi hj hne g hg => ?_⟩
  · rw [List.length_set]
    rcases h.outer.2 with ⟨e, _⟩ | ⟨g, cap, cur, e, _⟩
    · rw [e] at hv; simp [Value.ownBlock] at hv
    · rw [e] at hv hO ⊢
      simp only [Value.ownBlock, Option.some.injEq] at hv
      subst hv
      exact (World.ownsRow.stored hO k x').1
  · rw [List.getElem_set]
    by_cases e : k = j
    · subst e
      rw [if_pos rfl]
      simp only [if_true]
      exact put hx
    · rw [if_neg e]
      simp only [if_neg (fun h => e (Eq.symm h))]
      exact put (hrows j (by simpa using hj) (fun h => e h.symm))
  · rw [List.length_set] at hi hj
    rw [List.getElem_set] at hg ⊢
    have old : ∀ i (hi : i < vs.length), ¬ i = k → ∀ g, vs[i].ownBlock = some g → x'.ownBlock ≠ some g := fun i hi hne g hg e => by
      rcases hat with hat | hat
      · rw [hat] at e
        exact h.apart i k hi hk hne g hg e
      · rw [hat] at e
        have := (World.ownsRow.lt (h.row i hi) g hg).2
        simp at e
        omega
    by_cases ei : k = i
    · rw [if_pos ei] at hg
      have ej : ¬ k = j := fun e => hne (ei.symm.trans e)
      rw [if_neg ej]
      intro e
      exact old j hj (fun h => ej h.symm) g e hg
    · rw [if_neg ei] at hg
      by_cases ej : k = j
      · rw [if_pos ej]
        exact old i hi (fun h => ei h.symm) g hg
      · rw [if_neg ej]
        exact h.apart i j hi hj hne g hg
end Go.Proofs.YthdmhelgmejicaaGreatDoor
