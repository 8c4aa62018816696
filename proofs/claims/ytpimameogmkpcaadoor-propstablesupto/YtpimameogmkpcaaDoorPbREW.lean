/-
  The walk of caesuraref5's Size.
-/
import Derived.Test.YtpimameogmkpcaaDoorPbRDW
import Derived.Test.YtpimameogmkpcaaDoorPbR5W
namespace Go.Proofs.YtpimameogmkpcaaDoor
open Go.RowKit Go.Shelf
/-- The kinds of blocks so far, each in a row of its own. -/
structure Kinds (w : World) (base : Nat) (vK : Value) (K : List (List Pc)) (vals : List Value) : Prop where
  len : vals.length = K.length
  row : w.ownsRow base 77 1 vK vals.length vals
  each : ∀ j (h : j < vals.length) (h' : j < K.length), OwnQ w base vals[j] K[j]
theorem owns_apart {w : World} {base b2 : Nat} {v v' : Value} {n n' s s' : Nat} {e e' : TypeId} {xs xs' : List Value} (h : w.ownsRow base e s v n xs) (h' : w.ownsRow b2 e' s' v' n' xs') (hne : e ≠ e') : v.ownBlock = none ∨ v.ownBlock ≠ v'.ownBlock := by
  rcases h.2 with ⟨rfl, _⟩ | ⟨g, cap, cur, rfl, _, hr, _⟩
  · exact .inl rfl
  · right
    rcases h'.2 with ⟨rfl, _⟩ | ⟨g', cap', cur', rfl, _, hr', _⟩
    · simp [Value.ownBlock]
    · intro e
      simp only [Value.ownBlock, Option.some.injEq] at e
      subst e
      rw [hr] at hr'
      simp only [Option.some.injEq, Obj.cells.injEq] at hr'
      exact hne hr'.2.1
theorem Kinds.below {w w' : World} {base : Nat} {vK : Value} {K : List (List Pc)} {vals : List Value} (h : Kinds w base vK K vals) (hb : Below w.heap.size w w') : Kinds w' base vK K vals := by
  have hg : w.grownBy w' none := ⟨hb.os, hb.tape, hb.output, hb.size, fun k hk _ => hb.block k hk⟩
  exact ⟨h.len, World.ownsRow.kept h.row hg (by cases hv : vK.ownBlock <;> simp), fun j h1 h2 => World.ownsRow.kept (h.each j h1 h2) hg (by cases hv : (vals[j]).ownBlock <;> simp)⟩
theorem Kinds.snoc {w wr w1 : World} {base : Nat} {vK v' v : Value} {K : List (List Pc)} {vals : List Value} {l : List Pc} {o : Obj} {n : Nat} (hn : n = vals.length) (h : Kinds wr base vK K vals) (ho : OwnQ wr base v l)
    (hown' : w1.ownsRow base 77 1 v' (n + 1) (vals ++ [v])) (hgrow : (wr.alloc o).grownBy w1 vK.ownBlock) (hbel : Below base w wr) (hb : base ≤ w.heap.size) : Kinds w1 base v' (K ++ [l]) (vals ++ [v]) ∧ Below base w w1 := by
  subst hn
  have hsz := hbel.size
  have hne : 88 ≠ 77 := by decide
  have hl := h.len
  refine ⟨⟨by simp [h.len], by rw [List.length_append, List.length_singleton]; exact hown', fun j h1 h2 => ?_⟩, (hbel.alloc (by omega) o).grown hgrow (by simp; omega) (fun k hk => (World.ownsRow.lt h.row k hk).1)⟩
  rcases Nat.lt_or_ge j vals.length with hj | hj
  · rw [List.getElem_append_left hj, List.getElem_append_left (by omega)]
    have h3 := h.each j hj (by omega)
    exact World.ownsRow.kept (World.ownsRow.alloc h3 o) hgrow (owns_apart h3 h.row hne)
  · have hj' : j = vals.length := by simp at h1; omega
    subst hj'
    have e1 : (vals ++ [v])[vals.length] = v := by simp
    have e2 : (K ++ [l])[vals.length] = l := by simp [hl]
    rw [e1, e2]
    exact World.ownsRow.kept (World.ownsRow.alloc ho o) hgrow (owns_apart ho h.row hne)
end Go.Proofs.YtpimameogmkpcaaDoor
