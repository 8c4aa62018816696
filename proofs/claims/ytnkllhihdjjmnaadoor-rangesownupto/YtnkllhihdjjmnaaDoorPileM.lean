/-
  A slice of slices of ranges, each in a row of its own.
-/
import Derived.Test.YtnkllhihdjjmnaaDoorAnsW
import Derived.Test.YtnkllhihdjjmnaaDoorKeptLW
namespace Go.Proofs.YtnkllhihdjjmnaaDoor
open Go.RowKit
theorem row_later {w w' : World} {base : Nat} {t : TypeId} {size n : Nat} {v : Value} {xs : List Value} (h : w.ownsRow base t size v n xs) (hb : Below w.heap.size w w') : w'.ownsRow base t size v n xs := by
  obtain ⟨h1, h2⟩ := h
  refine ⟨h1, ?_⟩
  rcases h2 with h2 | ⟨g, cap, cur, hv, hg, hh, r⟩
  · exact .inl h2
  · exact .inr ⟨g, cap, cur, hv, hg, (hb.block g (Array.getElem?_eq_some_iff.1 hh).1).trans hh, r⟩
abbrev Lot := List (Value × List (Int × Int))
structure Pile (w : World) (base : Nat) (v : Value) (ps : Lot) : Prop where
  outer : w.ownsRow base 22 1 v ps.length (ps.map (·.1))
  row : ∀ x ∈ ps, OwnR w base x.1 x.2
  apart : ps.Pairwise fun x y => ∀ g, x.1.ownBlock = some g → y.1.ownBlock ≠ some g
  away : ∀ x ∈ ps, ∀ g, v.ownBlock = some g → x.1.ownBlock ≠ some g
theorem Pile.nil (w : World) (base : Nat) : Pile w base (.slice none 0 0) [] := ⟨World.ownsRow_nil _ _ _ _, by simp, List.Pairwise.nil, by simp⟩
theorem Pile.later {w w' : World} {base : Nat} {v : Value} {ps : Lot} (h : Pile w base v ps) (hb : Below w.heap.size w w') : Pile w' base v ps :=
  ⟨row_later h.outer hb, fun x hx => (h.row x hx).later hb, h.apart, h.away⟩
theorem OwnR.lt {w : World} {base : Nat} {v : Value} {l : List (Int × Int)} (h : OwnR w base v l) {g : Nat} (hg : v.ownBlock = some g) : base ≤ g ∧ g < w.heap.size := World.ownsRow.lt h g hg
theorem OwnR.one {w : World} {base : Nat} {v : Value} {l : List (Int × Int)} (h : OwnR w base v l) : v.oneCell' = true := by
  obtain ⟨a, c, rfl, _⟩ := h.ra
  rfl
/-- One more, made behind the pile. -/
theorem Pile.snoc {W wr w1 : World} {base : Nat} {v v' x : Value} {ps : Lot} {l : List (Int × Int)} {o : Obj} {n : Nat} (hn : n = ps.length) (h : Pile W base v ps) (hk : Below W.heap.size W wr) (hx : OwnR wr W.heap.size x l) (hbase : base ≤ W.heap.size)
    (hown' : w1.ownsRow base 22 1 v' (n + 1) (ps.map (·.1) ++ [x])) (hgrow : (wr.alloc o).grownBy w1 v.ownBlock) (hat : v'.ownBlock = v.ownBlock ∨ v'.ownBlock = some (wr.alloc o).heap.size) {w : World} (hb : Below base w W) :
    Pile w1 base v' (ps ++ [(x, l)]) ∧ Below base w w1 := by
  subst hn
  have h2 := h.later hk
  have hs := hk.size
  have hxa : ∀ g, v.ownBlock = some g → x.ownBlock ≠ some g := fun g hg hxg => by
    have e1 := (World.ownsRow.lt h.outer g hg).2
    have e2 := (hx.lt hxg).1
    omega
  have old : ∀ (u : Value) (m : List (Int × Int)) (b : Nat), OwnR wr b u m → (∀ g, v.ownBlock = some g → u.ownBlock ≠ some g) → OwnR w1 b u m := fun u m b hu hne => by
    refine World.ownsRow.kept (World.ownsRow.alloc hu o) hgrow ?_
    cases e : u.ownBlock with
    | none => exact .inl rfl
    | some g =>
      refine .inr fun hc => ?_
      exact hne g hc.symm e
  refine ⟨⟨?_, ?_, ?_, ?_⟩, ?_⟩
  · rw [List.length_append, List.map_append]
    exact hown'
  · intro y hy
    rcases List.mem_append.1 hy with hy | hy
    · exact old _ _ _ (h2.row y hy) (h.away y hy)
    · rw [List.mem_singleton] at hy
      subst hy
      exact (old _ _ _ hx hxa).base hbase
  · rw [List.pairwise_append]
    refine ⟨h.apart, List.pairwise_singleton _ _, ?_⟩
    intro y hy z hz g hg hzg
    rw [List.mem_singleton] at hz
    subst hz
    have e1 := ((h.row y hy).lt hg).2
    have e2 := (hx.lt hzg).1
    omega
  · intro y hy g hg hyg
    rcases hat with hat | hat
    · rw [hat] at hg
      rcases List.mem_append.1 hy with hy | hy
      · exact h.away y hy g hg hyg
      · rw [List.mem_singleton] at hy
        subst hy
        exact hxa g hg hyg
    · rw [hat] at hg
      have hy' : y.1.ownBlock = some g → g < wr.heap.size := fun e => by
        rcases List.mem_append.1 hy with hy | hy
        · exact ((h2.row y hy).lt e).2
        · rw [List.mem_singleton] at hy
          subst hy
          exact (hx.lt e).2
      have := hy' hyg
      simp at hg
      omega
  · refine ((hb.trans (hk.mono hbase)).alloc ?_ o).grown hgrow ?_ (fun k hk' => (World.ownsRow.lt h.outer k hk').1)
    · omega
    · simp; omega
/-- What a call may answer. -/
structure IsF (ok : Bool) (W : Int → Bool) (l : List (Int × Int)) : Prop where
  norm : NormF 0 l
  yes : ok = true → ∀ p, pts l p = W p
  no : ok = false → l = []
theorem IsF.uniq {ok : Bool} {W : Int → Bool} {l m : List (Int × Int)} (h : IsF ok W l) (k : IsF ok W m) : l = m := by
  cases ok with
  | true => exact norm_uniq h.norm k.norm fun p => (h.yes rfl p).trans (k.yes rfl p).symm
  | false => rw [h.no rfl, k.no rfl]
/-- What five calls answer. -/
inductive Five (la lb : List (Int × Int)) : List (List (Int × Int)) → Prop
  | mk {l0 l1 l2 l3 l4 : List (Int × Int)} (h0 : IsF (mayL la) (pts la) l0) (h1 : IsF (mayL la && mayL lb) (fun p => pts la p || pts lb p) l1) (h2 : IsF (mayL la && mayL lb) (fun p => pts la p && pts lb p) l2)
      (h3 : IsF (mayL la && mayL lb) (fun p => pts la p && !pts lb p) l3) (h4 : IsF (mayL la) (fun p => inAll p && !pts la p) l4) : Five la lb [l0, l1, l2, l3, l4]
theorem Five.uniq {la lb : List (Int × Int)} {q r : List (List (Int × Int))} (h : Five la lb q) (k : Five la lb r) : q = r := by
  obtain ⟨h0, h1, h2, h3, h4⟩ := h
  obtain ⟨k0, k1, k2, k3, k4⟩ := k
  rw [h0.uniq k0, h1.uniq k1, h2.uniq k2, h3.uniq k3, h4.uniq k4]
theorem Five.len {la lb : List (Int × Int)} {q : List (List (Int × Int))} (h : Five la lb q) : q.length = 5 := by cases h; rfl
theorem Five.small {la lb : List (Int × Int)} {q : List (List (Int × Int))} (h : Five la lb q) : ∀ l ∈ q, l.length ≤ 1114112 := by
  cases h with
  | mk h0 h1 h2 h3 h4 =>
    intro l hl
    simp only [List.mem_cons, List.not_mem_nil, or_false] at hl
    rcases hl with rfl | rfl | rfl | rfl | rfl
    · have := (norm_len h0.norm (Int.le_refl 0)).1; omega
    · have := (norm_len h1.norm (Int.le_refl 0)).1; omega
    · have := (norm_len h2.norm (Int.le_refl 0)).1; omega
    · have := (norm_len h3.norm (Int.le_refl 0)).1; omega
    · have := (norm_len h4.norm (Int.le_refl 0)).1; omega
theorem infoRanges : (Tryd.prog.info? 22).map (fun i => (i.zero, i.size, i.bytes)) = some (some (.slice none 0 0), 1, 24) := by kernel_rfl
end Go.Proofs.YtnkllhihdjjmnaaDoor
