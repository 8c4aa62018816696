/-
  The answers while they are written over.
-/
import Derived.Test.YtnkllhihdjjmnaaDoorFewW
namespace Go.Proofs.YtnkllhihdjjmnaaDoor
open Go.RowKit
structure St (W4 : World) (g cap : Nat) (i k : Nat) (qs : Lot) (wr : World) : Prop where
  pile : Pile wr W4.heap.size (.slice (some ⟨g, 0, none⟩) 20 cap) qs
  len : qs.length = 20
  small : ∀ x ∈ qs, x.2.length ≤ 1114112
  done : ∀ j x, j < i → qs[j]? = some x → ∀ r ∈ x.2, r = ((j : Int), (-1 : Int))
  part : ∀ x, qs[i]? = some x → ∀ m (h : m < x.2.length), m < k → x.2[m] = ((i : Int), (-1 : Int))
  bel : Below W4.heap.size W4 wr
theorem Pile.out' {w : World} {base n : Nat} {v : Value} {ps : Lot} (h : Pile w base v ps) (hn : ps.length = n) : w.ownsRow base 22 1 v n (ps.map (·.1)) := by
  subst hn
  exact h.outer
theorem St.row {W4 wr : World} {g cap i k : Nat} {qs : Lot} (h : St W4 g cap i k qs wr) (hi : i < 20) : ∃ x a c, qs[i]? = some x ∧ x.1 = .slice a x.2.length c ∧ wr.cell? ⟨g, i, none⟩ = some (.slice a x.2.length c) ∧ x.2.length ≤ 1114112 := by
  have hl : i < qs.length := by rw [h.len]; exact hi
  have hx : qs[i]? = some qs[i] := List.getElem?_eq_getElem hl
  obtain ⟨a, c, e, _⟩ := (h.pile.row _ (List.getElem_mem hl)).ra
  exact ⟨qs[i], a, c, hx, e, by rw [h.pile.cell h.len i hl, e], h.small _ (List.getElem_mem hl)⟩
theorem St.next {W4 wr : World} {g cap i k : Nat} {qs : Lot} (h : St W4 g cap i k qs wr) {x : Value × List (Int × Int)} (hx : qs[i]? = some x) (hk : x.2.length ≤ k) : St W4 g cap (i + 1) 0 qs wr where
  pile := h.pile
  len := h.len
  small := h.small
  done := fun j y hj hy r hr => by
    rcases Nat.lt_or_ge j i with hlt | hge
    · exact h.done j y hlt hy r hr
    · have e : j = i := by omega
      subst e
      rw [hx] at hy
      obtain rfl := Option.some.inj hy
      obtain ⟨m, hm, rfl⟩ := List.getElem_of_mem hr
      exact h.part x hx m hm (by omega)
  part := fun _ _ _ _ hm => absurd hm (Nat.not_lt_zero _)
  bel := h.bel
theorem St.put {W4 wr : World} {g cap i k : Nat} {qs : Lot} (h : St W4 g cap i k qs wr) {x : Value × List (Int × Int)} (hx : qs[i]? = some x) (hk : k < x.2.length) {a : Option Addr} {c : Nat} (hv : x.1 = .slice a x.2.length c) : ∃ g', a = some ⟨g', 0, none⟩ ∧ W4.heap.size ≤ g' ∧ g' ≠ g ∧
    (∃ u0 u1, wr.cell? ⟨g', k * 2, none⟩ = some (.int .i64 u0) ∧ wr.cell? ⟨g', k * 2 + 1, none⟩ = some (.int .i64 u1)) ∧ wr.frozen? ⟨g', k * 2, none⟩ = false ∧ wr.frozen? ⟨g', k * 2 + 1, none⟩ = false ∧
    St W4 g cap i (k + 1) (qs.set i (.slice (some ⟨g', 0, none⟩) x.2.length c, x.2.set k ((i : Int), (-1 : Int)))) ((wr.setCell ⟨g', k * 2, none⟩ (.int .i64 (i : Int))).setCell ⟨g', k * 2 + 1, none⟩ (.int .i64 (-1))) := by
  obtain ⟨hi, rfl⟩ := List.getElem?_eq_some_iff.1 hx
  have hr := h.pile.row _ (List.getElem_mem hi)
  obtain ⟨g', c', e, hg', _⟩ := World.ownsRow.form hr (by omega)
  rw [hv] at e
  simp only [Value.slice.injEq, true_and] at e
  obtain ⟨rfl, rfl⟩ := e
  rw [hv] at hr
  have hp : qs[i] = (.slice (some ⟨g', 0, none⟩) qs[i].2.length c, qs[i].2) := Prod.ext hv rfl
  obtain ⟨d0, d1, f0, f1⟩ := OwnR.cells2 hr rfl k hk
  have hne : g' ≠ g := fun e => by
    subst e
    exact h.pile.away _ (List.getElem_mem hi) g' rfl (by rw [hv]; rfl)
  refine ⟨g', rfl, hg', hne, ⟨_, _, d0, d1⟩, f0, f1, ?_, ?_, ?_, ?_, ?_, ?_⟩
  · exact h.pile.put i hi hp rfl k hk _ _
  · rw [List.length_set]; exact h.len
  · intro y hy
    rcases List.mem_or_eq_of_mem_set hy with hy | rfl
    · exact h.small y hy
    · simp only [List.length_set]
      exact h.small _ (List.getElem_mem hi)
  · intro j y hj hy
    rw [List.getElem?_set_ne (by omega)] at hy
    exact h.done j y hj hy
  · intro y hy m hm hmk
    rw [List.getElem?_set_self hi] at hy
    obtain rfl := Option.some.inj hy
    simp only [List.length_set] at hm
    rw [List.getElem_set]
    split
    · rfl
    · exact h.part _ hx m hm (by omega)
  · exact (h.bel.setCell (p := ⟨g', k * 2, none⟩) hg' _).setCell (p := ⟨g', k * 2 + 1, none⟩) hg' _
end Go.Proofs.YtnkllhihdjjmnaaDoor
