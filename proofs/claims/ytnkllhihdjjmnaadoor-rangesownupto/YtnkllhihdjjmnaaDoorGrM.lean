/-
  The answers while they are grown.
-/
import Derived.Test.YtnkllhihdjjmnaaDoorStM
namespace Go.Proofs.YtnkllhihdjjmnaaDoor
open Go.RowKit
/-- All read as they did; those from i on are still their own. -/
structure Gr (W4 : World) (g cap : Nat) (i : Nat) (qs : Lot) (wr : World) : Prop where
  outer : wr.ownsRow W4.heap.size 22 1 (.slice (some ⟨g, 0, none⟩) 20 cap) 20 (qs.map (·.1))
  len : qs.length = 20
  small : ∀ x ∈ qs, x.2.length ≤ 1114112
  done : ∀ (j : Nat) (x : Value × List (Int × Int)), j < 20 → qs[j]? = some x → ∀ r ∈ x.2, r = ((j : Int), (-1 : Int))
  apart : qs.Pairwise fun x y => ∀ g, x.1.ownBlock = some g → y.1.ownBlock ≠ some g
  away : ∀ x ∈ qs, x.1.ownBlock ≠ some g
  lt : ∀ x ∈ qs, ∀ g', x.1.ownBlock = some g' → g' < wr.heap.size
  read : ∀ x ∈ qs, ∃ a c, x.1 = .slice a x.2.length c ∧ RA wr a x.2
  zero : ∀ x ∈ qs, ∀ b off n c, x.1 = .slice (some ⟨b, off, none⟩) n c → off = 0
  own : ∀ (j : Nat) (x : Value × List (Int × Int)), i ≤ j → qs[j]? = some x → OwnR wr W4.heap.size x.1 x.2
  bel : Below W4.heap.size W4 wr
theorem St.gr {W4 wr : World} {g cap : Nat} {qs : Lot} (h : St W4 g cap 20 0 qs wr) : Gr W4 g cap 0 qs wr where
  outer := h.pile.out' h.len
  len := h.len
  small := h.small
  done := h.done
  apart := h.pile.apart
  away := fun x hx => h.pile.away x hx g rfl
  lt := fun x hx g' hg' => ((h.pile.row x hx).lt hg').2
  read := fun x hx => (h.pile.row x hx).ra
  zero := fun x hx b off n c e => by
    rcases (h.pile.row x hx).2 with ⟨h0, _⟩ | ⟨g1, cap1, cur, hv, _⟩
    · rw [e] at h0; cases h0
    · rw [e] at hv
      simp only [Value.slice.injEq, Option.some.injEq, Addr.mk.injEq] at hv
      exact hv.1.2.1
  own := fun j x _ hx => h.pile.row x (List.mem_of_getElem? hx)
  bel := h.bel
theorem Gr.cell {W4 wr : World} {g cap i : Nat} {qs : Lot} (h : Gr W4 g cap i qs wr) (j : Nat) {x : Value × List (Int × Int)} (hx : qs[j]? = some x) : wr.cell? ⟨g, j, none⟩ = some x.1 := by
  obtain ⟨hj, rfl⟩ := List.getElem?_eq_some_iff.1 hx
  have hl := h.len
  rw [World.ownsRow.cellAt h.outer j (by omega)]
  simp [hj]
/-- One list while it grows: lv reads as the list and k more. -/
structure Gw (W4 : World) (g cap : Nat) (i k : Nat) (x : Value × List (Int × Int)) (lv : Value) (qs : Lot) (wr : World) : Prop where
  gr : Gr W4 g cap (i + 1) qs wr
  at' : qs[i]? = some x
  lo : OwnR wr W4.heap.size lv (x.2 ++ List.replicate k ((-5 : Int), (-5 : Int)))
  away : lv.ownBlock ≠ some g
  apart : ∀ (j : Nat) (y : Value × List (Int × Int)), j ≠ i → qs[j]? = some y → ∀ g', lv.ownBlock = some g' → y.1.ownBlock ≠ some g'
theorem Gr.start {W4 wr : World} {g cap i : Nat} {qs : Lot} (h : Gr W4 g cap i qs wr) {x : Value × List (Int × Int)} (hx : qs[i]? = some x) : Gw W4 g cap i 0 x x.1 qs wr where
  gr := { h with own := fun j y hj hy => h.own j y (by omega) hy }
  at' := hx
  lo := by rw [List.replicate_zero, List.append_nil]; exact h.own i x (Nat.le_refl _) hx
  away := h.away x (List.mem_of_getElem? hx)
  apart := fun j y hj hy g' hg' hyg => by
    obtain ⟨hi1, rfl⟩ := List.getElem?_eq_some_iff.1 hx
    obtain ⟨hj1, rfl⟩ := List.getElem?_eq_some_iff.1 hy
    have := List.pairwise_iff_getElem.1 h.apart
    rcases Nat.lt_or_gt_of_ne hj with hlt | hlt
    · exact this j i hj1 hi1 hlt g' hyg hg'
    · exact this i j hi1 hj1 hlt g' hg' hyg
theorem RA.moved {w w' : World} {a : Option Addr} {l : List (Int × Int)} (h : RA w a l) (hk : ∀ b off j u, a = some ⟨b, off, none⟩ → j < l.length * 2 → w.cell? ⟨b, off + j, none⟩ = some u → w'.cell? ⟨b, off + j, none⟩ = some u) : RA w' a l := ⟨fun k hl => by
  obtain ⟨b, off, rfl, h1, h2⟩ := h.at' k hl
  exact ⟨b, off, rfl, hk b off (k * 2) _ rfl (by omega) h1, hk b off (k * 2 + 1) _ rfl (by omega) h2⟩⟩
theorem Gw.step {W4 wr w1 : World} {g cap i k : Nat} {x : Value × List (Int × Int)} {lv lv' : Value} {qs : Lot} {o : Obj} {n : Nat} (h : Gw W4 g cap i k x lv qs wr) (hn : n = x.2.length + k)
    (hown' : w1.ownsRow W4.heap.size 35 2 lv' (n + 1) (cellsR (x.2 ++ List.replicate k ((-5 : Int), (-5 : Int))) ++ [.int .i64 (-5), .int .i64 (-5)])) (hgrow : (wr.alloc o).grownBy w1 lv.ownBlock)
    (hat : lv'.ownBlock = lv.ownBlock ∨ lv'.ownBlock = some (wr.alloc o).heap.size) (hfr : ∀ g j u, lv.ownBlock = some g → j < n * 2 → (wr.alloc o).cell? ⟨g, j, none⟩ = some u → w1.cell? ⟨g, j, none⟩ = some u) : Gw W4 g cap i (k + 1) x lv' qs w1 := by
  subst hn
  have hbs := h.gr.bel.size
  have hsz : (wr.alloc o).heap.size = wr.heap.size + 1 := by simp
  have hs1 : wr.heap.size + 1 ≤ w1.heap.size := by have := hgrow.size; omega
  have hB : Below wr.heap.size wr (wr.alloc o) := (Below.refl _ wr).alloc (Nat.le_refl _) o
  have hxm : x ∈ qs := List.mem_of_getElem? h.at'
  have keep : ∀ {t : TypeId} {size m : Nat} {u : Value} {xs : List Value}, wr.ownsRow W4.heap.size t size u m xs → (∀ g', lv.ownBlock = some g' → u.ownBlock ≠ some g') → w1.ownsRow W4.heap.size t size u m xs := by
    intro t size m u xs hu hne
    refine World.ownsRow.kept (World.ownsRow.alloc hu o) hgrow ?_
    cases e : u.ownBlock with
    | none => exact .inl rfl
    | some g1 => exact .inr fun hc => hne g1 hc.symm e
  have readK : ∀ y ∈ qs, ∃ a c, y.1 = .slice a y.2.length c ∧ RA w1 a y.2 := by
    intro y hy
    obtain ⟨a, c, e, hr⟩ := h.gr.read y hy
    refine ⟨a, c, e, hr.moved ?_⟩
    intro b off j u ha hj hc
    subst ha
    have hc2 : (wr.alloc o).cell? ⟨b, off + j, none⟩ = some u := (hB.cell (p := ⟨b, off + j, none⟩) (World.block_lt_of_cell? wr _ hc)).trans hc
    by_cases hlb : lv.ownBlock = some b
    · have hyb : y.1.ownBlock = some b := by rw [e]; rfl
      obtain ⟨jj, hjj⟩ := List.getElem?_of_mem hy
      have hji : jj = i := by
        by_cases hne : jj = i
        · exact hne
        · exact absurd hyb (h.apart jj y hne hjj b hlb)
      subst hji
      rw [h.at'] at hjj
      obtain rfl := Option.some.inj hjj
      have h0 : off = 0 := h.gr.zero _ hy b off _ _ e
      subst h0
      exact hfr b (0 + j) u hlb (by omega) hc2
    · exact hgrow.cell hc2 (fun e => hlb e.symm)
  have hgl : g < wr.heap.size := (World.ownsRow.lt h.gr.outer g rfl).2
  refine ⟨⟨?_, h.gr.len, h.gr.small, h.gr.done, h.gr.apart, h.gr.away, ?_, readK, h.gr.zero, ?_, ?_⟩, h.at', ?_, ?_, ?_⟩
  · refine keep h.gr.outer ?_
    intro g' hg' hc
    have : g = g' := by simpa [Value.ownBlock] using hc
    subst this
    exact h.away hg'
  · intro y hy g' hg'
    have := h.gr.lt y hy g' hg'
    omega
  · intro j y hj hy
    exact keep (h.gr.own j y hj hy) (fun g' hg' => h.apart j y (by omega) hy g' hg')
  · exact (h.gr.bel.alloc (by omega) o).grown hgrow (by omega) (fun k hk' => (h.lo.lt hk').1)
  · unfold OwnR
    rw [List.replicate_succ', ← List.append_assoc, cellsR_append (x.2 ++ List.replicate k ((-5 : Int), (-5 : Int)))]
    have e1 : (x.2 ++ List.replicate k ((-5 : Int), (-5 : Int)) ++ [((-5 : Int), (-5 : Int))]).length = x.2.length + k + 1 := by simp; omega
    rw [e1]
    exact hown'
  · rcases hat with hat | hat
    · rw [hat]; exact h.away
    · rw [hat, hsz]
      intro e
      have := Option.some.inj e
      omega
  · intro j y hj hy g' hg' hyg
    rcases hat with hat | hat
    · rw [hat] at hg'
      exact h.apart j y hj hy g' hg' hyg
    · rw [hat, hsz] at hg'
      have e1 := Option.some.inj hg'
      have e2 := h.gr.lt y (List.mem_of_getElem? hy) g' hyg
      omega
theorem Gw.len {W4 wr : World} {g cap i k : Nat} {x : Value × List (Int × Int)} {lv : Value} {qs : Lot} (h : Gw W4 g cap i k x lv qs wr) : ∃ a c, lv = .slice a (x.2.length + k) c := by
  obtain ⟨a, c, e, _⟩ := h.lo.ra
  rw [List.length_append, List.length_replicate] at e
  exact ⟨a, c, e⟩
theorem Gw.row {W4 wr : World} {g cap i k : Nat} {x : Value × List (Int × Int)} {lv : Value} {qs : Lot} (h : Gw W4 g cap i k x lv qs wr) {n : Nat} (hn : x.2.length + k = n) : wr.ownsRow W4.heap.size 35 2 lv n (cellsR (x.2 ++ List.replicate k ((-5 : Int), (-5 : Int)))) := by
  have := h.lo
  unfold OwnR at this
  rw [List.length_append, List.length_replicate, hn] at this
  exact this
theorem Gr.next {W4 wr : World} {g cap i : Nat} {qs : Lot} (h : Gr W4 g cap i qs wr) (hi : i < 20) : ∃ x a c, qs[i]? = some x ∧ x.1 = .slice a x.2.length c ∧ wr.cell? ⟨g, i, none⟩ = some (.slice a x.2.length c) ∧ x.2.length ≤ 1114112 ∧ RA wr a x.2 ∧ ∀ r ∈ x.2, r = ((i : Int), (-1 : Int)) := by
  have hl : i < qs.length := by rw [h.len]; exact hi
  have hx : qs[i]? = some qs[i] := List.getElem?_eq_getElem hl
  obtain ⟨a, c, e, hr⟩ := h.read _ (List.getElem_mem hl)
  exact ⟨qs[i], a, c, hx, e, by rw [h.cell i hx, e], h.small _ (List.getElem_mem hl), hr, h.done i _ hi hx⟩
theorem Gr.later {W4 wr w' : World} {g cap i : Nat} {qs : Lot} (h : Gr W4 g cap i qs wr) (hb : Below wr.heap.size wr w') : Gr W4 g cap i qs w' :=
  ⟨row_later h.outer hb, h.len, h.small, h.done, h.apart, h.away, fun x hx g' hg' => Nat.lt_of_lt_of_le (h.lt x hx g' hg') hb.size, fun x hx => (by obtain ⟨a, c, e, hr⟩ := h.read x hx; exact ⟨a, c, e, hr.later hb⟩), h.zero, fun j x hj hx => (h.own j x hj hx).later hb, chain3 hb h.bel⟩
theorem Gr.nextAll {W4 wr : World} {g cap i0 : Nat} {qs : Lot} (h : Gr W4 g cap i0 qs wr) (i : Nat) (hi : i < 20) : ∃ x a c, qs[i]? = some x ∧ x.1 = .slice a x.2.length c ∧ wr.cell? ⟨g, i, none⟩ = some (.slice a x.2.length c) ∧ x.2.length ≤ 1114112 ∧ RA wr a x.2 ∧ ∀ r ∈ x.2, r = ((i : Int), (-1 : Int)) := by
  have hl : i < qs.length := by rw [h.len]; exact hi
  have hx : qs[i]? = some qs[i] := List.getElem?_eq_getElem hl
  obtain ⟨a, c, e, hr⟩ := h.read _ (List.getElem_mem hl)
  exact ⟨qs[i], a, c, hx, e, by rw [h.cell i hx, e], h.small _ (List.getElem_mem hl), hr, h.done i _ hi hx⟩
end Go.Proofs.YtnkllhihdjjmnaaDoor
