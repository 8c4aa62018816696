/-
  Four lists while they are written over and grown beside each other.
-/
import Derived.Test.YtmbpollfgmdinaaDoorMrJW
namespace Go.Proofs.YtmbpollfgmdinaaDoor
open Go.RowKit Go.Shelf Go.Lib
def cellsI (L : List Int) : List Value := L.map (Value.int .i64)
theorem OwnI.lt {w : World} {base : Nat} {v : Value} {l : List Int} (h : OwnI w base v l) {g : Nat} (hg : v.ownBlock = some g) : base ≤ g ∧ g < w.heap.size := World.ownsRow.lt h g hg
/-- The slice v holds those of ps; those of qs are made, and are not yet in it. -/
structure Pil4 (w : World) (base : Nat) (v : Value) (ps qs : Lot) : Prop where
  outer : w.ownsRow base 25 1 v ps.length (ps.map (·.1))
  row : ∀ x ∈ ps ++ qs, OwnI w base x.1 x.2
  apart : (ps ++ qs).Pairwise fun x y => ∀ g, x.1.ownBlock = some g → y.1.ownBlock ≠ some g
  away : ∀ x ∈ ps ++ qs, ∀ g, v.ownBlock = some g → x.1.ownBlock ≠ some g
theorem Pil4.nil (w : World) (base : Nat) : Pil4 w base (.slice none 0 0) [] [] := ⟨World.ownsRow_nil _ _ _ _, by simp, List.Pairwise.nil, by simp⟩
theorem Pil4.later {w w' : World} {base : Nat} {v : Value} {ps qs : Lot} (h : Pil4 w base v ps qs) (hb : Below w.heap.size w w') : Pil4 w' base v ps qs :=
  ⟨row_later h.outer hb, fun x hx => row_later (h.row x hx) hb, h.apart, h.away⟩
theorem Pil4.cell {w : World} {base g n cap : Nat} {ps qs : Lot} (h : Pil4 w base (.slice (some ⟨g, 0, none⟩) n cap) ps qs) (hn : ps.length = n) (j : Nat) (hj : j < ps.length) : w.cell? ⟨g, j, none⟩ = some ps[j].1 := by
  have ho := h.outer
  rw [hn] at ho
  rw [World.ownsRow.cellAt ho j (by omega)]
  simp [hj]
theorem cellsI_set (l : List Int) (k : Nat) (s : Int) : (l.map (Value.int .i64)).set k (.int .i64 s) = (l.set k s).map (Value.int .i64) := by rw [List.map_set]
/-- One string of one list written over. -/
theorem Pil4.put {w : World} {base : Nat} {v : Value} {ps : Lot} (h : Pil4 w base v ps []) (i : Nat) (hi : i < ps.length) {g n cap : Nat} {l : List Int} (hp : ps[i] = (.slice (some ⟨g, 0, none⟩) n cap, l)) (hl : l.length = n) (k : Nat) (s : Int) :
    Pil4 (w.setCell ⟨g, k, none⟩ (.int .i64 s)) base v (ps.set i (.slice (some ⟨g, 0, none⟩) n cap, l.set k s)) [] := by
  have hmem : ps[i] ∈ ps := List.getElem_mem hi
  have hnil : ∀ q : Lot, q ++ [] = q := fun q => List.append_nil q
  have hrow : ∀ x ∈ ps, OwnI w base x.1 x.2 := fun x hx => h.row x (by rw [hnil]; exact hx)
  have hri := hrow _ hmem
  have hbl : ps[i].1.ownBlock = some g := by rw [hp]; rfl
  have hawy : ∀ x ∈ ps, ∀ g, v.ownBlock = some g → x.1.ownBlock ≠ some g := fun x hx => h.away x (by rw [hnil]; exact hx)
  have hapt : ps.Pairwise fun x y => ∀ g, x.1.ownBlock = some g → y.1.ownBlock ≠ some g := by have := h.apart; rw [hnil] at this; exact this
  have haw : ∀ g', v.ownBlock = some g' → g' ≠ g := fun g' hg' e => by subst e; exact hawy _ hmem g' hg' hbl
  have hput : OwnI (w.setCell ⟨g, k, none⟩ (.int .i64 s)) base (.slice (some ⟨g, 0, none⟩) n cap) (l.set k s) := by
    rw [hp] at hri
    subst hl
    have h1 := (World.ownsRow.stored hri k (.int .i64 s)).1
    rw [cellsI_set] at h1
    unfold OwnI
    rw [List.length_set]
    exact h1
  have keep : ∀ {t : TypeId} {size m : Nat} {u : Value} {xs : List Value}, w.ownsRow base t size u m xs → (∀ g', u.ownBlock = some g' → g' ≠ g) → (w.setCell ⟨g, k, none⟩ (.int .i64 s)).ownsRow base t size u m xs := by
    intro t size m u xs ho hne
    exact own_blk ho (fun q hq => Below.heap_setCell w _ _ q (hne q hq))
  have hmap : (ps.set i (.slice (some ⟨g, 0, none⟩) n cap, l.set k s)).map (·.1) = ps.map (·.1) := by
    rw [List.map_set]
    apply List.ext_getElem
    · simp
    · intro j h1 h2
      rw [List.getElem_set]
      split
      · subst_vars; simp [hp]
      · rfl
  have hpr : ∀ {R : Value → Value → Prop} (qs : Lot), qs.Pairwise (fun x y => R x.1 y.1) ↔ (qs.map (·.1)).Pairwise R := by
    intro R qs
    rw [List.pairwise_map]
  refine ⟨?_, ?_, ?_, ?_⟩
  · rw [hmap, List.length_set]
    exact keep h.outer haw
  · intro x hx
    rw [hnil] at hx
    obtain ⟨j, hj, rfl⟩ := List.getElem_of_mem hx
    have hj2 : j < ps.length := by simpa using hj
    rw [List.getElem_set]
    split
    · exact hput
    · rename_i hne
      refine keep (hrow _ (List.getElem_mem hj2)) ?_
      intro g' hg' e
      subst e
      have := List.pairwise_iff_getElem.1 hapt
      rcases Nat.lt_or_gt_of_ne hne with hlt | hlt
      · exact this i j hi hj2 hlt g' hbl hg'
      · exact this j i hj2 hi hlt g' hg' hbl
  · rw [hnil]
    have := hapt
    rw [hpr (R := fun x y => ∀ g, x.ownBlock = some g → y.ownBlock ≠ some g)] at this ⊢
    rw [hmap]
    exact this
  · intro x hx g' hg'
    rw [hnil] at hx
    have hx1 : x.1 ∈ ps.map (·.1) := by rw [← hmap]; exact List.mem_map_of_mem hx
    obtain ⟨y, hy, hye⟩ := List.mem_map.1 hx1
    rw [← hye]
    exact hawy y hy g' hg'
/-- The mark of a list. -/
def mkI (i : Nat) : Int := -10 - (i : Int)
/-- The lists while they are written over. -/
structure St (W4 : World) (base g cap : Nat) (i k : Nat) (qs : Lot) (wr : World) : Prop where
  pile : Pil4 wr base (.slice (some ⟨g, 0, none⟩) 4 cap) qs []
  len : qs.length = 4
  small : ∀ x ∈ qs, x.2.length ≤ 17592186044000
  done : ∀ j x, j < i → qs[j]? = some x → ∀ r ∈ x.2, r = mkI j
  part : ∀ x, qs[i]? = some x → ∀ m (h : m < x.2.length), m < k → x.2[m] = mkI i
  bel : Below base W4 wr
theorem St.rows {W4 wr : World} {base g cap i k : Nat} {qs : Lot} (h : St W4 base g cap i k qs wr) (x : Value × List Int) (hx : x ∈ qs) : OwnI wr base x.1 x.2 := h.pile.row x (by rw [List.append_nil]; exact hx)
theorem St.row {W4 wr : World} {base g cap i k : Nat} {qs : Lot} (h : St W4 base g cap i k qs wr) (hi : i < 4) : ∃ x a c, qs[i]? = some x ∧ x.1 = .slice a x.2.length c ∧ wr.cell? ⟨g, i, none⟩ = some (.slice a x.2.length c) ∧ x.2.length ≤ 17592186044000 := by
  have hl : i < qs.length := by rw [h.len]; exact hi
  have hx : qs[i]? = some qs[i] := List.getElem?_eq_getElem hl
  obtain ⟨a, c, e, _⟩ := (h.rows _ (List.getElem_mem hl)).ia
  exact ⟨qs[i], a, c, hx, e, by rw [h.pile.cell h.len i hl, e], h.small _ (List.getElem_mem hl)⟩
theorem St.next {W4 wr : World} {base g cap i k : Nat} {qs : Lot} (h : St W4 base g cap i k qs wr) {x : Value × List Int} (hx : qs[i]? = some x) (hk : x.2.length ≤ k) : St W4 base g cap (i + 1) 0 qs wr where
  pile := h.pile
  len := h.len
  small := h.small
  done := fun j y hj hy r hr => by
    rcases Nat.lt_or_ge j i with hlt | hge
    · exact h.done j y hlt hy r hr
    · have e : j = i := by omega
      subst e
      rw [hx] at hy
      obtain rfl := Option.some.inj hy
      obtain ⟨m, hm, rfl⟩ := List.getElem_of_mem hr
      exact h.part x hx m hm (by omega)
  part := fun _ _ _ _ hm => absurd hm (Nat.not_lt_zero _)
  bel := h.bel
theorem St.put {W4 wr : World} {base g cap i k : Nat} {qs : Lot} (h : St W4 base g cap i k qs wr) {x : Value × List Int} (hx : qs[i]? = some x) (hk : k < x.2.length) {a : Option Addr} {c : Nat} (hv : x.1 = .slice a x.2.length c) : ∃ g', a = some ⟨g', 0, none⟩ ∧ base ≤ g' ∧ g' ≠ g ∧
    (∃ u0, wr.cell? ⟨g', k, none⟩ = some (.int .i64 u0)) ∧ wr.frozen? ⟨g', k, none⟩ = false ∧
    St W4 base g cap i (k + 1) (qs.set i (.slice (some ⟨g', 0, none⟩) x.2.length c, x.2.set k (mkI i))) (wr.setCell ⟨g', k, none⟩ (.int .i64 (mkI i))) := by
  obtain ⟨hi, rfl⟩ := List.getElem?_eq_some_iff.1 hx
  have hr := h.rows _ (List.getElem_mem hi)
  obtain ⟨g', c', e, hg', _⟩ := own_form hr (by omega)
  rw [hv] at e
  simp only [Value.slice.injEq, true_and] at e
  obtain ⟨rfl, rfl⟩ := e
  rw [hv] at hr
  have hp : qs[i] = (.slice (some ⟨g', 0, none⟩) qs[i].2.length c, qs[i].2) := Prod.ext hv rfl
  have hne : g' ≠ g := fun e => by
    subst e
    exact h.pile.away _ (by rw [List.append_nil]; exact List.getElem_mem hi) g' rfl (by rw [hv]; rfl)
  refine ⟨g', rfl, hg', hne, ⟨qs[i].2[k], by rw [World.ownsRow.cellAt hr k (by omega)]; simp [hk]⟩, World.ownsRow.frozenAt hr _, ?_, ?_, ?_, ?_, ?_, ?_⟩
  · exact h.pile.put i hi hp rfl k _
  · rw [List.length_set]; exact h.len
  · intro y hy
    rcases List.mem_or_eq_of_mem_set hy with hy | rfl
    · exact h.small y hy
    · simp only [List.length_set]
      exact h.small _ (List.getElem_mem hi)
  · intro j y hj hy
    rw [List.getElem?_set_ne (by omega)] at hy
    exact h.done j y hj hy
  · intro y hy m hm hmk
    rw [List.getElem?_set_self hi] at hy
    obtain rfl := Option.some.inj hy
    simp only [List.length_set] at hm
    rw [List.getElem_set]
    split
    · rfl
    · exact h.part _ hx m hm (by omega)
  · exact h.bel.setCell (p := ⟨g', k, none⟩) hg' _
theorem St.later {W4 wr w' : World} {base g cap i k : Nat} {qs : Lot} (h : St W4 base g cap i k qs wr) (hb : Below wr.heap.size wr w') : St W4 base g cap i k qs w' := ⟨h.pile.later hb, h.len, h.small, h.done, h.part, h.bel.trans (hb.mono (by have := World.ownsRow.lt h.pile.outer g rfl; omega))⟩
theorem St.putAt {W4 wr : World} {base g cap i k : Nat} {qs : Lot} (h : St W4 base g cap i k qs wr) {x : Value × List Int} (hx : qs[i]? = some x) (hk : k < x.2.length) {g' c : Nat} (hv : x.1 = .slice (some ⟨g', 0, none⟩) x.2.length c) : St W4 base g cap i (k + 1) (qs.set i (.slice (some ⟨g', 0, none⟩) x.2.length c, x.2.set k (mkI i))) (wr.setCell ⟨g', k, none⟩ (.int .i64 (mkI i))) := by
  obtain ⟨g2, e, _, _, _, _, h2⟩ := h.put hx hk hv
  cases e
  exact h2
/-- All read as they did; those from i on are still their own. -/
structure Gr (W4 : World) (base g cap : Nat) (i : Nat) (qs : Lot) (wr : World) : Prop where
  outer : wr.ownsRow base 25 1 (.slice (some ⟨g, 0, none⟩) 4 cap) 4 (qs.map (·.1))
  len : qs.length = 4
  small : ∀ x ∈ qs, x.2.length ≤ 17592186044000
  done : ∀ (j : Nat) (x : Value × List Int), j < 4 → qs[j]? = some x → ∀ r ∈ x.2, r = mkI j
  apart : qs.Pairwise fun x y => ∀ g, x.1.ownBlock = some g → y.1.ownBlock ≠ some g
  away : ∀ x ∈ qs, x.1.ownBlock ≠ some g
  lt : ∀ x ∈ qs, ∀ g', x.1.ownBlock = some g' → g' < wr.heap.size
  read : ∀ x ∈ qs, ∃ a c, x.1 = .slice a x.2.length c ∧ IA wr a x.2
  zero : ∀ x ∈ qs, ∀ b off n c, x.1 = .slice (some ⟨b, off, none⟩) n c → off = 0
  own : ∀ (j : Nat) (x : Value × List Int), i ≤ j → qs[j]? = some x → OwnI wr base x.1 x.2
  bel : Below base W4 wr
  big : base ≤ wr.heap.size
theorem St.gr {W4 wr : World} {base g cap : Nat} {qs : Lot} (h : St W4 base g cap 4 0 qs wr) (hbig : base ≤ wr.heap.size) : Gr W4 base g cap 0 qs wr where
  outer := by have := h.pile.outer; rw [h.len] at this; exact this
  len := h.len
  small := h.small
  done := h.done
  apart := by have := h.pile.apart; rw [List.append_nil] at this; exact this
  away := fun x hx => h.pile.away x (by rw [List.append_nil]; exact hx) g rfl
  lt := fun x hx g' hg' => ((h.rows x hx).lt hg').2
  read := fun x hx => by obtain ⟨a, c, e, hs⟩ := (h.rows x hx).ia; exact ⟨a, c, e, hs⟩
  zero := fun x hx b off n c e => by
    rcases (h.rows x hx).2 with ⟨h0, _⟩ | ⟨g1, cap1, cur, hv, _⟩
    · rw [e] at h0; cases h0
    · rw [e] at hv
      simp only [Value.slice.injEq, Option.some.injEq, Addr.mk.injEq] at hv
      exact hv.1.2.1
  own := fun j x _ hx => h.rows x (List.mem_of_getElem? hx)
  bel := h.bel
  big := hbig
theorem Gr.cell {W4 wr : World} {base g cap i : Nat} {qs : Lot} (h : Gr W4 base g cap i qs wr) (j : Nat) {x : Value × List Int} (hx : qs[j]? = some x) : wr.cell? ⟨g, j, none⟩ = some x.1 := by
  obtain ⟨hj, rfl⟩ := List.getElem?_eq_some_iff.1 hx
  have hl := h.len
  rw [World.ownsRow.cellAt h.outer j (by omega)]
  simp [hj]
/-- One list while it grows: lv reads as the list and k more. -/
structure Gw (W4 : World) (base g cap : Nat) (i k : Nat) (x : Value × List Int) (lv : Value) (qs : Lot) (wr : World) : Prop where
  gr : Gr W4 base g cap (i + 1) qs wr
  at' : qs[i]? = some x
  lo : OwnI wr base lv (x.2 ++ List.replicate k (-5))
  away : lv.ownBlock ≠ some g
  apart : ∀ (j : Nat) (y : Value × List Int), j ≠ i → qs[j]? = some y → ∀ g', lv.ownBlock = some g' → y.1.ownBlock ≠ some g'
theorem Gr.start {W4 wr : World} {base g cap i : Nat} {qs : Lot} (h : Gr W4 base g cap i qs wr) {x : Value × List Int} (hx : qs[i]? = some x) : Gw W4 base g cap i 0 x x.1 qs wr where
  gr := { h with own := fun j y hj hy => h.own j y (by omega) hy }
  at' := hx
  lo := by rw [List.replicate_zero, List.append_nil]; exact h.own i x (Nat.le_refl _) hx
  away := h.away x (List.mem_of_getElem? hx)
  apart := fun j y hj hy g' hg' hyg => by
    obtain ⟨hi1, rfl⟩ := List.getElem?_eq_some_iff.1 hx
    obtain ⟨hj1, rfl⟩ := List.getElem?_eq_some_iff.1 hy
    have := List.pairwise_iff_getElem.1 h.apart
    rcases Nat.lt_or_gt_of_ne hj with hlt | hlt
    · exact this j i hj1 hi1 hlt g' hyg hg'
    · exact this i j hi1 hj1 hlt g' hg' hyg
theorem IA.moved {w w' : World} {a : Option Addr} {l : List Int} (h : IA w a l) (hs : w.heap.size ≤ w'.heap.size) (hk : ∀ b off j u, a = some ⟨b, off, none⟩ → j < l.length → w.cell? ⟨b, off + j, none⟩ = some u → w'.cell? ⟨b, off + j, none⟩ = some u) : IA w' a l := ⟨fun k hl => by
  obtain ⟨b, off, rfl, h1, h2⟩ := h.at' k hl
  exact ⟨b, off, rfl, Nat.lt_of_lt_of_le h1 hs, hk b off k _ rfl hl h2⟩⟩
theorem kept_row {wr w1 : World} {o : Obj} {lv : Value} (hgrow : (wr.alloc o).grownBy w1 lv.ownBlock) {base : Nat} {t : TypeId} {size m : Nat} {u : Value} {xs : List Value} (hu : wr.ownsRow base t size u m xs) (hne : ∀ g', lv.ownBlock = some g' → u.ownBlock ≠ some g') : w1.ownsRow base t size u m xs := by
  refine World.ownsRow.kept (World.ownsRow.alloc hu o) hgrow ?_
  cases e : u.ownBlock with
  | none => exact .inl rfl
  | some g1 => exact .inr fun hc => hne g1 hc.symm e
theorem Gw.step {W4 wr w1 : World} {base g cap i k : Nat} {x : Value × List Int} {lv lv' : Value} {qs : Lot} {o : Obj} {n : Nat} (h : Gw W4 base g cap i k x lv qs wr) (hn : n = x.2.length + k)
    (hown' : w1.ownsRow base 3 1 lv' (n + 1) (cellsI (x.2 ++ List.replicate k (-5)) ++ [.int .i64 (-5)])) (hgrow : (wr.alloc o).grownBy w1 lv.ownBlock)
    (hat : lv'.ownBlock = lv.ownBlock ∨ lv'.ownBlock = some (wr.alloc o).heap.size) (hfr : ∀ g j u, lv.ownBlock = some g → j < n * 1 → (wr.alloc o).cell? ⟨g, j, none⟩ = some u → w1.cell? ⟨g, j, none⟩ = some u) : Gw W4 base g cap i (k + 1) x lv' qs w1 := by
  subst hn
  have hbs := h.gr.big
  have hsz : (wr.alloc o).heap.size = wr.heap.size + 1 := by simp
  have hs1 : wr.heap.size + 1 ≤ w1.heap.size := by have := hgrow.size; omega
  have hB : Below wr.heap.size wr (wr.alloc o) := (Below.refl _ wr).alloc (Nat.le_refl _) o
  have readK : ∀ y ∈ qs, ∃ a c, y.1 = .slice a y.2.length c ∧ IA w1 a y.2 := by
    intro y hy
    obtain ⟨a, c, e, hr⟩ := h.gr.read y hy
    refine ⟨a, c, e, hr.moved (by omega) ?_⟩
    intro b off j u ha hj hc
    subst ha
    have hc2 : (wr.alloc o).cell? ⟨b, off + j, none⟩ = some u := (hB.cell (p := ⟨b, off + j, none⟩) (World.block_lt_of_cell? wr _ hc)).trans hc
    by_cases hlb : lv.ownBlock = some b
    · have hyb : y.1.ownBlock = some b := by rw [e]; rfl
      obtain ⟨jj, hjj⟩ := List.getElem?_of_mem hy
      have hji : jj = i := by
        by_cases hne : jj = i
        · exact hne
        · exact absurd hyb (h.apart jj y hne hjj b hlb)
      subst hji
      rw [h.at'] at hjj
      obtain rfl := Option.some.inj hjj
      have h0 : off = 0 := h.gr.zero _ hy b off _ _ e
      subst h0
      exact hfr b (0 + j) u hlb (by omega) hc2
    · exact hgrow.cell hc2 (fun e => hlb e.symm)
  have hgl : g < wr.heap.size := (World.ownsRow.lt h.gr.outer g rfl).2
  have hnew : ∀ {u : Value}, (∀ g', u.ownBlock = some g' → g' < wr.heap.size) → (∀ g', lv.ownBlock = some g' → u.ownBlock ≠ some g') → ∀ g', lv'.ownBlock = some g' → u.ownBlock ≠ some g' := fun hu hne g' hg' hug => by
    rcases hat with hat | hat
    · rw [hat] at hg'
      exact hne g' hg' hug
    · rw [hat, hsz] at hg'
      have e1 := Option.some.inj hg'
      have e2 := hu g' hug
      omega
  refine ⟨⟨?_, h.gr.len, h.gr.small, h.gr.done, h.gr.apart, h.gr.away, ?_, readK, h.gr.zero, ?_, ?_, by omega⟩, h.at', ?_, ?_, ?_⟩
  · refine kept_row hgrow h.gr.outer ?_
    intro g' hg' hc
    have : g = g' := by simpa [Value.ownBlock] using hc
    subst this
    exact h.away hg'
  · intro y hy g' hg'
    have := h.gr.lt y hy g' hg'
    omega
  · intro j y hj hy
    exact kept_row hgrow (h.gr.own j y hj hy) (fun g' hg' => h.apart j y (by omega) hy g' hg')
  · exact (h.gr.bel.alloc (by omega) o).grown hgrow (by omega) (fun k hk' => (h.lo.lt hk').1)
  · unfold OwnI
    rw [List.replicate_succ', ← List.append_assoc]
    have e1 : (x.2 ++ List.replicate k (-5) ++ [(-5 : Int)]).length = x.2.length + k + 1 := by simp; omega
    have e2 : cellsI (x.2 ++ List.replicate k (-5) ++ [(-5 : Int)]) = cellsI (x.2 ++ List.replicate k (-5)) ++ [.int .i64 (-5)] := by simp [cellsI]
    rw [e1]
    exact (congrArg (fun l => w1.ownsRow base 3 1 lv' (x.2.length + k + 1) l) e2).mpr hown'
  · rcases hat with hat | hat
    · rw [hat]; exact h.away
    · rw [hat, hsz]
      intro e
      have := Option.some.inj e
      omega
  · intro j y hj hy
    exact hnew (h.gr.lt y (List.mem_of_getElem? hy)) (h.apart j y hj hy)
theorem Gw.len {W4 wr : World} {base g cap i k : Nat} {x : Value × List Int} {lv : Value} {qs : Lot} (h : Gw W4 base g cap i k x lv qs wr) : ∃ a c, lv = .slice a (x.2.length + k) c := by
  obtain ⟨a, c, e, _⟩ := h.lo.ia
  rw [List.length_append, List.length_replicate] at e
  exact ⟨a, c, e⟩
theorem Gw.row {W4 wr : World} {base g cap i k : Nat} {x : Value × List Int} {lv : Value} {qs : Lot} (h : Gw W4 base g cap i k x lv qs wr) {n : Nat} (hn : x.2.length + k = n) : wr.ownsRow base 3 1 lv n (cellsI (x.2 ++ List.replicate k (-5))) := by
  have := h.lo
  unfold OwnI at this
  rw [List.length_append, List.length_replicate, hn] at this
  exact this
theorem Gr.next {W4 wr : World} {base g cap i0 : Nat} {qs : Lot} (h : Gr W4 base g cap i0 qs wr) (i : Nat) (hi : i < 4) : ∃ x a c, qs[i]? = some x ∧ x.1 = .slice a x.2.length c ∧ wr.cell? ⟨g, i, none⟩ = some (.slice a x.2.length c) ∧ x.2.length ≤ 17592186044000 ∧ IA wr a x.2 ∧ ∀ r ∈ x.2, r = mkI i := by
  have hl : i < qs.length := by rw [h.len]; exact hi
  have hx : qs[i]? = some qs[i] := List.getElem?_eq_getElem hl
  obtain ⟨a, c, e, hr⟩ := h.read _ (List.getElem_mem hl)
  exact ⟨qs[i], a, c, hx, e, by rw [h.cell i hx, e], h.small _ (List.getElem_mem hl), hr, h.done i _ hi hx⟩
end Go.Proofs.YtmbpollfgmdinaaDoor
