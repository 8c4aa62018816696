/-
  QlGcM, MeCW, MfFW, McTM, MeDW, MfGW, MfHW.
-/
import Derived.Test.YtbbejfkgopcjoaaDoorNeba
import Derived.Test.YtbbejfkgopcjoaaDoorNeaz
import Derived.Test.YtbbejfkgopcjoaaDoorNeaa
import Derived.Deep.RegionLaw
import Derived.Test.YtbbejfkgopcjoaaDoorNeab
import Derived.Test.YtbbejfkgopcjoaaDoorNeag
import Derived.Test.YtbbejfkgopcjoaaDoorNeay
import Derived.Test.YtbbejfkgopcjoaaDoorNeal
import Derived.Laws.MakeOwn
namespace Go.Proofs.YtbbejfkgopcjoaaDoor
open Go.RowKit Go.Shelf
/-- Lists of numbers in memory, in blocks that there are. -/
structure RwE (w : World) (a : Option Addr) (L : List (List Int)) : Prop where
  at' : ∀ k (h : k < L.length), ∃ b off, a = some ⟨b, off, none⟩ ∧ b < w.heap.size ∧ ∃ a1 c1, w.cell? ⟨b, off + k, none⟩ = some (.slice a1 (L[k]).length c1) ∧ IA w a1 L[k] ∧ (L[k] ≠ [] → ∀ p, a1 = some p → p.block < w.heap.size)
theorem RwE.past {w w' : World} {a : Option Addr} {L : List (List Int)} (h : RwE w a L) (hb : Below w.heap.size w w') : RwE w' a L := ⟨fun k hk => by
  obtain ⟨b, off, rfl, h1, a1, c1, h2, h3, h4⟩ := h.at' k hk
  exact ⟨b, off, rfl, Nat.lt_of_lt_of_le h1 hb.size, a1, c1, (hb.cell (p := ⟨b, off + k, none⟩) h1).trans h2, h3.past hb, fun hl p hp => Nat.lt_of_lt_of_le (h4 hl p hp) hb.size⟩⟩
/-- Blocks other than those of the walk. -/
def Othj (gF mp ga gn B b : Nat) : Prop := ¬ b = gF ∧ ¬ b = mp ∧ ¬ b = ga ∧ ¬ b = gn ∧ ¬ b = B
/-- The first k rows. -/
structure FolJ (W : World) (g m k : Nat) (Ls : List (List Int)) (Rb : Nat → Prop) : Prop where
  at' : ∀ i (h : i < Ls.length), i < k → ∃ x u v, W.cell? ⟨g, i * 2, none⟩ = some u ∧ W.cell? ⟨g, i * 2 + 1, none⟩ = some v ∧ RowJs W m Ls[i] x (.agg #[u, v]) ∧ ∀ b, x = some b → b < W.heap.size ∧ Rb b
theorem FolJ.only {W W' : World} {g m k : Nat} {Ls : List (List Int)} {Rb S : Nat → Prop} (h : FolJ W g m k Ls Rb) (hg : g < W.heap.size) (ho : Only W W' S) (hs : ¬ S g) (hb : ∀ b, Rb b → ¬ S b) : FolJ W' g m k Ls Rb := ⟨fun i hi hk => by
  obtain ⟨x, u, v, h1, h2, h3, h4⟩ := h.at' i hi hk
  exact ⟨x, u, v, (ho.cell (p := ⟨g, i * 2, none⟩) hg hs).trans h1, (ho.cell (p := ⟨g, i * 2 + 1, none⟩) hg hs).trans h2, h3.only ho (fun b e => hb b (h4 b e).2), fun b e => ⟨Nat.lt_of_lt_of_le (h4 b e).1 ho.size, (h4 b e).2⟩⟩⟩
theorem cellj_two {W : World} {g n i j : Nat} (h : Made W g n) (u v : Value) (hi : i < n * 2) : ((W.setCell ⟨g, j, none⟩ u).setCell ⟨g, j + 1, none⟩ v).cell? ⟨g, i, none⟩ = if i = j + 1 then some v else if i = j then some u else W.cell? ⟨g, i, none⟩ := by
  obtain ⟨cur, h1, h2⟩ := h
  have e1 := heap_setCell_same W g j _ _ u h1
  have e2 := heap_setCell_same _ g (j + 1) _ _ v e1
  have hc : i < cur.size := by omega
  rw [cell_of_row _ _ _ _ _ _ e2, cell_of_row _ _ _ _ _ _ h1]
  by_cases h3 : i = j + 1
  · subst h3
    rw [if_pos rfl]
    simp [hc]
  · rw [if_neg h3]
    by_cases h4 : i = j
    · subst h4
      rw [if_pos rfl, Array.getElem?_setIfInBounds_ne (by omega)]
      simp [hc]
    · rw [if_neg h4, Array.getElem?_setIfInBounds_ne (by omega), Array.getElem?_setIfInBounds_ne (by omega)]
/-- Row k is put. -/
theorem FolJ.put {W : World} {g m k n : Nat} {Ls : List (List Int)} {Rb : Nat → Prop} (h : FolJ W g m k Ls Rb) (hM : Made W g n) (hn : Ls.length ≤ n) (hg : ∀ b, Rb b → ¬ b = g) (hk : k < Ls.length) (x : Option Nat) (u v : Value) (hr : RowJs W m Ls[k] x (.agg #[u, v])) (hx : ∀ b, x = some b → b < W.heap.size ∧ Rb b) :
    FolJ ((W.setCell ⟨g, k * 2, none⟩ u).setCell ⟨g, k * 2 + 1, none⟩ v) g m (k + 1) Ls Rb := by
  have ho : Only W ((W.setCell ⟨g, k * 2, none⟩ u).setCell ⟨g, k * 2 + 1, none⟩ v) (fun b => b = g) := (Only.setCell W g (k * 2) u).trans (Only.setCell _ g (k * 2 + 1) v) (fun i hi => .inl hi)
  refine ⟨fun i hi hk' => ?_⟩
  rw [cellj_two hM u v (show i * 2 < n * 2 by omega), cellj_two hM u v (show i * 2 + 1 < n * 2 by omega)]
  by_cases e : i = k
  · subst e
    rw [if_neg (show ¬ i * 2 = i * 2 + 1 by omega), if_pos rfl, if_pos rfl]
    exact ⟨x, u, v, rfl, rfl, hr.only ho (fun b e => hg b (hx b e).2), fun b e => ⟨Nat.lt_of_lt_of_le (hx b e).1 ho.size, (hx b e).2⟩⟩
  · obtain ⟨x', u', v', h1, h2, h3, h4⟩ := h.at' i hi (by omega)
    rw [if_neg (by omega), if_neg (by omega), if_neg (by omega), if_neg (by omega)]
    exact ⟨x', u', v', h1, h2, h3.only ho (fun b e => hg b (h4 b e).2), fun b e => ⟨Nat.lt_of_lt_of_le (h4 b e).1 ho.size, (h4 b e).2⟩⟩
/-- A walk that is being made. -/
structure NwLj (w0 W : World) (n m gF mp ga gn B k : Nat) (ks : List Int) (Fo : List (List Int)) (vH : Value) : Prop where
  row : W.heap[B]? = some (.cells #[.slice (some ⟨gF, 0, none⟩) n n, .map (some mp), vH, .slice (some ⟨ga, 0, none⟩) m m, .slice (some ⟨gn, 0, none⟩) m m] 121 (0, 0))
  fol : Made W gF n
  rws : FolJ W gF m k Fo (Othj gF mp ga gn B)
  nu : MapN W mp ks
  at' : BS W ga m (fun _ => false)
  nx : BS W gn m (fun _ => false)
  bel : Below w0.heap.size w0 W
def Apart5j (w0 : World) (gF mp ga gn B : Nat) : Prop := (w0.heap.size ≤ gF ∧ w0.heap.size ≤ mp ∧ w0.heap.size ≤ ga ∧ w0.heap.size ≤ gn ∧ w0.heap.size ≤ B) ∧ ¬ gF = mp ∧ ¬ gF = ga ∧ ¬ gF = gn ∧ ¬ gF = B ∧ ¬ mp = ga ∧ ¬ mp = gn ∧ ¬ mp = B ∧ ¬ ga = gn ∧ ¬ ga = B ∧ ¬ gn = B
theorem NwLj.past {w0 W W' : World} {n m gF mp ga gn B k : Nat} {ks : List Int} {Fo : List (List Int)} {vH : Value} (h : NwLj w0 W n m gF mp ga gn B k ks Fo vH) (hb : Below W.heap.size W W') : NwLj w0 W' n m gF mp ga gn B k ks Fo vH :=
  ⟨(hb.block B (Array.getElem?_eq_some_iff.1 h.row).1).trans h.row, h.fol.below hb, h.rws.only h.fol.lt (Only.ofNew hb (fun _ => False)) (fun e => e) (fun _ _ e => e), h.nu.below hb, h.at'.below hb, h.nx.below hb, h.bel.trans (hb.mono h.bel.size)⟩
theorem NwLj.put {w0 W : World} {n m gF mp ga gn B k : Nat} {ks : List Int} {Fo : List (List Int)} {vH : Value} (h : NwLj w0 W n m gF mp ga gn B k ks Fo vH) (hA : Apart5j w0 gF mp ga gn B) (hn : Fo.length ≤ n) (hk : k < Fo.length) (x : Option Nat) (u v : Value) (hr : RowJs W m Fo[k] x (.agg #[u, v])) (hx : ∀ b, x = some b → b < W.heap.size ∧ Othj gF mp ga gn B b) :
    NwLj w0 ((W.setCell ⟨gF, k * 2, none⟩ u).setCell ⟨gF, k * 2 + 1, none⟩ v) n m gF mp ga gn B (k + 1) ks Fo vH := by
  obtain ⟨⟨l1, l2, l3, l4, l5⟩, n1, n2, n3, n4, n5, n6, n7, n8, n9, n10⟩ := hA
  have hb : ∀ b, ¬ b = gF → ((W.setCell ⟨gF, k * 2, none⟩ u).setCell ⟨gF, k * 2 + 1, none⟩ v).heap[b]? = W.heap[b]? := fun b hb => by
    rw [Below.heap_setCell _ _ _ b hb, Below.heap_setCell _ _ _ b hb]
  exact ⟨(hb B (fun e => n4 e.symm)).trans h.row, (h.fol.set _ _).set _ _, h.rws.put h.fol hn (fun b hb => hb.1) hk x u v hr hx, h.nu.keep (hb mp (fun e => n1 e.symm)), h.at'.kept (hb ga (fun e => n2 e.symm)), h.nx.kept (hb gn (fun e => n3 e.symm)), (h.bel.setCell (p := ⟨gF, k * 2, none⟩) l1 u).setCell (p := ⟨gF, k * 2 + 1, none⟩) l1 v⟩
theorem NwLj.map {w0 W W' : World} {n m gF mp ga gn B k : Nat} {ks ks' : List Int} {Fo : List (List Int)} {vH : Value} (h : NwLj w0 W n m gF mp ga gn B k ks Fo vH) (hA : Apart5j w0 gF mp ga gn B) (hg : W.grownBy W' (some mp)) (hm : MapN W' mp ks') : NwLj w0 W' n m gF mp ga gn B k ks' Fo vH := by
  obtain ⟨⟨l1, l2, l3, l4, l5⟩, n1, n2, n3, n4, n5, n6, n7, n8, n9, n10⟩ := hA
  have ho : Only W W' (fun b => b = mp) := ⟨hg.os, hg.tape, hg.output, hg.size, fun i hi hs => hg.block i hi (fun e => hs (Option.some.inj e))⟩
  exact ⟨(ho.block B (Array.getElem?_eq_some_iff.1 h.row).1 (fun e => n7 e.symm)).trans h.row, h.fol.keep (ho.block gF h.fol.lt n1), h.rws.only h.fol.lt ho n1 (fun b hb => hb.2.1), hm, h.at'.only ho (fun e => n5 e.symm), h.nx.only ho (fun e => n6 e.symm), h.bel.trans (ho.below h.bel.size (fun i hi => by subst hi; exact l2))⟩
theorem NwLj.cells {w0 W : World} {n m gF mp ga gn B k : Nat} {ks : List Int} {Fo : List (List Int)} {vH : Value} (h : NwLj w0 W n m gF mp ga gn B k ks Fo vH) : W.cell? ⟨B, 0, none⟩ = some (.slice (some ⟨gF, 0, none⟩) n n) ∧ W.cell? ⟨B, 1, none⟩ = some (.map (some mp)) ∧ W.cell? ⟨B, 2, none⟩ = some vH ∧ W.frozen? ⟨B, 2, none⟩ = false :=
  ⟨by rw [cell_of_row _ _ _ _ _ _ h.row]; rfl, by rw [cell_of_row _ _ _ _ _ _ h.row]; rfl, by rw [cell_of_row _ _ _ _ _ _ h.row]; rfl, by simp [World.frozen?, h.row]⟩
/-- The rows of holders that have been added. -/
def HolJ (W Wb : World) (m k : Nat) (H : List (List Int)) (Rb : Nat → Prop) (vH : Value) : Prop := ∃ xs, W.ownsRow Wb.heap.size 142 2 vH k xs ∧ ∀ i (h : i < H.length), i < k → ∃ x u v, xs[i * 2]? = some u ∧ xs[i * 2 + 1]? = some v ∧ RowJs W m H[i] x (.agg #[u, v]) ∧ ∀ b, x = some b → (b < W.heap.size ∧ Rb b) ∧ vH.ownBlock ≠ some b
theorem HolJ.only {W W' Wb : World} {m k : Nat} {H : List (List Int)} {Rb S : Nat → Prop} {vH : Value} (h : HolJ W Wb m k H Rb vH) (ho : Only W W' S) (hs : ∀ b, S b → b < Wb.heap.size) (hb : ∀ b, Rb b → ¬ S b) : HolJ W' Wb m k H Rb vH := by
  obtain ⟨xs, h1, h2⟩ := h
  refine ⟨xs, own_blk h1 (fun g hg => ho.block g (World.ownsRow.lt h1 g hg).2 (fun s => by have := hs g s; have := (World.ownsRow.lt h1 g hg).1; omega)), fun i hi hk => ?_⟩
  obtain ⟨x, u, v, e1, e2, h3, h4⟩ := h2 i hi hk
  exact ⟨x, u, v, e1, e2, h3.only ho (fun b e => hb b (h4 b e).1.2), fun b e => ⟨⟨Nat.lt_of_lt_of_le (h4 b e).1.1 ho.size, (h4 b e).1.2⟩, (h4 b e).2⟩⟩
/-- One more row. -/
theorem HolJ.put {W1 W2 Wb : World} {m k : Nat} {H : List (List Int)} {Rb : Nat → Prop} {vH v' : Value} {xs : List Value} (h1 : W1.ownsRow Wb.heap.size 142 2 vH k xs)
    (h2 : ∀ i (h : i < H.length), i < k → ∃ x u v, xs[i * 2]? = some u ∧ xs[i * 2 + 1]? = some v ∧ RowJs W1 m H[i] x (.agg #[u, v]) ∧ ∀ b, x = some b → (b < W1.heap.size ∧ Rb b) ∧ vH.ownBlock ≠ some b) (hk : k < H.length)
    (x : Option Nat) (u v : Value) (hr : RowJs W1 m H[k] x (.agg #[u, v])) (hx : ∀ b, x = some b → (b < W1.heap.size ∧ Rb b) ∧ vH.ownBlock ≠ some b) (hown : W2.ownsRow Wb.heap.size 142 2 v' (k + 1) (xs ++ [u, v])) (hg : W1.grownBy W2 vH.ownBlock) (hat : v'.ownBlock = vH.ownBlock ∨ v'.ownBlock = some W1.heap.size) :
    HolJ W2 Wb m (k + 1) H Rb v' := by
  have hl : xs.length = k * 2 := by
    have e1 := h1.1
    exact e1
  have ho : Only W1 W2 (fun b => vH.ownBlock = some b) := ⟨hg.os, hg.tape, hg.output, hg.size, fun i hi hs => hg.block i hi (fun e => hs e.symm)⟩
  have hne : ∀ b, b < W1.heap.size → vH.ownBlock ≠ some b → v'.ownBlock ≠ some b := fun b hb hn e => by
    rcases hat with h | h
    · exact hn (h ▸ e)
    · rw [h] at e
      have := Option.some.inj e
      omega
  refine ⟨_, hown, fun i hi hk' => ?_⟩
  by_cases e : i = k
  · subst e
    refine ⟨x, u, v, ?_, ?_, hr.only ho (fun b e => (hx b e).2), fun b e => ⟨⟨Nat.lt_of_lt_of_le (hx b e).1.1 ho.size, (hx b e).1.2⟩, hne b (hx b e).1.1 (hx b e).2⟩⟩
    · rw [List.getElem?_append_right (by omega), hl, Nat.sub_self]; rfl
    · rw [List.getElem?_append_right (by omega), hl, show i * 2 + 1 - i * 2 = 1 by omega]; rfl
  · obtain ⟨x', u', v'', q1, q2, q3, q4⟩ := h2 i hi (by omega)
    have b1 := (List.getElem?_eq_some_iff.1 q1).1
    have b2 := (List.getElem?_eq_some_iff.1 q2).1
    refine ⟨x', u', v'', ?_, ?_, q3.only ho (fun b e => (q4 b e).2), fun b e => ⟨⟨Nat.lt_of_lt_of_le (q4 b e).1.1 ho.size, (q4 b e).1.2⟩, hne b (q4 b e).1.1 (q4 b e).2⟩⟩
    · rw [List.getElem?_append_left b1]; exact q1
    · rw [List.getElem?_append_left b2]; exact q2
end Go.Proofs.YtbbejfkgopcjoaaDoor
namespace Go.Proofs.YtbbejfkgopcjoaaDoor
open Go.RowKit Go.Shelf
theorem row6c {W : World} {X : Nat} {t : TypeId} {a b c d e f : Value} (h : W.heap[X]? = some (.cells #[a, b, c, d, e, f] t (0, 0))) : (W.cell? ⟨X, 0, none⟩ = some a ∧ W.cell? ⟨X, 1, none⟩ = some b ∧ W.cell? ⟨X, 2, none⟩ = some c ∧ W.cell? ⟨X, 3, none⟩ = some d ∧ W.cell? ⟨X, 4, none⟩ = some e) ∧ W.cell? ⟨X, 5, none⟩ = some f :=
  ⟨⟨by rw [cell_of_row _ _ _ _ _ _ h]; rfl, by rw [cell_of_row _ _ _ _ _ _ h]; rfl, by rw [cell_of_row _ _ _ _ _ _ h]; rfl, by rw [cell_of_row _ _ _ _ _ _ h]; rfl, by rw [cell_of_row _ _ _ _ _ _ h]; rfl⟩, by rw [cell_of_row _ _ _ _ _ _ h]; rfl⟩
end Go.Proofs.YtbbejfkgopcjoaaDoor
namespace Go.Proofs.YtbbejfkgopcjoaaDoor
open Go.RowKit Go.Shelf
/-- Is a place reached, in the lists as they come. -/
theorem nI_atF {l : List Nat} {c : Nat} (hc : c < l.length) : (nI l)[c]'(by rw [nI_len]; exact hc) = ((l[c] : Nat) : Int) := by
  unfold nI
  rw [List.getElem_map]
def reaI (r : Pr) (st : List Nat) (bg : Bool) (q c : Nat) : Bool := hasL (r.Le.getD q []) (c : Int) && ((hasL r.Fi (q : Int) && (!r.an || !bg)) || st.any fun y => hasL (r.Fo.getD y []) (q : Int))
theorem reaI_R {r : Pr} {sy : Nat} (h : PrOk r sy) (st : List Nat) (bg : Bool) (q c : Nat) : reaI r st bg q c = reaR (toPt r) st bg q c := by
  unfold reaI reaR
  have e2 : (toPt r).le.getD q [] = tN (r.Le.getD q []) := getD_map_tN _ _
  rw [hasL_tN (nonneg_getD (fun l hl x hx => (h.le l hl x hx).1) q), hasL_tN (fun x hx => (h.fi x hx).1), e2]
  congr 3
  funext y
  have e3 : (toPt r).fo.getD y [] = tN (r.Fo.getD y []) := getD_map_tN _ _
  rw [hasL_tN (nonneg_getD (fun l hl x hx => (h.fo l hl x hx).1) y), e3]
theorem any_drop {α : Type} (F : α → Bool) (l : List α) {k : Nat} (hk : k < l.length) : (l.drop k).any F = (F l[k] || (l.drop (k + 1)).any F) := by
  rw [List.drop_eq_getElem_cons hk, List.any_cons]
theorem getD_row {L : List (List Int)} {k : Nat} (h : k < L.length) : L.getD k [] = L[k] := by rw [List.getD_eq_getElem?_getD, List.getElem?_eq_getElem h]; rfl
set_option maxRecDepth 10000 in
set_option maxHeartbeats 1600000 in
theorem reached_any (aL aF aA aO aS : Option Addr) (cL cF cA cO cS : Nat) (r : Pr) (st : List Nat) (bg : Bool) (q c : Nat) (w : World) (hp : PosA w aL aF aA aO r.Le r.Fo r.Fi r.La) (hS : IA w aS (nI st)) (hst : ∀ y ∈ st, y < r.Fo.length) (hsl : st.length ≤ 1000000000) (hq : q < r.Le.length) (_hc : c ≤ 1000000000) :
    Calls Tryd.prog 62 #[.agg #[.slice aL r.Le.length cL, .slice aF r.Fi.length cF, .slice aA r.La.length cA, .slice aO r.Fo.length cO, .bool r.em, .bool r.an], .slice aS st.length cS, .bool bg, .int .i64 (q : Int), .int .i64 (c : Int)] w fun e w' => e = .returned (.bool (reaI r st bg q c)) ∧ Hid (Below w.heap.size w w') := by
  obtain ⟨nL, hnL⟩ : ∃ x, x = r.Le.length := ⟨_, rfl⟩
  obtain ⟨nF, hnF⟩ : ∃ x, x = r.Fi.length := ⟨_, rfl⟩
  obtain ⟨nA, hnA⟩ : ∃ x, x = r.La.length := ⟨_, rfl⟩
  obtain ⟨nO, hnO⟩ : ∃ x, x = r.Fo.length := ⟨_, rfl⟩
  obtain ⟨nS, hnS⟩ : ∃ x, x = st.length := ⟨_, rfl⟩
  obtain ⟨em, hem⟩ : ∃ x, x = r.em := ⟨_, rfl⟩
  obtain ⟨an, han⟩ : ∃ x, x = r.an := ⟨_, rfl⟩
  obtain ⟨w0, hw0⟩ : ∃ w0, w0 = w.alloc (.cells #[.slice aL nL cL, .slice aF nF cF, .slice aA nA cA, .slice aO nO cO, .bool em, .bool an] 48) := ⟨_, rfl⟩
  have hb0 : Below w.heap.size w w0 := by rw [hw0]; exact (Below.refl _ _).alloc (Nat.le_refl _) _
  have hr0 : w0.heap[w.heap.size]? = some (.cells #[.slice aL nL cL, .slice aF nF cF, .slice aA nA cA, .slice aO nO cO, .bool em, .bool an] 48 (0, 0)) := by rw [hw0]; exact heap_alloc_new w _
  obtain ⟨⟨x0, x1, x2, x3, x4⟩, x5⟩ := row6c hr0
  have hp0 := hp.past hb0
  obtain ⟨bL, oL, rfl, _, a1, c1, d1, i1⟩ := hp0.le.at' q hq
  have hl1 := hp.r1 _ (List.getElem_mem hq)
  have H1 := hid0 (hasD_any r.Le[q] (c : Int) a1 c1 w0 (by omega) i1)
  have hl2 := hp.l2
  have H2 := hid0 (hasD_any r.Fi (q : Int) aF cF w0 (by omega) hp0.fi)
  have HR := hid0 hp.r4
  have HFo := hid0 hp0.fo
  have HSt := hid0 (hS.past hb0)
  have HSl := hid0 hst
  have HB0 := hid0 hb0
  have HEq : Hid (reaI r st bg q c = (hasL r.Le[q] (c : Int) && ((hasL r.Fi (q : Int) && (!an || !bg)) || st.any fun y => hasL (r.Fo.getD y []) (q : Int)))) := hid0 (by unfold reaI; rw [getD_row hq, han])
  obtain ⟨ln, hln⟩ : ∃ x, x = (r.Le[q]).length := ⟨_, rfl⟩
  rw [← hln] at d1
  rw [← hln] at H1
  rw [← hnF] at H2
  have hqI : (q : Int) < (nL : Int) := by omega
  have hqI0 : (0 : Int) ≤ (q : Int) := by omega
  have hl4 := hp.l4
  rw [← hnL, ← hnF, ← hnA, ← hnO, ← hem, ← han, ← hnS]
  have HN := hid0 (And.intro hnO hnS)
  have hsl' : nS ≤ 1000000000 := by omega
  have hfold := hw0.symm
  clear hw0 hr0 hb0 hp hp0 hS hst hsl i1 hln hl1 hl2 hl4
  generalize hasL r.Le[q] (c : Int) = b1 at *
  generalize hasL r.Fi (q : Int) = b2 at *
  clear hnL hnF hnA hnO hem han hnS hq
  cases b1 with
  | false =>
    clear H2 HFo HSt
    go_enter Tryd.func62, Tryd.ntmps62
    go_wp2_with (go_at_call 87; refine H1.out.mono ?_; rintro e w1 ⟨rfl, hw1⟩; have hw1' := hw1.symm; subst hw1'; clear hw1)
    go_ret
    exact ⟨by rw [HEq.out]; rfl, HB0⟩
  | true =>
    by_cases hb : (b2 && (!an || !bg)) = true
    · have HE : Hid (reaI r st bg q c = true) := hid0 (by rw [HEq.out, hb]; rfl)
      rw [Bool.and_eq_true] at hb
      obtain ⟨rfl, h3⟩ := hb
      clear HFo HSt HEq
      cases an with
      | false =>
        clear h3
        go_enter Tryd.func62, Tryd.ntmps62
        go_wp2_with (first
          | (go_at_call 87; refine H1.out.mono ?_; rintro e w1 ⟨rfl, hw1⟩; have hw1' := hw1.symm; subst hw1'; clear hw1 H1)
          | (go_at_call 87; refine H2.out.mono ?_; rintro e w1 ⟨rfl, hw1⟩; have hw1' := hw1.symm; subst hw1'; clear hw1 H2))
        go_ret
        exact ⟨by rw [HE.out]; rfl, HB0⟩
      | true =>
        have hbg : bg = false := by simpa using h3
        subst hbg
        clear h3
        go_enter Tryd.func62, Tryd.ntmps62
        go_wp2_with (first
          | (go_at_call 87; refine H1.out.mono ?_; rintro e w1 ⟨rfl, hw1⟩; have hw1' := hw1.symm; subst hw1'; clear hw1 H1)
          | (go_at_call 87; refine H2.out.mono ?_; rintro e w1 ⟨rfl, hw1⟩; have hw1' := hw1.symm; subst hw1'; clear hw1 H2))
        go_ret
        exact ⟨by rw [HE.out]; rfl, HB0⟩
    · have HE : Hid (reaI r st bg q c = st.any fun y => hasL (r.Fo.getD y []) (q : Int)) := hid0 (by rw [HEq.out, bool_no hb]; simp)
      have hcase : b2 = false ∨ (b2 = true ∧ an = true ∧ bg = true) := by
        cases b2 with
        | false => exact .inl rfl
        | true =>
          right
          cases an <;> cases bg <;> simp at hb ⊢
      clear hb HEq
      have HX : Hid (∀ V, Below w0.heap.size w0 V → V.cell? ⟨w.heap.size, 3, none⟩ = some (.slice aO nO cO)) := hid0 (fun V hV => (hV.cell (p := ⟨w.heap.size, 3, none⟩) (World.block_lt_of_cell? w0 _ x3)).trans x3)
      rcases hcase with rfl | ⟨rfl, rfl, rfl⟩
      all_goals
        go_enter Tryd.func62, Tryd.ntmps62
        go_upto_region 8 with (first
          | (go_at_call 87; refine H1.out.mono ?_; rintro e w1 ⟨rfl, hw1⟩; have hw1' := hw1.symm; subst hw1'; clear hw1 H1)
          | (go_at_call 87; refine H2.out.mono ?_; rintro e w1 ⟨rfl, hw1⟩; have hw1' := hw1.symm; subst hw1'; clear hw1 H2))
        clear x0 x1 x2 x4 x5 d1
        go_loopw [13] (fun i wr => ∃ k : Nat, k ≤ nS ∧ i = .int .i64 (k : Int) ∧ Hid ((st.drop k).any (fun y => hasL (r.Fo.getD y []) (q : Int)) = st.any fun y => hasL (r.Fo.getD y []) (q : Int)) ∧ ∃ n, wr = w0.drewN n) (fun i _ => nS - (intOf i).toNat)
        case atStart => exact ⟨0, Nat.zero_le _, rfl, hid0 (by rw [List.drop_zero]), 0, rfl⟩
        case round =>
          obtain ⟨k, hk, rfl, HD, nd, rfl⟩ := hrel
          by_cases hlt : k < nS
          · have hlt' : k < st.length := by rw [← HN.out.2]; exact hlt
            have hbn : ∀ m, Below w0.heap.size w0 (w0.drewN m) := fun m => below_drew' (Below.refl _ _) m
            obtain ⟨bS, oS, rfl, _, d2⟩ := HSt.out.at' k (by rw [nI_len]; exact hlt')
            have hy := HSl.out _ (List.getElem_mem hlt')
            obtain ⟨y, hyk⟩ : ∃ y, y = st[k] := ⟨_, rfl⟩
            rw [nI_atF hlt', ← hyk] at d2
            rw [← hyk] at hy
            have HS := hid0 (any_drop (fun y => hasL (r.Fo.getD y []) (q : Int)) st hlt')
            rw [← hyk] at HS
            clear hyk
            obtain ⟨bO, oO, rfl, _, a3, c3, d3, i3⟩ := HFo.out.at' y hy
            have hl3 := HR.out _ (List.getElem_mem hy)
            have H3 : Hid (∀ m, Calls Tryd.prog 87 #[.slice a3 (r.Fo[y]).length c3, .int .i64 (q : Int)] (w0.drewN m) fun e w' => e = .returned (.bool (hasL r.Fo[y] (q : Int))) ∧ w' = w0.drewN m) := hid0 (fun m => by
              have hi : IA (w0.drewN m) a3 r.Fo[y] := i3.past (hbn m)
              exact hasD_any r.Fo[y] (q : Int) a3 c3 (w0.drewN m) (by omega) hi)
            have hgd := getD_row hy
            have hyI : (y : Int) < (nO : Int) := by have := HN.out.1; omega
            have hyI0 : (0 : Int) ≤ (y : Int) := by omega
            have hkI : (k : Int) < (nS : Int) := by omega
            have hkI0 : (0 : Int) ≤ (k : Int) := by omega
            rw [hgd] at HS
            clear hgd hbn i3 hl3
            generalize r.Fo[y] = Fy at *
            cases hx : hasL Fy (q : Int) with
            | true =>
              have HE2 : Hid (reaI r st _ q c = true) := hid0 (by rw [HE.out, ← HD.out, HS.out, hx]; rfl)
              rw [hx] at H3
              clear HS HD hx HE
              go_wp2
              go_quiet ((go_at_call 87; go_loud (exact (H3.out _).mono (fun _ _ h => ⟨h.1, _, h.2⟩))))
              go_wp2
              go_ret
              exact ⟨by rw [HE2.out]; rfl, hid0 (Below.later HB0.out (below_drew' (below_drew' (Below.refl _ _) _) _))⟩
            | false =>
              have HD2 : Hid ((st.drop (k + 1)).any (fun y => hasL (r.Fo.getD y []) (q : Int)) = st.any fun y => hasL (r.Fo.getD y []) (q : Int)) := hid0 (by rw [← HD.out, HS.out, hx, Bool.false_or])
              rw [hx] at H3
              clear HS HD hx
              go_wp2
              go_quiet ((go_at_call 87; go_loud (exact (H3.out _).mono (fun _ _ h => ⟨h.1, _, h.2⟩))))
              go_wp2
              go_roundw
              case rel => exact ⟨k + 1, by omega, by go_num, HD2, _, rfl⟩
              case measure => simp [intOf]; omega
          · have hkI : ¬ (k : Int) < (nS : Int) := by omega
            have HE2 : Hid (reaI r st _ q c = false) := hid0 (by rw [HE.out, ← HD.out, List.drop_of_length_le (by rw [← HN.out.2]; omega)]; rfl)
            clear HD HE
            go_wp2
            go_ret
            exact ⟨by rw [HE2.out]; rfl, hid0 (Below.later HB0.out (below_drew' (Below.refl _ _) _))⟩
end Go.Proofs.YtbbejfkgopcjoaaDoor
namespace Go.Proofs.YtbbejfkgopcjoaaDoor
open Go.RowKit Go.Shelf
theorem below_alloc1 (w : World) (o : Obj) : Below w.heap.size w (w.alloc o) := (Below.refl _ _).alloc (Nat.le_refl _) _
def gN : List (List Int) := [[1, 2], [3, 2], [3, 2], [3, 2]]
def gO : List (List Int) := [[], [0, 1], [], [0]]
/-- begun's machine in memory. -/
structure BgM (V : World) (aN : Option Addr) (G o : Nat) (a1 a2 a3 : Option Addr) (c1 c2 c3 : Nat) : Prop where
  rn : RwA V aN gN
  ro : RwA V (some ⟨G, o, none⟩) gO
  o1 : V.cell? ⟨G, o + 1, none⟩ = some (.slice a1 2 c1)
  o2 : V.cell? ⟨G, o + 2, none⟩ = some (.slice a2 0 c2)
  o3 : V.cell? ⟨G, o + 3, none⟩ = some (.slice a3 1 c3)
  i1 : IA V a1 [0, 1]
  i3 : IA V a3 [0]
theorem BgM.past {V V' : World} {aN a1 a2 a3 : Option Addr} {G o c1 c2 c3 : Nat} (h : BgM V aN G o a1 a2 a3 c1 c2 c3) (hb : Below V.heap.size V V') : BgM V' aN G o a1 a2 a3 c1 c2 c3 := ⟨h.rn.past hb, h.ro.past hb, (hb.cell (p := ⟨G, o + 1, none⟩) (World.block_lt_of_cell? V _ h.o1)).trans h.o1, (hb.cell (p := ⟨G, o + 2, none⟩) (World.block_lt_of_cell? V _ h.o2)).trans h.o2, (hb.cell (p := ⟨G, o + 3, none⟩) (World.block_lt_of_cell? V _ h.o3)).trans h.o3, h.i1.past hb, h.i3.past hb⟩
theorem BgM.of {V : World} {aN aO : Option Addr} (h1 : RwA V aN gN) (h2 : RwA V aO gO) : ∃ G o a1 a2 a3 c1 c2 c3, aO = some ⟨G, o, none⟩ ∧ BgM V aN G o a1 a2 a3 c1 c2 c3 := by
  have h2' := h2
  obtain ⟨b, off, rfl, _, a1, c1, e1, f1⟩ := h2.at' 1 (by decide)
  obtain ⟨b2, off2, q2, _, a2, c2, e2, f2⟩ := h2.at' 2 (by decide)
  obtain ⟨b3, off3, q3, _, a3, c3, e3, f3⟩ := h2.at' 3 (by decide)
  simp only [Option.some.injEq, Addr.mk.injEq, and_true] at q2 q3
  obtain ⟨rfl, rfl⟩ := q2
  obtain ⟨rfl, rfl⟩ := q3
  exact ⟨b, off, a1, a2, a3, c1, c2, c3, rfl, h1, h2', e1, e2, e3, f1, f3⟩
end Go.Proofs.YtbbejfkgopcjoaaDoor
namespace Go.Proofs.YtbbejfkgopcjoaaDoor
open Go.RowKit Go.Shelf
theorem ownI_past {W W' : World} {lo : Nat} {v : Value} {L : List Int} (h : OwnI W lo v L) (hb : Below W.heap.size W W') : OwnI W' lo v L := own_blk h (fun k hk => hb.block k (World.ownsRow.lt h k hk).2)
end Go.Proofs.YtbbejfkgopcjoaaDoor
namespace Go.Proofs.YtbbejfkgopcjoaaDoor
open Go.RowKit Go.Shelf
def lstI (r : Pr) (st : List Nat) (bg : Bool) : Bool := meetL (nI st) r.La || (r.em && (!r.an || !bg))
theorem meetL_tN {a : List Nat} {b : List Int} (h : ∀ x ∈ b, 0 ≤ x) : meetL (nI a) b = a.any fun x => (tN b).contains x := by
  unfold meetL nI
  rw [List.any_map]
  congr 1
  funext x
  exact hasL_tN h x
theorem lstI_R {r : Pr} {sy : Nat} (h : PrOk r sy) (st : List Nat) (bg : Bool) : lstI r st bg = lastR (toPt r) st bg := by
  unfold lstI lastR
  rw [meetL_tN (fun x hx => (h.la x hx).1)]
  rfl
/-- The patterns among the first k that end there. -/
def outI (rs : List Pr) (ss : List (List Nat)) (bg : Bool) (k : Nat) : List Nat := (List.range k).filter fun j => match rs[j]? with | none => false | some r => lstI r (ss.getD j []) bg
theorem outI_succ (rs : List Pr) (ss : List (List Nat)) (bg : Bool) {k : Nat} (hk : k < rs.length) : outI rs ss bg (k + 1) = if lstI rs[k] (ss.getD k []) bg = true then outI rs ss bg k ++ [k] else outI rs ss bg k := by
  unfold outI
  rw [List.range_succ, List.filter_append]
  have e : (match rs[k]? with | none => false | some r => lstI r (ss.getD k []) bg) = lstI rs[k] (ss.getD k []) bg := by rw [List.getElem?_eq_getElem hk]
  rw [List.filter_cons, List.filter_nil, e]
  split
  · rfl
  · rw [List.append_nil]
theorem outI_len (rs : List Pr) (ss : List (List Nat)) (bg : Bool) (k : Nat) : (outI rs ss bg k).length ≤ k := by
  unfold outI
  have := List.length_filter_le (fun j => match rs[j]? with | none => false | some r => lstI r (ss.getD j []) bg) (List.range k)
  rw [List.length_range] at this
  exact this
theorem outI_R {rs : List Pr} {sy : Nat} (h : ∀ r ∈ rs, PrOk r sy) (ss : List (List Nat)) (bg : Bool) : outI rs ss bg rs.length = outR (rs.map toPt) (ss, bg) := by
  unfold outI outR
  rw [List.length_map]
  refine List.filter_congr (fun k hk => ?_)
  rw [List.mem_range] at hk
  rw [List.getElem?_map, List.getElem?_eq_getElem hk]
  exact lstI_R (h _ (List.getElem_mem hk)) _ _
set_option maxRecDepth 10000 in
set_option maxHeartbeats 3200000 in
theorem outD_any (aP aT : Option Addr) (cP cT : Nat) (rs : List Pr) (ss : List (List Nat)) (bg : Bool) (w : World) (hP : PaI w aP rs) (hT : RwA w aT (ss.map nI)) (hsr : ss.length = rs.length) (hrl : rs.length ≤ 10000000) (hst : ∀ s ∈ ss, s.length ≤ 1000000000) :
    Calls Tryd.prog 41 #[.slice aP rs.length cP, .agg #[.slice aT ss.length cT, .bool bg]] w fun e w' => ∃ v, e = .returned v ∧ OwnI w' w.heap.size v (nI (outI rs ss bg rs.length)) ∧ Hid (Below w.heap.size w w') := by
  obtain ⟨n, hn⟩ : ∃ x, x = rs.length := ⟨_, rfl⟩
  rw [← hn] at hsr hrl
  rw [hsr, ← hn]
  obtain ⟨w0, hw0⟩ : ∃ w0, w0 = w.alloc (.cells #[.slice aT n cT, .bool bg] 76) := ⟨_, rfl⟩
  have hb0 : Below w.heap.size w w0 := by rw [hw0]; exact (Below.refl _ _).alloc (Nat.le_refl _) _
  have hr0 : w0.heap[w.heap.size]? = some (.cells #[.slice aT n cT, .bool bg] 76 (0, 0)) := by rw [hw0]; exact heap_alloc_new w _
  have HX : Hid (∀ V, Below w0.heap.size w0 V → V.cell? ⟨w.heap.size, 0, none⟩ = some (.slice aT n cT) ∧ V.cell? ⟨w.heap.size, 1, none⟩ = some (.bool bg) ∧ PaI V aP rs ∧ RwA V aT (ss.map nI)) := hid0 (fun V hV => by
    have hb := Below.later hb0 hV
    have hr := (hV.block _ (Array.getElem?_eq_some_iff.1 hr0).1).trans hr0
    exact ⟨by rw [cell_of_row _ _ _ _ _ _ hr]; rfl, by rw [cell_of_row _ _ _ _ _ _ hr]; rfl, hP.past hb, hT.past hb⟩)
  have HB0 := hid0 hb0
  have HN := hid0 (And.intro hn hsr)
  have HSl := hid0 hst
  have hfold := hw0.symm
  clear hw0 hr0 hb0 hP hT hst hn hsr
  go_enter Tryd.func41, Tryd.ntmps41
  go_wp2
  go_loopw [5, 6] (fun v q wr => ∃ k : Nat, k ≤ n ∧ q = .int .i64 (k : Int) ∧ Hid (OwnI wr w0.heap.size v (nI (outI rs ss bg k))) ∧ Hid (Below w0.heap.size w0 wr)) (fun _ q _ => n - (intOf q).toNat)
  case atStart => exact ⟨0, Nat.zero_le _, rfl, hid0 (World.ownsRow_nil _ _ _ _), hid0 (Below.refl _ _)⟩
  case round =>
    obtain ⟨k, hk, rfl, HO, HB⟩ := hrel
    obtain ⟨x0, x1, _, _⟩ := HX.out wr HB.out
    by_cases hkl : k < n
    · have hkI : (k : Int) < (n : Int) := by omega
      have hkI0 : (0 : Int) ≤ (k : Int) := by omega
      have hkr : k < rs.length := by rw [← HN.out.1]; exact hkl
      have hks : k < ss.length := by rw [HN.out.2]; exact hkl
      obtain ⟨bp, op, hap, _, aL, aF, aA, aO, cL, cF, cA, cO, y0, y1, y2, y3, y4, y5, _, y7⟩ := (HX.out wr HB.out).2.2.1.at' k hkr
      obtain ⟨bT, oT, haT, _, a1, c1, d1, i1⟩ := (HX.out wr HB.out).2.2.2.at' k (by rw [List.length_map]; exact hks)
      obtain ⟨r, hr⟩ : ∃ r, r = rs[k] := ⟨_, rfl⟩
      rw [← hr] at y2 y4 y5 y7
      rw [List.getElem_map] at d1 i1
      have hsk := HSl.out _ (List.getElem_mem hks)
      have hgd : ss.getD k [] = ss[k] := by rw [List.getD_eq_getElem?_getD, List.getElem?_eq_getElem hks]; rfl
      have HS := hid0 (outI_succ rs ss bg hkr)
      rw [hgd, ← hr] at HS
      clear hgd hr
      generalize ss[k] = sk at *
      obtain ⟨em, hem⟩ : ∃ x, x = r.em := ⟨_, rfl⟩
      obtain ⟨an, han⟩ : ∃ x, x = r.an := ⟨_, rfl⟩
      obtain ⟨nA, hnA⟩ : ∃ x, x = r.La.length := ⟨_, rfl⟩
      obtain ⟨nT, hnT⟩ : ∃ x, x = (nI sk).length := ⟨_, rfl⟩
      have hMe : Hid (∀ m, Calls Tryd.prog 63 #[.slice a1 nT c1, .slice aA nA cA] (wr.drewN m) fun e w' => e = .returned (.bool (meetL (nI sk) r.La)) ∧ w' = wr.drewN m) := hid0 (fun m => by
        have hd : Below wr.heap.size wr (wr.drewN m) := below_drew' (Below.refl _ _) m
        have h := meetD_any (nI sk) r.La a1 aA c1 cA (wr.drewN m) (by rw [nI_len]; exact hsk) (by have := y7.l3; omega) (i1.past hd) (y7.la.past hd)
        rw [← hnT, ← hnA] at h
        exact h)
      have HL : Hid (lstI r sk bg = (meetL (nI sk) r.La || (em && (!an || !bg)))) := hid0 (by unfold lstI; rw [hem, han])
      rw [← hem] at y4
      rw [← han] at y5
      rw [← hnA] at y2
      rw [← hnT] at d1
      subst hap
      subst haT
      clear hem han hnA hnT i1 y0 y1 y3 y7 hsk
      have hwl := outI_len rs ss bg k
      obtain ⟨lw, hlw⟩ : ∃ lw, lw = (nI (outI rs ss bg k)).length := ⟨_, rfl⟩
      have hlw2 : lw ≤ k := by rw [hlw, nI_len]; exact hwl
      have HLw := hid0 hlw
      clear hlw hwl
      generalize meetL (nI sk) r.La = mb at *
      by_cases he : (mb || (em && (!an || !bg))) = true
      · have HO' : Hid (∀ m, (wr.drewN m).ownsRow w0.heap.size 3 1 u5 lw ((nI (outI rs ss bg k)).map (Value.int .i64))) := hid0 (fun m => by have h := HO.out; unfold OwnI at h; rw [← HLw.out] at h; exact h)
        have HW2 : Hid (nI (outI rs ss bg (k + 1)) = nI (outI rs ss bg k) ++ [(k : Int)]) := hid0 (by
          rw [HS.out, if_pos (by rw [HL.out]; exact he)]
          unfold nI
          rw [List.map_append]
          rfl)
        obtain ⟨i0, hi', hz0, hz1, hz2⟩ := info_parts infoInt
        have hsz := HB.out.size
        clear HS HL
        go_wp2
        go_quiet ((go_at_call 63; go_loud (exact (hMe.out _).mono (fun _ _ h => ⟨h.1, _, h.2⟩))))
        cases mb <;> cases em <;> cases an <;> cases bg <;> first | (exact absurd he (by decide)) | skip
        all_goals
          clear he
          go_wp2_with (at_builtin; refine wpList_append_own _ rfl _ _ 34 rfl w0.heap.size 3 i0 (.int .i64 0) 1 8 Tryd.underlying34 hi' hz0 hz1 hz2 rfl (by decide) _ lw ((nI (outI rs ss _ k)).map (Value.int .i64)) rfl (World.ownsRow.alloc (HO'.out _) _) ⟨wr.heap.size, 0, none⟩ 1 1 [.int .i64 (k : Int)] rfl rfl (cell_one_new _ _ _) (by simp [Value.oneCell']) (by unfold maxLen; omega) (by omega) (by simp; omega) ?_; intro v2 w4 hown' hgrow _; have HH := hid0 (ownI_snoc (w := w0) (base := w0.heap.size) (c := (k : Int)) (n := lw) HLw.out (show OwnI _ _ _ _ from ownI_past (W := _) HO.out (below_drew' (Below.refl _ _) _)) hown' hgrow (below_drew' HB.out _) (Nat.le_refl _)); clear hown' hgrow)
          have HO4 : Hid (OwnI w4 w0.heap.size v2 (nI (outI rs ss _ (k + 1)))) := hid0 (by rw [HW2.out]; exact HH.out.1)
          have HB4 := hid0 HH.out.2
          go_roundw
          case rel => exact ⟨k + 1, by omega, by go_num, HO4, HB4⟩
          case measure => simp [intOf]; omega
      · have HO4 : Hid (∀ m, OwnI (wr.drewN m) w0.heap.size u5 (nI (outI rs ss bg (k + 1)))) := hid0 (fun m => by
          rw [HS.out, if_neg (by rw [HL.out]; exact he)]
          exact ownI_past (W := wr) HO.out (below_drew' (Below.refl _ _) m))
        have HB4 : Hid (∀ m, Below w0.heap.size w0 (wr.drewN m)) := hid0 (fun m => below_drew' HB.out m)
        clear HS HL
        go_wp2
        go_quiet ((go_at_call 63; go_loud (exact (hMe.out _).mono (fun _ _ h => ⟨h.1, _, h.2⟩))))
        cases mb <;> cases em <;> cases an <;> cases bg <;> first | (exact absurd rfl he) | skip
        all_goals
          clear he
          go_wp2
          go_roundw
          case rel => exact ⟨k + 1, by omega, by go_num, hid0 (HO4.out _), hid0 (HB4.out _)⟩
          case measure => simp [intOf]; omega
    · have hkI : ¬ (k : Int) < (n : Int) := by omega
      have hkn : k = n := by omega
      have HF : Hid (OwnI wr w.heap.size u5 (nI (outI rs ss bg n)) ∧ Below w.heap.size w wr) := hid0 ⟨by
        rw [← hkn]
        exact owns_lower HO.out HB0.out.size, Below.later HB0.out HB.out⟩
      go_wp2
      go_ret
      exact ⟨u5, by first | rfl | trivial | simp, HF.out.1, hid0 HF.out.2⟩
end Go.Proofs.YtbbejfkgopcjoaaDoor
namespace Go.Proofs.YtbbejfkgopcjoaaDoor
open Go.RowKit Go.Shelf
theorem chk_num {r : Pr} {sy : Int} {x : Nat} (h : r.chk sy = some x) : x = 0 ∨ x = 2 := by
  unfold Pr.chk chkP at h
  split at h
  · injection h with h; exact .inr h.symm
  · split at h
    · injection h with h; exact .inl h.symm
    · split at h
      · cases h
      · injection h with h; exact .inl h.symm
set_option maxRecDepth 10000 in
set_option maxHeartbeats 3200000 in
theorem faultD_any (aP : Option Addr) (cP : Nat) (rs : List Pr) (sy most : Int) (w : World) (hP : PaI w aP rs) (hrl : rs.length ≤ 10000000) :
    Calls Tryd.prog 38 #[.slice aP rs.length cP, .int .i64 sy, .int .i64 most] w fun e w' => e = .returned (.int .i64 (if sy < 1 ∨ 16384 < sy ∨ most < 1 ∨ 16384 < most then 1 else numP (chkA rs sy))) ∧ Hid (Below w.heap.size w w') := by
  have HP := hid0 hP
  obtain ⟨n, hn⟩ : ∃ x, x = rs.length := ⟨_, rfl⟩
  have HN := hid0 hn
  rw [← hn] at hrl ⊢
  clear hP hn
  have hfail : ∀ (b : Bool) (u : Int), (sy < 1 ∨ 16384 < sy ∨ most < 1 ∨ 16384 < most) → (if sy < 1 ∨ 16384 < sy ∨ most < 1 ∨ 16384 < most then (1 : Int) else u) = 1 := fun _ u h => if_pos h
  by_cases h1 : sy < 1
  · rw [if_pos (.inl h1)]
    clear hfail
    go_enter Tryd.func38, Tryd.ntmps38
    go_wp2
    go_ret
    exact ⟨by trivial, hid0 (Below.refl _ _)⟩
  by_cases h2 : 16384 < sy
  · rw [if_pos (.inr (.inl h2))]
    clear hfail
    go_enter Tryd.func38, Tryd.ntmps38
    go_wp2
    go_ret
    exact ⟨by trivial, hid0 (Below.refl _ _)⟩
  by_cases h3 : most < 1
  · rw [if_pos (.inr (.inr (.inl h3)))]
    clear hfail
    go_enter Tryd.func38, Tryd.ntmps38
    go_wp2
    go_ret
    exact ⟨by trivial, hid0 (Below.refl _ _)⟩
  by_cases h4 : 16384 < most
  · rw [if_pos (.inr (.inr (.inr h4)))]
    clear hfail
    go_enter Tryd.func38, Tryd.ntmps38
    go_wp2
    go_ret
    exact ⟨by trivial, hid0 (Below.refl _ _)⟩
  rw [if_neg (by omega)]
  clear hfail
  go_enter Tryd.func38, Tryd.ntmps38
  go_wp2
  go_loopw [7] (fun q wr => ∃ k : Nat, k ≤ n ∧ q = .int .i64 (k : Int) ∧ Hid (∀ i (h : i < k) (h' : i < rs.length), (rs[i]).chk sy = none) ∧ Hid (Below w.heap.size w wr)) (fun q _ => n - (intOf q).toNat)
  case atStart => exact ⟨0, Nat.zero_le _, rfl, hid0 (fun i h => absurd h (Nat.not_lt_zero _)), hid0 (Below.refl _ _)⟩
  case round =>
    obtain ⟨k, hk, rfl, HZ, HB⟩ := hrel
    by_cases hkl : k < n
    · have hkI : (k : Int) < (n : Int) := by omega
      have hkI0 : (0 : Int) ≤ (k : Int) := by omega
      have hkr : k < rs.length := by rw [← HN.out]; exact hkl
      obtain ⟨bp, op, hap, _, aL, aF, aA, aO, cL, cF, cA, cO, y0, y1, y2, y3, y4, y5, _, y7⟩ := (HP.out.past HB.out).at' k hkr
      have HC := hid0 (refCheck_any sy aL aF aA aO cL cF cA cO (rs[k]).Le (rs[k]).Fo (rs[k]).Fi (rs[k]).La (rs[k]).em wr y7)
      have HE : Hid (∀ x, (rs[k]).chk sy = some x → chkA rs sy = some x) := hid0 (fun x hx => chkA_at hkr (fun i h => HZ.out i h (by omega)) hx)
      have HE0 : Hid ((rs[k]).chk sy = none → ∀ i (h : i < k + 1) (h' : i < rs.length), (rs[i]).chk sy = none) := hid0 (fun h0 i hi hi' => by
        by_cases e : i = k
        · subst e; exact h0
        · exact HZ.out i (by omega) hi')
      have hcc : chkP (rs[k]).Le (rs[k]).Fo (rs[k]).Fi (rs[k]).La sy = (rs[k]).chk sy := rfl
      unfold posV at HC
      rw [hcc] at HC
      clear hcc
      obtain ⟨cc, hcx⟩ : ∃ x, x = (rs[k]).chk sy := ⟨_, rfl⟩
      rw [← hcx] at HC HE HE0
      generalize (rs[k]).Le.length = nL at *
      generalize (rs[k]).Fi.length = nF at *
      generalize (rs[k]).La.length = nA at *
      generalize (rs[k]).Fo.length = nO at *
      generalize (rs[k]).em = em at *
      subst hap
      clear y5 y7 HZ
      cases cc with
      | some x =>
        have hz : numP (some x) ≠ 0 := by
          rcases chk_num hcx.symm with rfl | rfl <;> decide
        have HR : Hid (numP (chkA rs sy) = numP (some x)) := hid0 (by rw [HE.out x rfl])
        clear HE HE0 hcx
        generalize numP (some x) = z at *
        go_wp2_with (go_at_call 61; go_loud ((refine HC.out.mono ?_; rintro e w1 ⟨rfl, hb1⟩; have HB1 := hid0 (Below.later HB.out hb1); clear hb1)))
        go_ret
        exact ⟨by rw [HR.out]; rfl, HB1⟩
      | none =>
        have HZ2 := hid0 (HE0.out rfl)
        clear HE HE0 hcx
        go_wp2_with (go_at_call 61; go_loud ((refine HC.out.mono ?_; rintro e w1 ⟨rfl, hb1⟩; have HB1 := hid0 (Below.later HB.out hb1); clear hb1)))
        go_roundw
        case rel => exact ⟨k + 1, by omega, by go_num, HZ2, HB1⟩
        case measure => simp [intOf]; omega
    · have hkI : ¬ (k : Int) < (n : Int) := by omega
      have HR : Hid (numP (chkA rs sy) = 0) := hid0 (by
        have e : chkA rs sy = none := by
          unfold chkA
          rw [List.findSome?_eq_none_iff]
          intro r hr
          obtain ⟨i, hi, e⟩ := List.getElem_of_mem hr
          rw [← e]
          exact HZ.out i (by have := HN.out; omega) hi
        rw [e]; rfl)
      clear HZ
      go_wp2
      go_ret
      exact ⟨by rw [HR.out]; rfl, HB⟩
end Go.Proofs.YtbbejfkgopcjoaaDoor
