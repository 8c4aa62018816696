/-
  Expressions that are handed in, and lent ones, with marks behind each list.
-/
import Derived.Test.YthcpalpcakjfnaaMgPW
import Derived.Test.YthcpalpcakjfnaaExW
import Derived.Test.YthcpalpcakjfnaaExTk
namespace Go.Proofs.Ythcpalpcakjfnaa
open Go.RowKit Go.Shelf
theorem ExIs.form {w : World} {Q : Nat → Prop} {e : Ex} {x : EV} (h : ExIs w Q e x) : x.k = .int .i64 e.kind ∧ (∃ b, x.t = .bool b) ∧ (∃ a m c, x.n = .slice a m c) ∧ (∃ a m c, x.p = .slice a m c) ∧ ∃ a m c, x.r = .slice a m c := by
  cases h with
  | mk k nt N P L a ca b cb c cc vs => exact ⟨rfl, ⟨_, rfl⟩, ⟨_, _, _, rfl⟩, ⟨_, _, _, rfl⟩, _, _, _, rfl⟩
/-- Parts in memory, and what they are. -/
structure LA (w : World) (Q : Nat → Prop) (c : Option Addr) (L : List Ex) (vs : Nat → EV) : Prop where
  at' : ∀ i, i < L.length → ∃ g off, c = some ⟨g, off, none⟩ ∧ Q g ∧ Five w g (off + i * 5) (vs i)
  is : ∀ i (h : i < L.length), ExIs w Q L[i] (vs i)
theorem LA.keeps {w w' : World} {Q : Nat → Prop} {c : Option Addr} {L : List Ex} {vs : Nat → EV} (h : LA w Q c L vs) (k : Keeps Q w w') : LA w' Q c L vs :=
  ⟨fun i hi => by
    obtain ⟨g, off, e, hg, h5⟩ := h.at' i hi
    exact ⟨g, off, e, hg, h5.keeps hg k⟩, fun i hi => (h.is i hi).keeps k⟩
theorem Keeps.past {Q : Nat → Prop} {w w' : World} (h : Below w.heap.size w w') : Keeps Q w w' := ⟨h.size, fun g o _ hl => h.cell (p := ⟨g, o, none⟩) hl⟩
theorem lt_of_rowC {W : World} {k : Nat} {o : Obj} (h : W.heap[k]? = some o) : k < W.heap.size := (Array.getElem?_eq_some_iff.1 h).1
def evC (x : EV) : List Value := [x.k, x.t, x.n, x.p, x.r]
theorem flatE (xs : List EV) : ∀ (i j : Nat) (h : i < xs.length), j < 5 → (xs.flatMap evC)[i * 5 + j]? = (evC xs[i])[j]? := by
  induction xs with
  | nil => intro i j h; exact absurd h (Nat.not_lt_zero _)
  | cons g xs ih =>
    intro i j h hj
    rw [List.flatMap_cons]
    cases i with
    | zero =>
      rw [Nat.zero_mul, Nat.zero_add, List.getElem?_append_left (by simpa [evC] using hj)]
      rfl
    | succ i =>
      rw [List.getElem?_append_right (by simp [evC]; omega)]
      rw [show (i + 1) * 5 + j - (evC g).length = i * 5 + j by simp [evC]; omega]
      exact ih i j (by simpa using h) hj
/-- A row that grows, maybe into another block; all other blocks stay. -/
structure Gr (W w' : World) (v v' : Value) : Prop where
  grow : W.grownBy w' v.ownBlock
  at' : ∀ q, v'.ownBlock = some q → v.ownBlock = some q ∨ W.heap.size ≤ q
theorem grown_trans {a b c : World} {r r' : Option Nat} (h : a.grownBy b r) (k : b.grownBy c r') (hr : ∀ q, r' = some q → r = some q ∨ a.heap.size ≤ q) : a.grownBy c r :=
  ⟨k.os.trans h.os, k.tape.trans h.tape, k.output.trans h.output, Nat.le_trans h.size k.size, fun i hi hn => (k.block i (Nat.lt_of_lt_of_le hi h.size) (fun e => by
    rcases hr i e.symm with q | q
    · exact hn q.symm
    · omega)).trans (h.block i hi hn)⟩
theorem Gr.of_below {a b : World} (h : Below a.heap.size a b) (v : Value) : Gr a b v v := ⟨⟨h.os, h.tape, h.output, h.size, fun i hi _ => h.block i hi⟩, fun _ e => .inl e⟩
theorem Gr.refl (a : World) (v : Value) : Gr a a v v := Gr.of_below (Below.refl _ _) v
theorem Gr.trans {a b c : World} {v v1 v2 : Value} (h : Gr a b v v1) (k : Gr b c v1 v2) : Gr a c v v2 :=
  ⟨grown_trans h.grow k.grow h.at', fun q e => by
    rcases k.at' q e with q1 | q1
    · exact h.at' q q1
    · exact .inr (Nat.le_trans h.grow.size q1)⟩
theorem Gr.append {a b c : World} {v v2 : Value} (h : Below a.heap.size a b) (hg : b.grownBy c v.ownBlock) (hat : v2.ownBlock = v.ownBlock ∨ v2.ownBlock = some b.heap.size) : Gr a c v v2 :=
  (Gr.of_below h v).trans ⟨hg, fun q e => by
    rcases hat with q1 | q1
    · exact .inl (q1 ▸ e)
    · rw [q1] at e
      cases e
      exact .inr (Nat.le_refl _)⟩
theorem Gr.below {B : Nat} {w a b : World} {v v' : Value} (h : Gr a b v v') (hb : Below B w a) (hB : B ≤ a.heap.size) (hv : ∀ q, v.ownBlock = some q → B ≤ q) : Below B w b := hb.grown h.grow hB hv
theorem rowE {W : World} {X : Nat} {t : TypeId} {a b c d e : Value} (h : W.heap[X]? = some (.cells #[a, b, c, d, e] t (0, 0))) : (W.cell? ⟨X, 0, none⟩ = some a ∧ W.cell? ⟨X, 1, none⟩ = some b ∧ W.cell? ⟨X, 2, none⟩ = some c ∧ W.cell? ⟨X, 3, none⟩ = some d ∧ W.cell? ⟨X, 4, none⟩ = some e) ∧ (W.frozen? ⟨X, 0, none⟩ = false ∧ W.frozen? ⟨X, 1, none⟩ = false ∧ W.frozen? ⟨X, 2, none⟩ = false ∧ W.frozen? ⟨X, 3, none⟩ = false ∧ W.frozen? ⟨X, 4, none⟩ = false) :=
  ⟨⟨by rw [cell_of_row _ _ _ _ _ _ h]; rfl, by rw [cell_of_row _ _ _ _ _ _ h]; rfl, by rw [cell_of_row _ _ _ _ _ _ h]; rfl, by rw [cell_of_row _ _ _ _ _ _ h]; rfl, by rw [cell_of_row _ _ _ _ _ _ h]; rfl⟩,
   by simp [World.frozen?, h], by simp [World.frozen?, h], by simp [World.frozen?, h], by simp [World.frozen?, h], by simp [World.frozen?, h]⟩
theorem cellE_new (w : World) (a b c d e : Value) (t : TypeId) : ∀ j u, [a, b, c, d, e][j]? = some u → (w.alloc (.cells #[a, b, c, d, e] t)).cell? ((⟨w.heap.size, 0, none⟩ : Addr).add j) = some u := by
  intro j u h
  rw [Addr.add_mid, cell_of_row _ _ _ _ _ _ (heap_alloc_new w _)]
  simpa using h
theorem Five.past {w w' : World} {g o : Nat} {x : EV} (h : Five w g o x) (hb : Below w.heap.size w w') : Five w' g o x :=
  Five.keeps (Q := fun _ => True) h trivial ⟨hb.size, fun g o _ hl => hb.cell (p := ⟨g, o, none⟩) hl⟩
/-- A row of five written over. -/
def setE (W : World) (X : Nat) (a b c d e : Value) : World := ((((W.setCell ⟨X, 0, none⟩ a).setCell ⟨X, 1, none⟩ b).setCell ⟨X, 2, none⟩ c).setCell ⟨X, 3, none⟩ d).setCell ⟨X, 4, none⟩ e
theorem setE_row {W : World} {X : Nat} {t : TypeId} {a0 b0 c0 d0 e0 : Value} (h : W.heap[X]? = some (.cells #[a0, b0, c0, d0, e0] t (0, 0))) (a b c d e : Value) : (setE W X a b c d e).heap[X]? = some (.cells #[a, b, c, d, e] t (0, 0)) := by
  unfold setE
  exact heap_setCell_same _ _ 4 _ _ e (heap_setCell_same _ _ 3 _ _ d (heap_setCell_same _ _ 2 _ _ c (heap_setCell_same _ _ 1 _ _ b (heap_setCell_same _ _ 0 _ _ a h))))
theorem setE_below {B : Nat} {w W : World} {X : Nat} (h : Below B w W) (hX : B ≤ X) (a b c d e : Value) : Below B w (setE W X a b c d e) := by
  unfold setE
  exact ((((h.setCell (p := ⟨X, 0, none⟩) hX a).setCell (p := ⟨X, 1, none⟩) hX b).setCell (p := ⟨X, 2, none⟩) hX c).setCell (p := ⟨X, 3, none⟩) hX d).setCell (p := ⟨X, 4, none⟩) hX e
theorem setE_other {W : World} {X k : Nat} (hk : k ≠ X) (a b c d e : Value) : (setE W X a b c d e).heap[k]? = W.heap[k]? := by
  unfold setE
  rw [Below.heap_setCell _ _ _ k hk, Below.heap_setCell _ _ _ k hk, Below.heap_setCell _ _ _ k hk, Below.heap_setCell _ _ _ k hk, Below.heap_setCell _ _ _ k hk]
theorem setE_size (W : World) (X : Nat) (a b c d e : Value) : (setE W X a b c d e).heap.size = W.heap.size := by unfold setE; simp
/-- A row that is written over keeps what lies in other blocks. -/
theorem setE_keeps {W : World} {X : Nat} (a b c d e : Value) : Keeps (fun g => g ≠ X) W (setE W X a b c d e) := by
  have ho : ∀ g, g ≠ X → (setE W X a b c d e).heap[g]? = W.heap[g]? := fun g hg => setE_other hg a b c d e
  have hs : W.heap.size ≤ (setE W X a b c d e).heap.size := by rw [setE_size]; exact Nat.le_refl _
  generalize setE W X a b c d e = V at *
  exact ⟨hs, fun g o hg _ => World.cell?_of_block (w := W) (ho g hg)⟩
/-- The two blocks that tidy begins with. -/
theorem two_rows (w : World) (t : TypeId) (a b c d e a' b' c' d' e' : Value) (W : World) (hW : W = (w.alloc (.cells #[a, b, c, d, e] t)).alloc (.cells #[a', b', c', d', e'] t)) :
    W.heap[w.heap.size]? = some (.cells #[a, b, c, d, e] t (0, 0)) ∧ W.heap[w.heap.size + 1]? = some (.cells #[a', b', c', d', e'] t (0, 0)) ∧ Below w.heap.size w W ∧ W.heap.size = w.heap.size + 2 := by
  obtain ⟨wa, hwa⟩ : ∃ wa, wa = w.alloc (.cells #[a, b, c, d, e] t) := ⟨_, rfl⟩
  have sa : wa.heap.size = w.heap.size + 1 := by rw [hwa]; simp
  have hW2 : W = wa.alloc (.cells #[a', b', c', d', e'] t) := by rw [hW, hwa]
  refine ⟨?_, ?_, ?_, ?_⟩
  · rw [hW2, Below.heap_alloc wa _ _ (by omega), hwa]; exact heap_alloc_new w _
  · rw [hW2, ← sa]; exact heap_alloc_new wa _
  · rw [hW]; exact ((Below.refl _ _).alloc (Nat.le_refl _) _).alloc (by simp) _
  · rw [hW2]; simp [sa]
/-- A block laid at the end. -/
theorem laid {w w' : World} {o : Array Value} {t : TypeId} (h : w.alloc (.cells o t) = w') : Below w.heap.size w w' ∧ w'.heap[w.heap.size]? = some (.cells o t (0, 0)) ∧ w'.heap.size = w.heap.size + 1 := by
  subst h
  exact ⟨(Below.refl _ _).alloc (Nat.le_refl _) _, heap_alloc_new w _, by simp⟩
theorem kept {w w' : World} (h : Below w.heap.size w w') {b : Nat} {o : Obj} (hb : w.heap[b]? = some o) : w'.heap[b]? = some o := by
  have hl : b < w.heap.size := by
    rcases Nat.lt_or_ge b w.heap.size with h1 | h1
    · exact h1
    · rw [Array.getElem?_eq_none h1] at hb
      cases hb
  exact (h.block b hl).trans hb
theorem SQ.mono {w : World} {Q Q' : Nat → Prop} {a : Option Addr} {N : List ByteArray} (h : SQ w Q a N) (hk : ∀ g, g < w.heap.size → Q g → Q' g) : SQ w Q' a N := ⟨fun k hk' => by
  obtain ⟨b, off, e, hq, h1, h2⟩ := h.at' k hk'
  exact ⟨b, off, e, hk b h1 hq, h1, h2⟩⟩
theorem RQ.mono {w : World} {Q Q' : Nat → Prop} {a : Option Addr} {P : List (Int × Int)} (h : RQ w Q a P) (hk : ∀ g, g < w.heap.size → Q g → Q' g) : RQ w Q' a P := ⟨fun k hk' => by
  obtain ⟨b, off, e, hq, h1, h2⟩ := h.at' k hk'
  exact ⟨b, off, e, hk b (World.block_lt_of_cell? w _ h1) hq, h1, h2⟩⟩
theorem SQ.front {w : World} {Q : Nat → Prop} {a : Option Addr} {L M : List ByteArray} (h : SQ w Q a (L ++ M)) : SQ w Q a L := ⟨fun k hk => by
  obtain ⟨b, off, e, hq, h1, h2⟩ := h.at' k (by simp; omega)
  rw [List.getElem_append_left hk] at h2
  exact ⟨b, off, e, hq, h1, h2⟩⟩
theorem RQ.front {w : World} {Q : Nat → Prop} {a : Option Addr} {L M : List (Int × Int)} (h : RQ w Q a (L ++ M)) : RQ w Q a L := ⟨fun k hk => by
  obtain ⟨b, off, e, hq, h1, h2⟩ := h.at' k (by simp; omega)
  rw [List.getElem_append_left hk] at h1 h2
  exact ⟨b, off, e, hq, h1, h2⟩⟩
/-- An expression that is handed in, in blocks that Q says. -/
inductive ExH (w : World) (Q : Nat → Prop) : Ex → EV → Prop
  | mk (k : Int) (nt : Bool) (N : List ByteArray) (P : List (Int × Int)) (L : List Ex) (a : Option Addr) (ca : Nat) (b : Option Addr) (cb : Nat) (c : Option Addr) (cc : Nat) (vs : Nat → EV)
    (hN : SQ w Q a N) (hP : RQ w Q b P) (lN : N.length ≤ 100000000) (lP : P.length ≤ 100000000) (lL : L.length ≤ 100000000) (nN : a = none → ca = 0) (nP : b = none → cb = 0)
    (hL : ∀ i, i < L.length → ∃ g off, c = some ⟨g, off, none⟩ ∧ Q g ∧ Five w g (off + i * 5) (vs i))
    (hR : ∀ i (h : i < L.length), ExH w Q L[i] (vs i)) :
    ExH w Q (.mk k nt N P L) ⟨.int .i64 k, .bool nt, .slice a N.length ca, .slice b P.length cb, .slice c L.length cc⟩
theorem ExH.keeps {w w' : World} {Q : Nat → Prop} (hk : Keeps Q w w') {e : Ex} {x : EV} (h : ExH w Q e x) : ExH w' Q e x := by
  induction h with
  | mk k nt N P L a ca b cb c cc vs hN hP lN lP lL nN nP hL hR ih =>
    exact .mk k nt N P L a ca b cb c cc vs (hN.keeps hk) (hP.keeps hk) lN lP lL nN nP (fun i hi => by
      obtain ⟨g, off, e, hq, h5⟩ := hL i hi
      exact ⟨g, off, e, hq, h5.keeps hq hk⟩) ih
theorem ExH.past {w w' : World} {Q : Nat → Prop} (hb : Below w.heap.size w w') {e : Ex} {x : EV} (h : ExH w Q e x) : ExH w' Q e x :=
  h.keeps ⟨hb.size, fun g o _ hl => hb.cell (p := ⟨g, o, none⟩) hl⟩
theorem ExH.is {w : World} {Q : Nat → Prop} {e : Ex} {x : EV} (h : ExH w Q e x) : ExIs w Q e x := by
  induction h with
  | mk k nt N P L a ca b cb c cc vs hN hP lN lP lL nN nP hL hR ih => exact .mk k nt N P L a ca b cb c cc vs hN hP (by omega) (by omega) (by omega) hL ih
theorem ExH.shape {w : World} {Q : Nat → Prop} {k : Int} {nt : Bool} {N : List ByteArray} {P : List (Int × Int)} {L : List Ex} {x : EV} (h : ExH w Q (.mk k nt N P L) x) : ∃ a ca b cb c cc, x = ⟨.int .i64 k, .bool nt, .slice a N.length ca, .slice b P.length cb, .slice c L.length cc⟩ ∧ SQ w Q a N ∧ RQ w Q b P ∧ N.length ≤ 100000000 ∧ P.length ≤ 100000000 ∧ L.length ≤ 100000000 ∧ (a = none → ca = 0) ∧ (b = none → cb = 0) ∧
    ∃ vs : Nat → EV, (∀ i, i < L.length → ∃ g off, c = some ⟨g, off, none⟩ ∧ Q g ∧ Five w g (off + i * 5) (vs i)) ∧ ∀ i (h : i < L.length), ExH w Q L[i] (vs i) := by
  cases h with
  | mk _ _ _ _ _ a ca b cb c cc vs hN hP lN lP lL nN nP hL hR => exact ⟨a, ca, b, cb, c, cc, rfl, hN, hP, lN, lP, lL, nN, nP, vs, hL, hR⟩
/-- A lent expression: marks behind each list, so many levels deep. -/
inductive ExL (w : World) (Q : Nat → Prop) : Nat → Ex → EV → Prop
  | deep (e : Ex) (x : EV) (h : ExIs w Q e x) : ExL w Q 0 e x
  | mk (n : Nat) (k : Int) (nt : Bool) (N : List ByteArray) (P : List (Int × Int)) (L : List Ex) (gN cN gP cP gL cL : Nat) (vs : Nat → EV)
    (hN : SQ w Q (some ⟨gN, 0, none⟩) (N ++ [markB])) (hP : RQ w Q (some ⟨gP, 0, none⟩) (P ++ [(-77, 0)])) (lN : N.length ≤ 100000000) (lP : P.length ≤ 100000000) (lL : L.length ≤ 100000000) (kN : N.length + 1 ≤ cN) (kP : P.length + 1 ≤ cP) (kL : L.length + 1 ≤ cL)
    (hL : ∀ i, i < L.length → Five w gL (i * 5) (vs i)) (hQ : Q gL) (hM : w.cell? ⟨gL, L.length * 5, none⟩ = some (.int .i64 (-77)))
    (hR : ∀ i (h : i < L.length), ExL w Q n L[i] (vs i)) :
    ExL w Q (n + 1) (.mk k nt N P L) ⟨.int .i64 k, .bool nt, .slice (some ⟨gN, 0, none⟩) N.length cN, .slice (some ⟨gP, 0, none⟩) P.length cP, .slice (some ⟨gL, 0, none⟩) L.length cL⟩
theorem ExL.keeps {w w' : World} {Q : Nat → Prop} (hk : Keeps Q w w') {n : Nat} {e : Ex} {x : EV} (h : ExL w Q n e x) : ExL w' Q n e x := by
  induction h with
  | deep e x h => exact .deep e x (h.keeps hk)
  | mk n k nt N P L gN cN gP cP gL cL vs hN hP lN lP lL kN kP kL hL hQ hM hR ih =>
    exact .mk n k nt N P L gN cN gP cP gL cL vs (hN.keeps hk) (hP.keeps hk) lN lP lL kN kP kL (fun i hi => (hL i hi).keeps hQ hk) hQ ((hk.cell gL _ hQ (World.block_lt_of_cell? w _ hM)).trans hM) ih
theorem ExL.past {w w' : World} {Q : Nat → Prop} (hb : Below w.heap.size w w') {n : Nat} {e : Ex} {x : EV} (h : ExL w Q n e x) : ExL w' Q n e x :=
  h.keeps ⟨hb.size, fun g o _ hl => hb.cell (p := ⟨g, o, none⟩) hl⟩
theorem ExL.mono {w : World} {Q Q' : Nat → Prop} (hk : ∀ g, g < w.heap.size → Q g → Q' g) {n : Nat} {e : Ex} {x : EV} (h : ExL w Q n e x) : ExL w Q' n e x := by
  induction h with
  | deep e x h => exact .deep e x (h.mono hk)
  | mk n k nt N P L gN cN gP cP gL cL vs hN hP lN lP lL kN kP kL hL hQ hM hR ih =>
    exact .mk n k nt N P L gN cN gP cP gL cL vs (hN.mono hk) (hP.mono hk) lN lP lL kN kP kL hL (hk gL (World.block_lt_of_cell? w _ hM) hQ) hM ih
theorem ExL.is {w : World} {Q : Nat → Prop} {n : Nat} {e : Ex} {x : EV} (h : ExL w Q n e x) : ExIs w Q e x := by
  induction h with
  | deep e x h => exact h
  | mk n k nt N P L gN cN gP cP gL cL vs hN hP lN lP lL kN kP kL hL hQ hM hR ih =>
    exact .mk k nt N P L _ cN _ cP _ cL vs hN.front hP.front (by omega) (by omega) (by omega) (fun i hi => ⟨gL, 0, rfl, hQ, by rw [Nat.zero_add]; exact hL i hi⟩) ih
theorem ExIs.one {w : World} {Q : Nat → Prop} {e : Ex} {x : EV} (h : ExIs w Q e x) : ∀ u, u ∈ evC x → u.oneCell' = true := by
  cases h with
  | mk k nt N P L a ca b cb c cc vs =>
    intro u hu
    simp only [evC, List.mem_cons, List.not_mem_nil, or_false] at hu
    rcases hu with rfl | rfl | rfl | rfl | rfl <;> rfl
theorem ExIs.flat {w : World} {Q : Nat → Prop} {e : Ex} {x : EV} (h : ExIs w Q e x) : ∃ k t a m c b n d g l z, x = ⟨.int .i64 k, .bool t, .slice a m c, .slice b n d, .slice g l z⟩ := by
  cases h with
  | mk k nt N P L a ca b cb c cc vs => exact ⟨k, nt, a, _, ca, b, _, cb, c, _, cc, rfl⟩
/-- A list of lent expressions that is being made, in a row of its own; the parts lie elsewhere. -/
structure PL (W : World) (lo : Nat) (Q : Nat → Prop) (n : Nat) (v : Value) (L : List Ex) (xs : List EV) : Prop where
  len : xs.length = L.length
  own : W.ownsRow lo 48 5 v L.length (xs.flatMap evC)
  is : ∀ i (h : i < L.length) (h' : i < xs.length), ExL W (fun b => Q b ∧ v.ownBlock ≠ some b) n L[i] xs[i]
theorem PL.nil (W : World) (lo : Nat) (Q : Nat → Prop) (n : Nat) : PL W lo Q n (.slice none 0 0) [] [] := ⟨rfl, World.ownsRow_nil _ _ _ _, fun _ h => absurd h (Nat.not_lt_zero _)⟩
theorem PL.past {W W' : World} {lo : Nat} {Q : Nat → Prop} {n : Nat} {v : Value} {L : List Ex} {xs : List EV} (h : PL W lo Q n v L xs) (k : Below W.heap.size W W') : PL W' lo Q n v L xs :=
  ⟨h.len, own_blk h.own (fun g hg => k.block g (World.ownsRow.lt h.own g hg).2), fun i h1 h2 => (h.is i h1 h2).past k⟩
/-- What is stored into a block that Q leaves out. -/
theorem PL.store {W : World} {lo : Nat} {Q : Nat → Prop} {n : Nat} {v : Value} {L : List Ex} {xs : List EV} (h : PL W lo Q n v L xs) {X o : Nat} (u : Value) (hX : ¬ Q X) (hX2 : v.ownBlock ≠ some X) : PL (W.setCell ⟨X, o, none⟩ u) lo Q n v L xs :=
  ⟨h.len, own_blk h.own (fun g hg => Below.heap_setCell W _ u g (fun e => hX2 (by rw [← show g = X from e]; exact hg))), fun i h1 h2 => (h.is i h1 h2).keeps ⟨by simp [World.setCell], fun g o' hq hl => World.cell?_of_block (w := W) (a := ⟨g, o', none⟩) (Below.heap_setCell W _ u g (fun e => hX (by rw [← show g = X from e]; exact hq.1)))⟩⟩
theorem ExL.grow {W w4 : World} {Q : Nat → Prop} {n : Nat} {v v4 : Value} {e : Ex} {x : EV} (h : ExL W (fun b => Q b ∧ v.ownBlock ≠ some b) n e x) (g : Gr W w4 v v4) : ExL w4 (fun b => Q b ∧ v4.ownBlock ≠ some b) n e x := by
  have h1 : ExL W (fun b => (Q b ∧ v.ownBlock ≠ some b) ∧ v4.ownBlock ≠ some b) n e x := h.mono (fun b hl hq => ⟨hq, fun e => by
    rcases g.at' b e with q | q
    · exact hq.2 q
    · omega⟩)
  have h2 := h1.keeps (w' := w4) ⟨g.grow.size, fun b o hq hl => World.cell?_of_block (w := W) (g.grow.block b hl (fun e => hq.1.2 e.symm))⟩
  exact h2.mono (fun b _ hq => ⟨hq.1.1, hq.2⟩)
theorem PL.snoc {W w4 : World} {lo : Nat} {Q : Nat → Prop} {n : Nat} {v v4 : Value} {L : List Ex} {xs : List EV} {e : Ex} {x : EV} (h : PL W lo Q n v L xs) (hx : ExL W (fun b => Q b ∧ v.ownBlock ≠ some b) n e x) (g : Gr W w4 v v4)
    (ho : w4.ownsRow lo 48 5 v4 (L.length + 1) (xs.flatMap evC ++ evC x)) : PL w4 lo Q n v4 (L ++ [e]) (xs ++ [x]) := by
  refine ⟨by simp [h.len], ?_, fun k hk hk' => ?_⟩
  · rw [List.length_append, List.length_singleton, List.flatMap_append, List.flatMap_singleton]; exact ho
  · simp only [List.length_append, List.length_singleton] at hk
    rcases Nat.lt_or_ge k L.length with hl | hl
    · have hl2 : k < xs.length := by rw [h.len]; exact hl
      simp only [List.getElem_append_left hl, List.getElem_append_left hl2]
      exact (h.is k hl hl2).grow g
    · have : k = L.length := by omega
      subst this
      have hq : ∀ (hx : L.length < (xs ++ [x]).length), (xs ++ [x])[L.length]'hx = x := fun hx => by
        rw [List.getElem_append_right (by rw [h.len]; exact Nat.le_refl _)]; simp [h.len]
      rw [hq]
      simp only [List.getElem_concat_length]
      exact hx.grow g
theorem PL.form {W : World} {lo : Nat} {Q : Nat → Prop} {n : Nat} {v : Value} {L : List Ex} {xs : List EV} (h : PL W lo Q n v L xs) : ∃ a c, v = .slice a L.length c := by
  rcases h.own.2 with ⟨rfl, e⟩ | ⟨g, cap', cur, rfl, _⟩
  · exact ⟨none, 0, by rw [e]⟩
  · exact ⟨_, _, rfl⟩
/-- What lent answers. -/
def LentR (w : World) (B : Nat) (n : Nat) (e : Ex) (r : Ending) (w' : World) : Prop := ∃ y : EV, r = .returned y.v ∧ ExL w' (fun g => g < B ∨ w.heap.size ≤ g) n e y ∧ Below w.heap.size w w'
/-- The row with a mark behind it, and what lies in its parts: an expression. -/
theorem PL.done {W w4 : World} {lo : Nat} {Q : Nat → Prop} {n : Nat} {v : Value} {g c : Nat} {L : List Ex} {xs : List EV} {k : Int} {nt : Bool} {N : List ByteArray} {P : List (Int × Int)} {gN cN gP cP : Nat} {z : EV} (h : PL W lo Q n v L xs) (gr : Gr W w4 v (.slice (some ⟨g, 0, none⟩) (L.length + 1) c))
    (ho : w4.ownsRow lo 48 5 (.slice (some ⟨g, 0, none⟩) (L.length + 1) c) (L.length + 1) (xs.flatMap evC ++ evC z)) (hz : z.k = .int .i64 (-77))
    (hN : SQ w4 Q (some ⟨gN, 0, none⟩) (N ++ [markB])) (hP : RQ w4 Q (some ⟨gP, 0, none⟩) (P ++ [(-77, 0)])) (lN : N.length ≤ 100000000) (lP : P.length ≤ 100000000) (lL : L.length ≤ 100000000) (kN : N.length + 1 ≤ cN) (kP : P.length + 1 ≤ cP) (hQ : lo ≤ g → Q g) :
    L.length + 1 ≤ c ∧ ExL w4 Q (n + 1) (.mk k nt N P L) ⟨.int .i64 k, .bool nt, .slice (some ⟨gN, 0, none⟩) N.length cN, .slice (some ⟨gP, 0, none⟩) P.length cP, .slice (some ⟨g, 0, none⟩) L.length c⟩ := by
  have hcap : L.length + 1 ≤ c ∧ lo ≤ g := by
    rcases ho.2 with ⟨e, _⟩ | ⟨g', cap, cur, e, h1, _, h2, _⟩
    · cases e
    · cases e; exact ⟨h2, h1⟩
  have hfl : (xs.flatMap evC).length = L.length * 5 := by
    rw [← h.len]
    clear h gr ho hz hN hP
    induction xs with
    | nil => rfl
    | cons x xs ih => rw [List.flatMap_cons, List.length_append, ih, List.length_cons]; simp [evC]; omega
  have hc : ∀ j, j < (L.length + 1) * 5 → w4.cell? ⟨g, j, none⟩ = (xs.flatMap evC ++ evC z)[j]? := fun j hj => World.ownsRow.cellAt ho j hj
  refine ⟨hcap.1, .mk n k nt N P L gN cN gP cP g c (fun i => xs.getD i ⟨.nilIface, .nilIface, .nilIface, .nilIface, .nilIface⟩) hN hP lN lP lL kN kP hcap.1 (fun i hi => ?_) (hQ hcap.2) ?_ (fun i hi => ?_)⟩
  · have hi' : i < xs.length := by rw [h.len]; exact hi
    have hc5 : ∀ j, j < 5 → w4.cell? ⟨g, i * 5 + j, none⟩ = (evC xs[i])[j]? := fun j hj => by
      have hlt : i * 5 + j < L.length * 5 := by have := Nat.mul_le_mul_right 5 (Nat.succ_le_of_lt hi); omega
      rw [hc (i * 5 + j) (by omega), List.getElem?_append_left (by omega), flatE xs i j hi' hj]
    rw [List.getD_eq_getElem?_getD, List.getElem?_eq_getElem hi']
    exact ⟨hc5 0 (by omega), hc5 1 (by omega), hc5 2 (by omega), hc5 3 (by omega), hc5 4 (by omega)⟩
  · rw [hc (L.length * 5) (by omega), List.getElem?_append_right (by omega), hfl, Nat.sub_self, ← hz]
    rfl
  · have hi' : i < xs.length := by rw [h.len]; exact hi
    rw [List.getD_eq_getElem?_getD, List.getElem?_eq_getElem hi']
    exact ((h.is i hi hi').grow gr).mono (fun b _ hq => hq.1)
end Go.Proofs.Ythcpalpcakjfnaa
