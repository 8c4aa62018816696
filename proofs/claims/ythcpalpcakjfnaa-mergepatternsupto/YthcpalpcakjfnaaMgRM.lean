/-
  Rules in memory: handed in, lent, being made.
-/
import Derived.Test.YthcpalpcakjfnaaMgLM
namespace Go.Proofs.Ythcpalpcakjfnaa
open Go.RowKit Go.Shelf
/-- A rule. -/
structure Ru where
  nm : ByteArray
  l : Ex
  r : Ex
  s : Bool
  t : Bool
  b : Bool
def ruC (u : Ru) (x y : EV) : List Value := [.string u.nm, x.k, x.t, x.n, x.p, x.r, y.k, y.t, y.n, y.p, y.r, .bool u.s, .bool u.t, .bool u.b]
/-- Fourteen cells that hold a rule. -/
structure Ft (w : World) (g o : Nat) (u : Ru) (x y : EV) : Prop where
  c0 : w.cell? ⟨g, o, none⟩ = some (.string u.nm)
  c1 : w.cell? ⟨g, o + 1, none⟩ = some x.k
  c2 : w.cell? ⟨g, o + 2, none⟩ = some x.t
  c3 : w.cell? ⟨g, o + 3, none⟩ = some x.n
  c4 : w.cell? ⟨g, o + 4, none⟩ = some x.p
  c5 : w.cell? ⟨g, o + 5, none⟩ = some x.r
  c6 : w.cell? ⟨g, o + 6, none⟩ = some y.k
  c7 : w.cell? ⟨g, o + 7, none⟩ = some y.t
  c8 : w.cell? ⟨g, o + 8, none⟩ = some y.n
  c9 : w.cell? ⟨g, o + 9, none⟩ = some y.p
  c10 : w.cell? ⟨g, o + 10, none⟩ = some y.r
  c11 : w.cell? ⟨g, o + 11, none⟩ = some (.bool u.s)
  c12 : w.cell? ⟨g, o + 12, none⟩ = some (.bool u.t)
  c13 : w.cell? ⟨g, o + 13, none⟩ = some (.bool u.b)
theorem Ft.of {w : World} {g o : Nat} {u : Ru} {x y : EV} (h : ∀ j, j < 14 → w.cell? ⟨g, o + j, none⟩ = (ruC u x y)[j]?) : Ft w g o u x y :=
  ⟨h 0 (by omega), h 1 (by omega), h 2 (by omega), h 3 (by omega), h 4 (by omega), h 5 (by omega), h 6 (by omega), h 7 (by omega), h 8 (by omega), h 9 (by omega), h 10 (by omega), h 11 (by omega), h 12 (by omega), h 13 (by omega)⟩
theorem Ft.keeps {Q : Nat → Prop} {w w' : World} {g o : Nat} {u : Ru} {x y : EV} (h : Ft w g o u x y) (hq : Q g) (hk : Keeps Q w w') : Ft w' g o u x y :=
  have l := World.block_lt_of_cell? w _ h.c0
  ⟨(hk.cell g _ hq l).trans h.c0, (hk.cell g _ hq l).trans h.c1, (hk.cell g _ hq l).trans h.c2, (hk.cell g _ hq l).trans h.c3, (hk.cell g _ hq l).trans h.c4, (hk.cell g _ hq l).trans h.c5, (hk.cell g _ hq l).trans h.c6, (hk.cell g _ hq l).trans h.c7, (hk.cell g _ hq l).trans h.c8, (hk.cell g _ hq l).trans h.c9, (hk.cell g _ hq l).trans h.c10, (hk.cell g _ hq l).trans h.c11, (hk.cell g _ hq l).trans h.c12, (hk.cell g _ hq l).trans h.c13⟩
theorem Ft.past {w w' : World} {g o : Nat} {u : Ru} {x y : EV} (h : Ft w g o u x y) (hb : Below w.heap.size w w') : Ft w' g o u x y := h.keeps (Q := fun _ => True) trivial (Keeps.past hb)
/-- Rules that are handed in. -/
structure RuH (w : World) (B : Nat) (a : Option Addr) (R : List Ru) (xs ys : Nat → EV) : Prop where
  at' : ∀ i (h : i < R.length), ∃ g off, a = some ⟨g, off, none⟩ ∧ Ft w g (off + i * 14) R[i] (xs i) (ys i)
  l : ∀ i (h : i < R.length), ExH w (fun g => g < B) R[i].l (xs i)
  r : ∀ i (h : i < R.length), ExH w (fun g => g < B) R[i].r (ys i)
theorem RuH.past {w w' : World} {B : Nat} {a : Option Addr} {R : List Ru} {xs ys : Nat → EV} (h : RuH w B a R xs ys) (hb : Below w.heap.size w w') : RuH w' B a R xs ys :=
  ⟨fun i hi => by
    obtain ⟨g, off, e, hf⟩ := h.at' i hi
    exact ⟨g, off, e, hf.past hb⟩, fun i hi => (h.l i hi).past hb, fun i hi => (h.r i hi).past hb⟩
/-- Rules in memory, whatever lies behind them. -/
structure RuI (w : World) (a : Option Addr) (R : List Ru) (xs ys : Nat → EV) : Prop where
  at' : ∀ i (h : i < R.length), ∃ g off, a = some ⟨g, off, none⟩ ∧ Ft w g (off + i * 14) R[i] (xs i) (ys i)
  l : ∀ i (h : i < R.length), ExIs w (fun _ => True) R[i].l (xs i)
  r : ∀ i (h : i < R.length), ExIs w (fun _ => True) R[i].r (ys i)
theorem RuI.past {w w' : World} {a : Option Addr} {R : List Ru} {xs ys : Nat → EV} (h : RuI w a R xs ys) (hb : Below w.heap.size w w') : RuI w' a R xs ys :=
  ⟨fun i hi => by
    obtain ⟨g, off, e, hf⟩ := h.at' i hi
    exact ⟨g, off, e, hf.past hb⟩, fun i hi => (h.l i hi).past hb, fun i hi => (h.r i hi).past hb⟩
theorem RuH.is {w : World} {B : Nat} {a : Option Addr} {R : List Ru} {xs ys : Nat → EV} (h : RuH w B a R xs ys) : RuI w a R xs ys :=
  ⟨h.at', fun i hi => (h.l i hi).is.mono (fun _ _ _ => trivial), fun i hi => (h.r i hi).is.mono (fun _ _ _ => trivial)⟩
/-- Lent rules. -/
structure RuL (w : World) (Q : Nat → Prop) (g c : Nat) (R : List Ru) (xs ys : Nat → EV) : Prop where
  at' : ∀ i (h : i < R.length), Ft w g (i * 14) R[i] (xs i) (ys i)
  l : ∀ i (h : i < R.length), ExL w Q 5001 R[i].l (xs i)
  r : ∀ i (h : i < R.length), ExL w Q 5001 R[i].r (ys i)
  cap : R.length + 1 ≤ c
  mark : w.cell? ⟨g, R.length * 14, none⟩ = some (.string ⟨#[109, 97, 114, 107]⟩)
theorem RuL.past {w w' : World} {Q : Nat → Prop} {g c : Nat} {R : List Ru} {xs ys : Nat → EV} (h : RuL w Q g c R xs ys) (hb : Below w.heap.size w w') : RuL w' Q g c R xs ys :=
  ⟨fun i hi => (h.at' i hi).past hb, fun i hi => (h.l i hi).past hb, fun i hi => (h.r i hi).past hb, h.cap, (hb.cell (World.block_lt_of_cell? w _ h.mark)).trans h.mark⟩
theorem RuL.is {w : World} {Q : Nat → Prop} {g c : Nat} {R : List Ru} {xs ys : Nat → EV} (h : RuL w Q g c R xs ys) : RuI w (some ⟨g, 0, none⟩) R xs ys :=
  ⟨fun i hi => ⟨g, 0, rfl, by rw [Nat.zero_add]; exact h.at' i hi⟩, fun i hi => (h.l i hi).is.mono (fun _ _ _ => trivial), fun i hi => (h.r i hi).is.mono (fun _ _ _ => trivial)⟩
/-- A rule made: what it is, where its sides lie. -/
structure Rm where
  u : Ru
  x : EV
  y : EV
def rmC (z : Rm) : List Value := ruC z.u z.x z.y
theorem flatR (zs : List Rm) : ∀ (i j : Nat) (h : i < zs.length), j < 14 → (zs.flatMap rmC)[i * 14 + j]? = (rmC zs[i])[j]? := by
  induction zs with
  | nil => intro i j h; exact absurd h (Nat.not_lt_zero _)
  | cons g xs ih =>
    intro i j h hj
    rw [List.flatMap_cons]
    cases i with
    | zero =>
      rw [Nat.zero_mul, Nat.zero_add, List.getElem?_append_left (by simpa [rmC, ruC] using hj)]
      rfl
    | succ i =>
      rw [List.getElem?_append_right (by simp [rmC, ruC]; omega)]
      rw [show (i + 1) * 14 + j - (rmC g).length = i * 14 + j by simp [rmC, ruC]; omega]
      exact ih i j (by simpa using h) hj
theorem flatR_len (zs : List Rm) : (zs.flatMap rmC).length = zs.length * 14 := by
  induction zs with
  | nil => rfl
  | cons x xs ih => rw [List.flatMap_cons, List.length_append, ih, List.length_cons]; simp [rmC, ruC]; omega
/-- A list of lent rules that is being made. -/
structure PU (W : World) (lo : Nat) (Q : Nat → Prop) (v : Value) (zs : List Rm) : Prop where
  own : W.ownsRow lo 50 14 v zs.length (zs.flatMap rmC)
  is : ∀ z ∈ zs, ExL W (fun b => Q b ∧ v.ownBlock ≠ some b) 5001 z.u.l z.x ∧ ExL W (fun b => Q b ∧ v.ownBlock ≠ some b) 5001 z.u.r z.y
theorem PU.nil (W : World) (lo : Nat) (Q : Nat → Prop) : PU W lo Q (.slice none 0 0) [] := ⟨World.ownsRow_nil _ _ _ _, fun _ h => by cases h⟩
theorem PU.past {W W' : World} {lo : Nat} {Q : Nat → Prop} {v : Value} {zs : List Rm} (h : PU W lo Q v zs) (k : Below W.heap.size W W') : PU W' lo Q v zs :=
  ⟨own_blk h.own (fun g hg => k.block g (World.ownsRow.lt h.own g hg).2), fun z hz => ⟨(h.is z hz).1.past k, (h.is z hz).2.past k⟩⟩
theorem PU.store {W : World} {lo : Nat} {Q : Nat → Prop} {v : Value} {zs : List Rm} (h : PU W lo Q v zs) {X o : Nat} (u : Value) (hX : ¬ Q X) (hX2 : v.ownBlock ≠ some X) : PU (W.setCell ⟨X, o, none⟩ u) lo Q v zs :=
  ⟨own_blk h.own (fun g hg => Below.heap_setCell W _ u g (fun e => hX2 (by rw [← show g = X from e]; exact hg))), fun z hz => ⟨(h.is z hz).1.keeps (keeps_set u (fun hq => hX hq.1)), (h.is z hz).2.keeps (keeps_set u (fun hq => hX hq.1))⟩⟩
theorem PU.snoc {W w4 : World} {lo : Nat} {Q : Nat → Prop} {v v4 : Value} {zs : List Rm} {z : Rm} (h : PU W lo Q v zs) (hx : ExL W (fun b => Q b ∧ v.ownBlock ≠ some b) 5001 z.u.l z.x) (hy : ExL W (fun b => Q b ∧ v.ownBlock ≠ some b) 5001 z.u.r z.y) (g : Gr W w4 v v4)
    (ho : w4.ownsRow lo 50 14 v4 (zs.length + 1) (zs.flatMap rmC ++ rmC z)) : PU w4 lo Q v4 (zs ++ [z]) := by
  refine ⟨?_, fun q hq => ?_⟩
  · rw [List.length_append, List.length_singleton, List.flatMap_append, List.flatMap_singleton]; exact ho
  · rcases List.mem_append.1 hq with hq | hq
    · exact ⟨(h.is q hq).1.grow g, (h.is q hq).2.grow g⟩
    · rw [List.mem_singleton] at hq
      subst hq
      exact ⟨hx.grow g, hy.grow g⟩
/-- What Rules makes, while it makes it. -/
structure UP (W wx : World) (B F : Nat) (s : Int) (nt : Bool) (N : List ByteArray) (P : List (Int × Int)) (el : Bool) (gN cN gP cP : Nat) (v : Value) (zs : List Rm) : Prop where
  box : wx.heap[F]? = some (.cells #[v, .int .i64 s, .bool nt, .slice (some ⟨gN, 0, none⟩) N.length cN, .slice (some ⟨gP, 0, none⟩) P.length cP, .bool el] 31 (0, 0))
  lo : W.heap.size ≤ F
  hN : SQ wx (fun b => (W.heap.size ≤ b ∧ b ≠ F) ∧ v.ownBlock ≠ some b) (some ⟨gN, 0, none⟩) (N ++ [markB])
  hP : RQ wx (fun b => (W.heap.size ≤ b ∧ b ≠ F) ∧ v.ownBlock ≠ some b) (some ⟨gP, 0, none⟩) (P ++ [(-77, 0)])
  kN : N.length + 1 ≤ cN
  kP : P.length + 1 ≤ cP
  below : Below W.heap.size W wx
  base : B ≤ W.heap.size
  pl : PU wx W.heap.size (fun b => (b < B ∨ W.heap.size ≤ b) ∧ b ≠ F) v zs
  off : v.ownBlock ≠ some F
section
variable {W wx : World} {B F : Nat} {s : Int} {nt : Bool} {N : List ByteArray} {P : List (Int × Int)} {el : Bool} {gN cN gP cP : Nat}
theorem UP.past {w' : World} {v : Value} {zs : List Rm} (h : UP W wx B F s nt N P el gN cN gP cP v zs) (hb : Below wx.heap.size wx w') : UP W w' B F s nt N P el gN cN gP cP v zs :=
  ⟨kept hb h.box, h.lo, h.hN.keeps (Keeps.past hb), h.hP.keeps (Keeps.past hb), h.kN, h.kP, Below.later h.below hb, h.base, h.pl.past hb, h.off⟩
theorem UP.start (hB : B ≤ W.heap.size) (hF : W.heap.size ≤ F) (hbox : wx.heap[F]? = some (.cells #[.slice none 0 0, .int .i64 s, .bool nt, .slice (some ⟨gN, 0, none⟩) N.length cN, .slice (some ⟨gP, 0, none⟩) P.length cP, .bool el] 31 (0, 0)))
    (hN : SQ wx (fun b => W.heap.size ≤ b ∧ b ≠ F) (some ⟨gN, 0, none⟩) (N ++ [markB])) (hP : RQ wx (fun b => W.heap.size ≤ b ∧ b ≠ F) (some ⟨gP, 0, none⟩) (P ++ [(-77, 0)])) (kN : N.length + 1 ≤ cN) (kP : P.length + 1 ≤ cP) (hb : Below W.heap.size W wx) :
    UP W wx B F s nt N P el gN cN gP cP (.slice none 0 0) [] :=
  ⟨hbox, hF, hN.mono (fun _ _ h => ⟨h, (fun e => by cases e)⟩), hP.mono (fun _ _ h => ⟨h, (fun e => by cases e)⟩), kN, kP, hb, hB, PU.nil _ _ _, (fun e => by cases e)⟩
theorem UP.F_lt {v : Value} {zs : List Rm} (h : UP W wx B F s nt N P el gN cN gP cP v zs) : F < wx.heap.size := lt_of_rowC h.box
/-- One rule more. -/
theorem UP.step {w2 w4 : World} {v v4 : Value} {zs : List Rm} {z : Rm} {o : Obj} (h : UP W wx B F s nt N P el gN cN gP cP v zs) (hb : Below wx.heap.size wx w2) (hx : ExL w2 (fun g => g < B ∨ wx.heap.size ≤ g) 5001 z.u.l z.x) (hy : ExL w2 (fun g => g < B ∨ wx.heap.size ≤ g) 5001 z.u.r z.y)
    (hg : (w2.alloc o).grownBy w4 v.ownBlock) (hat : v4.ownBlock = v.ownBlock ∨ v4.ownBlock = some (w2.alloc o).heap.size) (ho : w4.ownsRow W.heap.size 50 14 v4 (zs.length + 1) (zs.flatMap rmC ++ rmC z)) :
    UP W (w4.setCell ⟨F, 0, none⟩ v4) B F s nt N P el gN cN gP cP v4 (zs ++ [z]) := by
  have hF := h.F_lt
  have hs := hb.size
  have h2 := h.past hb
  have gr : Gr w2 w4 v v4 := Gr.append ((Below.refl _ w2).alloc (Nat.le_refl _) o) hg hat
  have hvl : ∀ q, v.ownBlock = some q → W.heap.size ≤ q ∧ q < wx.heap.size := fun q hq => World.ownsRow.lt h.pl.own q hq
  have off4 : v4.ownBlock ≠ some F := fun e4 => by
    rcases hat with q | q
    · rw [q] at e4; exact h.off e4
    · rw [q] at e4; simp at e4; omega
  have hb4 : w4.heap[F]? = w2.heap[F]? := (hg.block F (by simp; omega) (fun e => h.off e.symm)).trans (Below.heap_alloc w2 o F (by omega))
  have hm : ∀ b, b < w2.heap.size → (b < B ∨ wx.heap.size ≤ b) → ((b < B ∨ W.heap.size ≤ b) ∧ b ≠ F) ∧ v.ownBlock ≠ some b := fun b _ hq => by
    have hbs := h.base
    have hlo := h.lo
    have hbw := h.below.size
    rcases hq with hq | hq
    · exact ⟨⟨.inl hq, by omega⟩, fun e => by have := (hvl b e).1; omega⟩
    · exact ⟨⟨.inr (by omega), by omega⟩, fun e => by have := (hvl b e).2; omega⟩
  have hpl := PU.snoc h2.pl (hx.mono hm) (hy.mono hm) gr ho
  refine ⟨?_, h.lo, ?_, ?_, h.kN, h.kP, ?_, h.base, hpl.store v4 (fun hq => hq.2 rfl) off4, off4⟩
  · exact heap_setCell_same w4 F 0 _ _ v4 (hb4.trans h2.box)
  · exact (h2.hN.grow gr).keeps (keeps_set v4 (fun hq => hq.1.2 rfl))
  · exact (h2.hP.grow gr).keeps (keeps_set v4 (fun hq => hq.1.2 rfl))
  · have h3 : Below W.heap.size W (w2.alloc o) := h2.below.alloc h2.below.size o
    exact (h3.grown hg h3.size (fun q hq => (hvl q hq).1)).setCell (p := ⟨F, 0, none⟩) h.lo v4
/-- The six cells of rules written over. -/
def setU (W : World) (X : Nat) (a b c d e f : Value) : World := (((((W.setCell ⟨X, 0, none⟩ a).setCell ⟨X, 1, none⟩ b).setCell ⟨X, 2, none⟩ c).setCell ⟨X, 3, none⟩ d).setCell ⟨X, 4, none⟩ e).setCell ⟨X, 5, none⟩ f
theorem setU_row {W : World} {X : Nat} {t : TypeId} {a0 b0 c0 d0 e0 f0 : Value} (h : W.heap[X]? = some (.cells #[a0, b0, c0, d0, e0, f0] t (0, 0))) (a b c d e f : Value) : (setU W X a b c d e f).heap[X]? = some (.cells #[a, b, c, d, e, f] t (0, 0)) := by
  unfold setU
  exact heap_setCell_same _ _ 5 _ _ f (heap_setCell_same _ _ 4 _ _ e (heap_setCell_same _ _ 3 _ _ d (heap_setCell_same _ _ 2 _ _ c (heap_setCell_same _ _ 1 _ _ b (heap_setCell_same _ _ 0 _ _ a h)))))
theorem setU_below {B : Nat} {w W : World} {X : Nat} (h : Below B w W) (hX : B ≤ X) (a b c d e f : Value) : Below B w (setU W X a b c d e f) := by
  unfold setU
  exact (((((h.setCell (p := ⟨X, 0, none⟩) hX a).setCell (p := ⟨X, 1, none⟩) hX b).setCell (p := ⟨X, 2, none⟩) hX c).setCell (p := ⟨X, 3, none⟩) hX d).setCell (p := ⟨X, 4, none⟩) hX e).setCell (p := ⟨X, 5, none⟩) hX f
theorem setU_keeps {W : World} {X : Nat} (a b c d e f : Value) : Keeps (fun g => g ≠ X) W (setU W X a b c d e f) := by
  have ho : ∀ g, g ≠ X → (setU W X a b c d e f).heap[g]? = W.heap[g]? := fun g hg => by
    unfold setU
    rw [Below.heap_setCell _ _ _ g hg, Below.heap_setCell _ _ _ g hg, Below.heap_setCell _ _ _ g hg, Below.heap_setCell _ _ _ g hg, Below.heap_setCell _ _ _ g hg, Below.heap_setCell _ _ _ g hg]
  have hs : W.heap.size ≤ (setU W X a b c d e f).heap.size := by unfold setU; simp
  generalize setU W X a b c d e f = V at *
  exact ⟨hs, fun g o hg _ => World.cell?_of_block (w := W) (ho g hg)⟩
/-- What Rules answers: the value, where all lies. -/
structure RuLe (w' : World) (Q : Nat → Prop) (R : List Ru) (N : List ByteArray) (P : List (Int × Int)) (g c gN cN gP cP : Nat) (xs ys : Nat → EV) : Prop where
  ru : RuL w' Q g c R xs ys
  hN : SQ w' Q (some ⟨gN, 0, none⟩) (N ++ [markB])
  hP : RQ w' Q (some ⟨gP, 0, none⟩) (P ++ [(-77, 0)])
  kN : N.length + 1 ≤ cN
  kP : P.length + 1 ≤ cP
theorem RuLe.past {w w' : World} {Q : Nat → Prop} {R : List Ru} {N : List ByteArray} {P : List (Int × Int)} {g c gN cN gP cP : Nat} {xs ys : Nat → EV} (h : RuLe w Q R N P g c gN cN gP cP xs ys) (hb : Below w.heap.size w w') : RuLe w' Q R N P g c gN cN gP cP xs ys :=
  ⟨h.ru.past hb, h.hN.keeps (Keeps.past hb), h.hP.keeps (Keeps.past hb), h.kN, h.kP⟩
def RulesR (w : World) (s : Int) (nt : Bool) (N : List ByteArray) (P : List (Int × Int)) (el : Bool) (R : List Ru) (r : Ending) (w' : World) : Prop := ∃ (g c gN cN gP cP : Nat) (xs ys : Nat → EV), r = .returned (.agg #[.slice (some ⟨g, 0, none⟩) R.length c, .int .i64 s, .bool nt, .slice (some ⟨gN, 0, none⟩) N.length cN, .slice (some ⟨gP, 0, none⟩) P.length cP, .bool el]) ∧ RuLe w' (fun _ => True) R N P g c gN cN gP cP xs ys ∧ Below w.heap.size w w'
theorem UP.done {w w4 : World} {v : Value} {R : List Ru} {zs : List Rm} {g c : Nat} {z : Rm} {o : Obj} (h : UP W wx B F s nt N P el gN cN gP cP v zs) (hR : zs.map (·.u) = R)
    (hg : (wx.alloc o).grownBy w4 v.ownBlock) (hat : (Value.slice (some ⟨g, 0, none⟩) (R.length + 1) c).ownBlock = v.ownBlock ∨ (Value.slice (some ⟨g, 0, none⟩) (R.length + 1) c).ownBlock = some (wx.alloc o).heap.size) (ho : w4.ownsRow W.heap.size 50 14 (.slice (some ⟨g, 0, none⟩) (R.length + 1) c) (R.length + 1) (zs.flatMap rmC ++ rmC z)) (hz : z.u.nm = ⟨#[109, 97, 114, 107]⟩)
    {X : Nat} {T : TypeId} {a0 b0 c0 d0 e0 f0 : Value} (bel : Below w.heap.size w W) (hX : w.heap.size ≤ X) (hXW : W.heap[X]? = some (.cells #[a0, b0, c0, d0, e0, f0] T (0, 0))) (hBX : B ≤ X) :
    ∃ V5 V6 V7, V5 = w4.setCell ⟨F, 0, none⟩ (.slice (some ⟨g, 0, none⟩) (R.length + 1) c) ∧ V6 = V5.setCell ⟨F, 0, none⟩ (.slice (some ⟨g, 0, none⟩) R.length c) ∧ V7 = setU V6 X (.slice (some ⟨g, 0, none⟩) R.length c) (.int .i64 s) (.bool nt) (.slice (some ⟨gN, 0, none⟩) N.length cN) (.slice (some ⟨gP, 0, none⟩) P.length cP) (.bool el) ∧
      R.length + 1 ≤ c ∧ Below W.heap.size W w4 ∧ Below W.heap.size W V5 ∧ Below W.heap.size W V6 ∧ w4.heap[F]? = some (.cells #[v, .int .i64 s, .bool nt, .slice (some ⟨gN, 0, none⟩) N.length cN, .slice (some ⟨gP, 0, none⟩) P.length cP, .bool el] 31 (0, 0)) ∧
      V5.heap[F]? = some (.cells #[.slice (some ⟨g, 0, none⟩) (R.length + 1) c, .int .i64 s, .bool nt, .slice (some ⟨gN, 0, none⟩) N.length cN, .slice (some ⟨gP, 0, none⟩) P.length cP, .bool el] 31 (0, 0)) ∧
      V6.heap[F]? = some (.cells #[.slice (some ⟨g, 0, none⟩) R.length c, .int .i64 s, .bool nt, .slice (some ⟨gN, 0, none⟩) N.length cN, .slice (some ⟨gP, 0, none⟩) P.length cP, .bool el] 31 (0, 0)) ∧
      V7.heap[X]? = some (.cells #[.slice (some ⟨g, 0, none⟩) R.length c, .int .i64 s, .bool nt, .slice (some ⟨gN, 0, none⟩) N.length cN, .slice (some ⟨gP, 0, none⟩) P.length cP, .bool el] T (0, 0)) ∧
      RulesR w s nt N P el R (.returned (.agg #[.slice (some ⟨g, 0, none⟩) R.length c, .int .i64 s, .bool nt, .slice (some ⟨gN, 0, none⟩) N.length cN, .slice (some ⟨gP, 0, none⟩) P.length cP, .bool el])) V7 := by
  have hF := h.F_lt
  have hlo := h.lo
  have hzl : zs.length = R.length := by rw [← hR, List.length_map]
  have gr : Gr wx w4 v (.slice (some ⟨g, 0, none⟩) (R.length + 1) c) := Gr.append ((Below.refl _ wx).alloc (Nat.le_refl _) o) hg hat
  have hvl : ∀ q, v.ownBlock = some q → W.heap.size ≤ q ∧ q < wx.heap.size := fun q hq => World.ownsRow.lt h.pl.own q hq
  have hb4 : w4.heap[F]? = wx.heap[F]? := (hg.block F (by simp; omega) (fun e => h.off e.symm)).trans (Below.heap_alloc wx o F (by omega))
  have off4 : (Value.slice (some ⟨g, 0, none⟩) (R.length + 1) c).ownBlock ≠ some F := fun e4 => by
    rcases hat with q | q
    · rw [q] at e4; exact h.off e4
    · rw [q] at e4; simp at e4; omega
  have hgF : g ≠ F := fun e => off4 (by rw [← e]; rfl)
  have h3 : Below W.heap.size W (wx.alloc o) := h.below.alloc h.below.size o
  have hB4 := h3.grown hg h3.size (fun q hq => (hvl q hq).1)
  have hx4 := hb4.trans h.box
  have hx5 := heap_setCell_same w4 F 0 _ _ (.slice (some ⟨g, 0, none⟩) (R.length + 1) c) hx4
  have hx6 := heap_setCell_same _ F 0 _ _ (.slice (some ⟨g, 0, none⟩) R.length c) hx5
  have hB5 := hB4.setCell (p := ⟨F, 0, none⟩) hlo (.slice (some ⟨g, 0, none⟩) (R.length + 1) c)
  have hB6 := hB5.setCell (p := ⟨F, 0, none⟩) hlo (.slice (some ⟨g, 0, none⟩) R.length c)
  have hcap : R.length + 1 ≤ c ∧ W.heap.size ≤ g := by
    rcases ho.2 with ⟨e, _⟩ | ⟨g', cap, cur, e, h1, _, h2, _⟩
    · cases e
    · cases e; exact ⟨h2, h1⟩
  have hc : ∀ j, j < (R.length + 1) * 14 → w4.cell? ⟨g, j, none⟩ = (zs.flatMap rmC ++ rmC z)[j]? := fun j hj => World.ownsRow.cellAt ho j hj
  have hXl := lt_of_rowC hXW
  have kp : Keeps (fun b => ((b < B ∨ W.heap.size ≤ b) ∧ b ≠ F)) w4 (setU ((w4.setCell ⟨F, 0, none⟩ (.slice (some ⟨g, 0, none⟩) (R.length + 1) c)).setCell ⟨F, 0, none⟩ (.slice (some ⟨g, 0, none⟩) R.length c)) X (.slice (some ⟨g, 0, none⟩) R.length c) (.int .i64 s) (.bool nt) (.slice (some ⟨gN, 0, none⟩) N.length cN) (.slice (some ⟨gP, 0, none⟩) P.length cP) (.bool el)) := by
    have k1 := keeps_set (W := w4) (Q := fun b => ((b < B ∨ W.heap.size ≤ b) ∧ b ≠ F)) (X := F) (o := 0) (.slice (some ⟨g, 0, none⟩) (R.length + 1) c) (fun hq => hq.2 rfl)
    generalize w4.setCell ⟨F, 0, none⟩ (.slice (some ⟨g, 0, none⟩) (R.length + 1) c) = V5 at *
    have k2 := keeps_set (W := V5) (Q := fun b => ((b < B ∨ W.heap.size ≤ b) ∧ b ≠ F)) (X := F) (o := 0) (.slice (some ⟨g, 0, none⟩) R.length c) (fun hq => hq.2 rfl)
    generalize V5.setCell ⟨F, 0, none⟩ (.slice (some ⟨g, 0, none⟩) R.length c) = V6 at *
    have k3 := setU_keeps (W := V6) (X := X) (.slice (some ⟨g, 0, none⟩) R.length c) (.int .i64 s) (.bool nt) (.slice (some ⟨gN, 0, none⟩) N.length cN) (.slice (some ⟨gP, 0, none⟩) P.length cP) (.bool el)
    exact ⟨Nat.le_trans k1.size (Nat.le_trans k2.size k3.size), fun b o' hq hl => (k3.cell b o' (by rcases hq.1 with q | q <;> omega) (Nat.lt_of_lt_of_le hl (Nat.le_trans k1.size k2.size))).trans ((k2.cell b o' hq (Nat.lt_of_lt_of_le hl k1.size)).trans (k1.cell b o' hq hl))⟩
  have hX6 : ((w4.setCell ⟨F, 0, none⟩ (.slice (some ⟨g, 0, none⟩) (R.length + 1) c)).setCell ⟨F, 0, none⟩ (.slice (some ⟨g, 0, none⟩) R.length c)).heap[X]? = some (.cells #[a0, b0, c0, d0, e0, f0] T (0, 0)) := (hB6.block X hXl).trans hXW
  have hat' : ∀ i (hi : i < R.length), Ft w4 g (i * 14) R[i] (zs[i]'(by omega)).x (zs[i]'(by omega)).y := fun i hi => by
    have hi' : i < zs.length := by omega
    have eu : R[i] = zs[i].u := by subst hR; simp
    rw [eu]
    refine Ft.of fun j hj => ?_
    have hlt : i * 14 + j < zs.length * 14 := by have := Nat.mul_le_mul_right 14 (Nat.succ_le_of_lt hi'); omega
    rw [hc (i * 14 + j) (by omega), List.getElem?_append_left (by rw [flatR_len]; omega), flatR zs i j hi' hj]
    rfl
  refine ⟨_, _, _, rfl, rfl, rfl, hcap.1, hB4, hB5, hB6, hx4, hx5, hx6, setU_row hX6 _ _ _ _ _ _, g, c, gN, cN, gP, cP, fun i => (zs.getD i z).x, fun i => (zs.getD i z).y, rfl, ⟨⟨fun i hi => ?_, fun i hi => ?_, fun i hi => ?_, hcap.1, ?_⟩, ?_, ?_, h.kN, h.kP⟩, setU_below (Below.later bel hB6) hX _ _ _ _ _ _⟩
  · have hi' : i < zs.length := by omega
    have h1 := (hat' i hi).keeps (Q := fun b => ((b < B ∨ W.heap.size ≤ b) ∧ b ≠ F)) ⟨.inr hcap.2, hgF⟩ kp
    simp only [List.getD_eq_getElem?_getD, List.getElem?_eq_getElem hi']
    exact h1
  · have hi' : i < zs.length := by omega
    have eu : R[i] = zs[i].u := by subst hR; simp
    have h1 := ((h.pl.is zs[i] (List.getElem_mem hi')).1.grow gr).mono (Q' := fun b => ((b < B ∨ W.heap.size ≤ b) ∧ b ≠ F)) (fun b _ hq => hq.1)
    simp only [List.getD_eq_getElem?_getD, List.getElem?_eq_getElem hi']
    rw [eu]
    exact (h1.keeps kp).mono (fun _ _ _ => trivial)
  · have hi' : i < zs.length := by omega
    have eu : R[i] = zs[i].u := by subst hR; simp
    have h1 := ((h.pl.is zs[i] (List.getElem_mem hi')).2.grow gr).mono (Q' := fun b => ((b < B ∨ W.heap.size ≤ b) ∧ b ≠ F)) (fun b _ hq => hq.1)
    simp only [List.getD_eq_getElem?_getD, List.getElem?_eq_getElem hi']
    rw [eu]
    exact (h1.keeps kp).mono (fun _ _ _ => trivial)
  · have h1 : w4.cell? ⟨g, R.length * 14, none⟩ = some (.string ⟨#[109, 97, 114, 107]⟩) := by
      rw [hc (R.length * 14) (by omega), List.getElem?_append_right (by rw [flatR_len]; omega), flatR_len, hzl, Nat.sub_self, ← hz]
      rfl
    exact (kp.cell g _ ⟨.inr hcap.2, hgF⟩ (World.block_lt_of_cell? w4 _ h1)).trans h1
  · exact (((h.hN.grow gr).mono (Q' := fun b => ((b < B ∨ W.heap.size ≤ b) ∧ b ≠ F)) (fun b _ hq => ⟨.inr hq.1.1, hq.1.2⟩)).keeps kp).mono (fun _ _ _ => trivial)
  · exact (((h.hP.grow gr).mono (Q' := fun b => ((b < B ∨ W.heap.size ≤ b) ∧ b ≠ F)) (fun b _ hq => ⟨.inr hq.1.1, hq.1.2⟩)).keeps kp).mono (fun _ _ _ => trivial)
end
end Go.Proofs.Ythcpalpcakjfnaa
