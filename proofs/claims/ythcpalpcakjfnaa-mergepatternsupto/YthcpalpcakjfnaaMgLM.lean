/-
  The variable of lent while it is being made.
-/
import Derived.Test.YthcpalpcakjfnaaMgEM
namespace Go.Proofs.Ythcpalpcakjfnaa
open Go.RowKit Go.Shelf
theorem infoExpr : (Try.prog.info? 48).map (fun i => (i.zero, i.size, i.bytes)) = some (some (.agg #[.int .i64 0, .bool false, .slice none 0 0, .slice none 0 0, .slice none 0 0]), 5, 88) := by kernel_rfl
theorem SQ.grow {W w4 : World} {Q : Nat → Prop} {v v4 : Value} {a : Option Addr} {N : List ByteArray} (h : SQ W (fun b => Q b ∧ v.ownBlock ≠ some b) a N) (g : Gr W w4 v v4) : SQ w4 (fun b => Q b ∧ v4.ownBlock ≠ some b) a N := by
  have h1 : SQ W (fun b => (Q b ∧ v.ownBlock ≠ some b) ∧ v4.ownBlock ≠ some b) a N := h.mono (fun b hl hq => ⟨hq, fun e => by
    rcases g.at' b e with q | q
    · exact hq.2 q
    · omega⟩)
  have h2 := h1.keeps (w' := w4) ⟨g.grow.size, fun b o hq hl => World.cell?_of_block (w := W) (g.grow.block b hl (fun e => hq.1.2 e.symm))⟩
  exact h2.mono (fun b _ hq => ⟨hq.1.1, hq.2⟩)
theorem RQ.grow {W w4 : World} {Q : Nat → Prop} {v v4 : Value} {a : Option Addr} {N : List (Int × Int)} (h : RQ W (fun b => Q b ∧ v.ownBlock ≠ some b) a N) (g : Gr W w4 v v4) : RQ w4 (fun b => Q b ∧ v4.ownBlock ≠ some b) a N := by
  have h1 : RQ W (fun b => (Q b ∧ v.ownBlock ≠ some b) ∧ v4.ownBlock ≠ some b) a N := h.mono (fun b hl hq => ⟨hq, fun e => by
    rcases g.at' b e with q | q
    · exact hq.2 q
    · omega⟩)
  have h2 := h1.keeps (w' := w4) ⟨g.grow.size, fun b o hq hl => World.cell?_of_block (w := W) (g.grow.block b hl (fun e => hq.1.2 e.symm))⟩
  exact h2.mono (fun b _ hq => ⟨hq.1.1, hq.2⟩)
theorem keeps_set {W : World} {Q : Nat → Prop} {X o : Nat} (u : Value) (hX : ¬ Q X) : Keeps Q W (W.setCell ⟨X, o, none⟩ u) :=
  ⟨by simp [World.setCell], fun g o' hq _ => World.cell?_of_block (w := W) (a := ⟨g, o', none⟩) (Below.heap_setCell W _ u g (fun e => hX (by rw [← show g = X from e]; exact hq)))⟩
/-- f, and the parts that it has so far. -/
structure LP (W wx : World) (B F : Nat) (k : Int) (nt : Bool) (N : List ByteArray) (P : List (Int × Int)) (gN cN gP cP n : Nat) (v : Value) (L : List Ex) (xs : List EV) : Prop where
  box : wx.heap[F]? = some (.cells #[.int .i64 k, .bool nt, .slice (some ⟨gN, 0, none⟩) N.length cN, .slice (some ⟨gP, 0, none⟩) P.length cP, v] 48 (0, 0))
  lo : W.heap.size ≤ F
  hN : SQ wx (fun b => (W.heap.size ≤ b ∧ b ≠ F) ∧ v.ownBlock ≠ some b) (some ⟨gN, 0, none⟩) (N ++ [markB])
  hP : RQ wx (fun b => (W.heap.size ≤ b ∧ b ≠ F) ∧ v.ownBlock ≠ some b) (some ⟨gP, 0, none⟩) (P ++ [(-77, 0)])
  kN : N.length + 1 ≤ cN
  kP : P.length + 1 ≤ cP
  below : Below W.heap.size W wx
  base : B ≤ W.heap.size
  pl : PL wx W.heap.size (fun b => (b < B ∨ W.heap.size ≤ b) ∧ b ≠ F) n v L xs
  off : v.ownBlock ≠ some F
theorem LP.past {W wx w' : World} {B F : Nat} {k : Int} {nt : Bool} {N : List ByteArray} {P : List (Int × Int)} {gN cN gP cP n : Nat} {v : Value} {L : List Ex} {xs : List EV} (h : LP W wx B F k nt N P gN cN gP cP n v L xs) (hb : Below wx.heap.size wx w') : LP W w' B F k nt N P gN cN gP cP n v L xs :=
  ⟨kept hb h.box, h.lo, h.hN.keeps (Keeps.past hb), h.hP.keeps (Keeps.past hb), h.kN, h.kP, Below.later h.below hb, h.base, h.pl.past hb, h.off⟩
theorem LP.start {W wx : World} {B F : Nat} {k : Int} {nt : Bool} {N : List ByteArray} {P : List (Int × Int)} {gN cN gP cP : Nat} (n : Nat) (hB : B ≤ W.heap.size) (hF : W.heap.size ≤ F) (hbox : wx.heap[F]? = some (.cells #[.int .i64 k, .bool nt, .slice (some ⟨gN, 0, none⟩) N.length cN, .slice (some ⟨gP, 0, none⟩) P.length cP, .slice none 0 0] 48 (0, 0)))
    (hN : SQ wx (fun b => W.heap.size ≤ b ∧ b ≠ F) (some ⟨gN, 0, none⟩) (N ++ [markB])) (hP : RQ wx (fun b => W.heap.size ≤ b ∧ b ≠ F) (some ⟨gP, 0, none⟩) (P ++ [(-77, 0)])) (kN : N.length + 1 ≤ cN) (kP : P.length + 1 ≤ cP) (hb : Below W.heap.size W wx) :
    LP W wx B F k nt N P gN cN gP cP n (.slice none 0 0) [] [] :=
  ⟨hbox, hF, hN.mono (fun _ _ h => ⟨h, (fun e => by cases e)⟩), hP.mono (fun _ _ h => ⟨h, (fun e => by cases e)⟩), kN, kP, hb, hB, PL.nil _ _ _ _, (fun e => by cases e)⟩
/-- What was made by Set, in a world that keeps it: for an f that was made ahead of it, and is stored now. -/
theorem set_qs {N : List ByteArray} {P : List (Int × Int)} {w w1 : World} {gN cN gP cP : Nat} (h1 : OwnS w1 w.heap.size (.slice (some ⟨gN, 0, none⟩) (N.length + 1) cN) (N ++ [markB])) (h2 : OwnR w1 w.heap.size (.slice (some ⟨gP, 0, none⟩) (P.length + 1) cP) (P ++ [(-77, 0)])) :
    SQ w1 (fun b => w.heap.size ≤ b) (some ⟨gN, 0, none⟩) (N ++ [markB]) ∧ RQ w1 (fun b => w.heap.size ≤ b) (some ⟨gP, 0, none⟩) (P ++ [(-77, 0)]) ∧ N.length + 1 ≤ cN ∧ P.length + 1 ≤ cP := by
  obtain ⟨a, ca, e, hs, hb, hc⟩ := h1.sa
  have e1 : (N ++ [markB]).length = N.length + 1 := by simp
  have e2 : (P ++ [((-77 : Int), (0 : Int))]).length = P.length + 1 := by simp
  rw [e1] at e hc
  cases e
  obtain ⟨a, cb, e, hr⟩ := h2.ra
  rw [e2] at e
  cases e
  have hk : P.length + 1 ≤ cP ∧ w.heap.size ≤ gP := by
    have h2' := h2
    unfold OwnR at h2'
    rw [e2] at h2'
    rcases h2'.2 with ⟨e, _⟩ | ⟨g', cap, cur, e, h1, _, h3, _⟩
    · cases e
    · cases e; exact ⟨h3, h1⟩
  refine ⟨⟨fun k hk => ?_⟩, ⟨fun k hk' => ?_⟩, hc, hk.1⟩
  · obtain ⟨b, off, e, q1, q2⟩ := hs.at' k hk
    exact ⟨b, off, e, (by have := hb _ rfl; cases e; exact this), q1, q2⟩
  · obtain ⟨b, off, e, q1, q2⟩ := hr.at' k hk'
    exact ⟨b, off, e, (by cases e; exact hk.2), q1, q2⟩
theorem LP.F_lt {W wx : World} {B F : Nat} {k : Int} {nt : Bool} {N : List ByteArray} {P : List (Int × Int)} {gN cN gP cP n : Nat} {v : Value} {L : List Ex} {xs : List EV} (h : LP W wx B F k nt N P gN cN gP cP n v L xs) : F < wx.heap.size := lt_of_rowC h.box
/-- One part more. -/
theorem LP.step {W wr w2 w4 : World} {B F : Nat} {k : Int} {nt : Bool} {N : List ByteArray} {P : List (Int × Int)} {gN cN gP cP n : Nat} {v v4 : Value} {L : List Ex} {xs : List EV} {e : Ex} {y : EV} {o : Obj} (h : LP W wr B F k nt N P gN cN gP cP n v L xs) (hb : Below wr.heap.size wr w2) (hy : ExL w2 (fun g => g < B ∨ wr.heap.size ≤ g) n e y)
    (hg : (w2.alloc o).grownBy w4 v.ownBlock) (hat : v4.ownBlock = v.ownBlock ∨ v4.ownBlock = some (w2.alloc o).heap.size) (ho : w4.ownsRow W.heap.size 48 5 v4 (L.length + 1) (xs.flatMap evC ++ evC y)) :
    LP W (w4.setCell ⟨F, 4, none⟩ v4) B F k nt N P gN cN gP cP n v4 (L ++ [e]) (xs ++ [y]) := by
  have hF := h.F_lt
  have hs := hb.size
  have h2 := h.past hb
  have gr : Gr w2 w4 v v4 := Gr.append ((Below.refl _ w2).alloc (Nat.le_refl _) o) hg hat
  have hvl : ∀ q, v.ownBlock = some q → W.heap.size ≤ q ∧ q < wr.heap.size := fun q hq => World.ownsRow.lt h.pl.own q hq
  have off4 : v4.ownBlock ≠ some F := fun e4 => by
    rcases hat with q | q
    · rw [q] at e4; exact h.off e4
    · rw [q] at e4; simp at e4; omega
  have hb4 : w4.heap[F]? = w2.heap[F]? := (hg.block F (by simp; omega) (fun e => h.off e.symm)).trans (Below.heap_alloc w2 o F (by omega))
  have hx : ExL w2 (fun b => ((b < B ∨ W.heap.size ≤ b) ∧ b ≠ F) ∧ v.ownBlock ≠ some b) n e y := hy.mono (fun b _ hq => by
    have hbs := h.base
    have hlo := h.lo
    have hbw := h.below.size
    rcases hq with hq | hq
    · exact ⟨⟨.inl hq, by omega⟩, fun e => by have := (hvl b e).1; omega⟩
    · exact ⟨⟨.inr (by omega), by omega⟩, fun e => by have := (hvl b e).2; omega⟩)
  have hpl := PL.snoc h2.pl hx gr ho
  refine ⟨?_, h.lo, ?_, ?_, h.kN, h.kP, ?_, h.base, hpl.store v4 (fun hq => hq.2 rfl) off4, off4⟩
  · exact heap_setCell_same w4 F 4 _ _ v4 (hb4.trans h2.box)
  · exact (h2.hN.grow gr).keeps (keeps_set v4 (fun hq => hq.1.2 rfl))
  · exact (h2.hP.grow gr).keeps (keeps_set v4 (fun hq => hq.1.2 rfl))
  · have h3 : Below W.heap.size W (w2.alloc o) := h2.below.alloc h2.below.size o
    exact (h3.grown hg h3.size (fun q hq => (hvl q hq).1)).setCell (p := ⟨F, 4, none⟩) h.lo v4
/-- All parts are there, a mark is put behind them, the slice is cut again. -/
theorem LP.done {w W wr w4 : World} {B F : Nat} {k : Int} {nt : Bool} {N : List ByteArray} {P : List (Int × Int)} {gN cN gP cP n : Nat} {v : Value} {L : List Ex} {xs : List EV} {g c : Nat} {z : EV} {o : Obj} (h : LP W wr B F k nt N P gN cN gP cP n v L xs)
    (hg : (wr.alloc o).grownBy w4 v.ownBlock) (hat : (Value.slice (some ⟨g, 0, none⟩) (L.length + 1) c).ownBlock = v.ownBlock ∨ (Value.slice (some ⟨g, 0, none⟩) (L.length + 1) c).ownBlock = some (wr.alloc o).heap.size) (ho : w4.ownsRow W.heap.size 48 5 (.slice (some ⟨g, 0, none⟩) (L.length + 1) c) (L.length + 1) (xs.flatMap evC ++ evC z)) (hz : z.k = .int .i64 (-77))
    (lN : N.length ≤ 100000000) (lP : P.length ≤ 100000000) (lL : L.length ≤ 100000000) {X : Nat} {T : TypeId} {a0 b0 c0 d0 e0 : Value} (bel : Below w.heap.size w W) (hX : w.heap.size ≤ X) (hXW : W.heap[X]? = some (.cells #[a0, b0, c0, d0, e0] T (0, 0))) (hBw : B ≤ w.heap.size) :
    ∃ V5 V6 V7, V5 = w4.setCell ⟨F, 4, none⟩ (.slice (some ⟨g, 0, none⟩) (L.length + 1) c) ∧ V6 = V5.setCell ⟨F, 4, none⟩ (.slice (some ⟨g, 0, none⟩) L.length c) ∧ V7 = setE V6 X (.int .i64 k) (.bool nt) (.slice (some ⟨gN, 0, none⟩) N.length cN) (.slice (some ⟨gP, 0, none⟩) P.length cP) (.slice (some ⟨g, 0, none⟩) L.length c) ∧
      L.length + 1 ≤ c ∧ Below W.heap.size W w4 ∧ Below W.heap.size W V5 ∧ Below W.heap.size W V6 ∧ w4.heap[F]? = some (.cells #[.int .i64 k, .bool nt, .slice (some ⟨gN, 0, none⟩) N.length cN, .slice (some ⟨gP, 0, none⟩) P.length cP, v] 48 (0, 0)) ∧
      V5.heap[F]? = some (.cells #[.int .i64 k, .bool nt, .slice (some ⟨gN, 0, none⟩) N.length cN, .slice (some ⟨gP, 0, none⟩) P.length cP, .slice (some ⟨g, 0, none⟩) (L.length + 1) c] 48 (0, 0)) ∧
      V6.heap[F]? = some (.cells #[.int .i64 k, .bool nt, .slice (some ⟨gN, 0, none⟩) N.length cN, .slice (some ⟨gP, 0, none⟩) P.length cP, .slice (some ⟨g, 0, none⟩) L.length c] 48 (0, 0)) ∧
      V7.heap[X]? = some (.cells #[.int .i64 k, .bool nt, .slice (some ⟨gN, 0, none⟩) N.length cN, .slice (some ⟨gP, 0, none⟩) P.length cP, .slice (some ⟨g, 0, none⟩) L.length c] T (0, 0)) ∧
      LentR w B (n + 1) (.mk k nt N P L) (.returned (.agg #[.int .i64 k, .bool nt, .slice (some ⟨gN, 0, none⟩) N.length cN, .slice (some ⟨gP, 0, none⟩) P.length cP, .slice (some ⟨g, 0, none⟩) L.length c])) V7 := by
  have hF := h.F_lt
  have hlo := h.lo
  have hbs := h.base
  have gr : Gr wr w4 v (.slice (some ⟨g, 0, none⟩) (L.length + 1) c) := Gr.append ((Below.refl _ wr).alloc (Nat.le_refl _) o) hg hat
  have hvl : ∀ q, v.ownBlock = some q → W.heap.size ≤ q ∧ q < wr.heap.size := fun q hq => World.ownsRow.lt h.pl.own q hq
  have hb4 : w4.heap[F]? = wr.heap[F]? := (hg.block F (by simp; omega) (fun e => h.off e.symm)).trans (Below.heap_alloc wr o F (by omega))
  have off4 : (Value.slice (some ⟨g, 0, none⟩) (L.length + 1) c).ownBlock ≠ some F := fun e4 => by
    rcases hat with q | q
    · rw [q] at e4; exact h.off e4
    · rw [q] at e4; simp at e4; omega
  have h3 : Below W.heap.size W (wr.alloc o) := h.below.alloc h.below.size o
  have hB4 := h3.grown hg h3.size (fun q hq => (hvl q hq).1)
  have hx4 := hb4.trans h.box
  have hx5 := heap_setCell_same w4 F 4 _ _ (.slice (some ⟨g, 0, none⟩) (L.length + 1) c) hx4
  have hx6 := heap_setCell_same _ F 4 _ _ (.slice (some ⟨g, 0, none⟩) L.length c) hx5
  have hB5 := hB4.setCell (p := ⟨F, 4, none⟩) hlo (.slice (some ⟨g, 0, none⟩) (L.length + 1) c)
  have hB6 := hB5.setCell (p := ⟨F, 4, none⟩) hlo (.slice (some ⟨g, 0, none⟩) L.length c)
  obtain ⟨hcap, hE⟩ := PL.done (k := k) (nt := nt) h.pl gr ho hz ((h.hN.grow gr).mono (fun b _ hq => ⟨.inr hq.1.1, hq.1.2⟩)) ((h.hP.grow gr).mono (fun b _ hq => ⟨.inr hq.1.1, hq.1.2⟩)) lN lP lL h.kN h.kP (fun hb => ⟨.inr hb, fun e => off4 (by rw [← e]; rfl)⟩)
  have hE6 := (hE.keeps (keeps_set (X := F) (o := 4) (.slice (some ⟨g, 0, none⟩) (L.length + 1) c) (fun hq => hq.2 rfl))).keeps (keeps_set (X := F) (o := 4) (.slice (some ⟨g, 0, none⟩) L.length c) (fun hq => hq.2 rfl))
  have hXl := lt_of_rowC hXW
  generalize hV5 : w4.setCell ⟨F, 4, none⟩ (.slice (some ⟨g, 0, none⟩) (L.length + 1) c) = V5 at *
  generalize hV6 : V5.setCell ⟨F, 4, none⟩ (.slice (some ⟨g, 0, none⟩) L.length c) = V6 at *
  have hX6 : V6.heap[X]? = some (.cells #[a0, b0, c0, d0, e0] T (0, 0)) := (hB6.block X hXl).trans hXW
  refine ⟨V5, V6, _, rfl, hV6.symm, rfl, hcap, hB4, hB5, hB6, hx4, hx5, hx6, setE_row hX6 _ _ _ _ _, ⟨⟨.int .i64 k, .bool nt, .slice (some ⟨gN, 0, none⟩) N.length cN, .slice (some ⟨gP, 0, none⟩) P.length cP, .slice (some ⟨g, 0, none⟩) L.length c⟩, rfl, ?_, setE_below (Below.later bel hB6) hX _ _ _ _ _⟩⟩
  have hk := setE_keeps (W := V6) (X := X) (.int .i64 k) (.bool nt) (.slice (some ⟨gN, 0, none⟩) N.length cN) (.slice (some ⟨gP, 0, none⟩) P.length cP) (.slice (some ⟨g, 0, none⟩) L.length c)
  exact (hE6.keeps ⟨hk.size, fun b o' hq hl => hk.cell b o' (by rcases hq.1 with q | q <;> omega) hl⟩).mono (fun b _ hq => hq.1.imp id (fun q => Nat.le_trans bel.size q))
end Go.Proofs.Ythcpalpcakjfnaa
