/-
  Expressions in memory.
-/
import Derived.Test.YthcpalpcakjfnaaExM
namespace Go.Proofs.Ythcpalpcakjfnaa
open Go.RowKit Go.Shelf
/-- An expression as a value. -/
structure EV where
  k : Value
  t : Value
  n : Value
  p : Value
  r : Value
def EV.v (x : EV) : Value := .agg #[x.k, x.t, x.n, x.p, x.r]
/-- Five cells that hold an expression. -/
structure Five (w : World) (g o : Nat) (x : EV) : Prop where
  k : w.cell? ⟨g, o, none⟩ = some x.k
  t : w.cell? ⟨g, o + 1, none⟩ = some x.t
  n : w.cell? ⟨g, o + 2, none⟩ = some x.n
  p : w.cell? ⟨g, o + 3, none⟩ = some x.p
  r : w.cell? ⟨g, o + 4, none⟩ = some x.r
/-- Two worlds that agree on the blocks that Q says. -/
structure Keeps (Q : Nat → Prop) (w w' : World) : Prop where
  size : w.heap.size ≤ w'.heap.size
  cell : ∀ g o, Q g → g < w.heap.size → w'.cell? ⟨g, o, none⟩ = w.cell? ⟨g, o, none⟩
theorem Keeps.ofBelow {B : Nat} {w w' : World} (h : Below B w w') : Keeps (fun g => g < B) w w' := ⟨h.size, fun g o hg _ => h.cell (p := ⟨g, o, none⟩) hg⟩
theorem Five.keeps {Q : Nat → Prop} {w w' : World} {g o : Nat} {x : EV} (h : Five w g o x) (hq : Q g) (hk : Keeps Q w w') : Five w' g o x :=
  have l := World.block_lt_of_cell? w _ h.k
  ⟨(hk.cell g _ hq l).trans h.k, (hk.cell g _ hq l).trans h.t, (hk.cell g _ hq l).trans h.n, (hk.cell g _ hq l).trans h.p, (hk.cell g _ hq l).trans h.r⟩
/-- Texts in memory, in blocks that Q says. -/
structure SQ (w : World) (Q : Nat → Prop) (a : Option Addr) (L : List ByteArray) : Prop where
  at' : ∀ k (h : k < L.length), ∃ b off, a = some ⟨b, off, none⟩ ∧ Q b ∧ b < w.heap.size ∧ w.cell? ⟨b, off + k, none⟩ = some (.string L[k])
structure RQ (w : World) (Q : Nat → Prop) (a : Option Addr) (l : List (Int × Int)) : Prop where
  at' : ∀ k (h : k < l.length), ∃ b off, a = some ⟨b, off, none⟩ ∧ Q b ∧ w.cell? ⟨b, off + k * 2, none⟩ = some (.int .i64 l[k].1) ∧ w.cell? ⟨b, off + k * 2 + 1, none⟩ = some (.int .i64 l[k].2)
theorem SQ.sa {w : World} {Q : Nat → Prop} {a : Option Addr} {L : List ByteArray} (h : SQ w Q a L) : SA w a L := ⟨fun k hk => by
  obtain ⟨b, off, e, _, h1, h2⟩ := h.at' k hk
  exact ⟨b, off, e, h1, h2⟩⟩
theorem RQ.ra {w : World} {Q : Nat → Prop} {a : Option Addr} {l : List (Int × Int)} (h : RQ w Q a l) : RA w a l := ⟨fun k hk => by
  obtain ⟨b, off, e, _, h1, h2⟩ := h.at' k hk
  exact ⟨b, off, e, h1, h2⟩⟩
theorem SQ.keeps {w w' : World} {Q : Nat → Prop} {a : Option Addr} {L : List ByteArray} (h : SQ w Q a L) (hk : Keeps Q w w') : SQ w' Q a L := ⟨fun k hl => by
  obtain ⟨b, off, e, hq, h1, h2⟩ := h.at' k hl
  exact ⟨b, off, e, hq, Nat.lt_of_lt_of_le h1 hk.size, (hk.cell b _ hq h1).trans h2⟩⟩
theorem RQ.keeps {w w' : World} {Q : Nat → Prop} {a : Option Addr} {l : List (Int × Int)} (h : RQ w Q a l) (hk : Keeps Q w w') : RQ w' Q a l := ⟨fun k hl => by
  obtain ⟨b, off, e, hq, h1, h2⟩ := h.at' k hl
  exact ⟨b, off, e, hq, (hk.cell b _ hq (World.block_lt_of_cell? w _ h1)).trans h1, (hk.cell b _ hq (World.block_lt_of_cell? w _ h2)).trans h2⟩⟩
theorem SQ.nil (w : World) (Q : Nat → Prop) (a : Option Addr) : SQ w Q a [] := ⟨fun _ h => absurd h (Nat.not_lt_zero _)⟩
theorem RQ.nil (w : World) (Q : Nat → Prop) (a : Option Addr) : RQ w Q a [] := ⟨fun _ h => absurd h (Nat.not_lt_zero _)⟩
/-- An expression in memory, in blocks that Q says; lists of a thousand million at most. -/
inductive ExIs (w : World) (Q : Nat → Prop) : Ex → EV → Prop
  | mk (k : Int) (nt : Bool) (N : List ByteArray) (P : List (Int × Int)) (L : List Ex) (a : Option Addr) (ca : Nat) (b : Option Addr) (cb : Nat) (c : Option Addr) (cc : Nat) (vs : Nat → EV)
    (hN : SQ w Q a N) (hP : RQ w Q b P) (lN : N.length ≤ 1000000000) (lP : P.length ≤ 1000000000) (lL : L.length ≤ 1000000000)
    (hL : ∀ i, i < L.length → ∃ g off, c = some ⟨g, off, none⟩ ∧ Q g ∧ Five w g (off + i * 5) (vs i))
    (hR : ∀ i (h : i < L.length), ExIs w Q L[i] (vs i)) :
    ExIs w Q (.mk k nt N P L) ⟨.int .i64 k, .bool nt, .slice a N.length ca, .slice b P.length cb, .slice c L.length cc⟩
theorem ExIs.keeps {w w' : World} {Q : Nat → Prop} (hk : Keeps Q w w') {e : Ex} {x : EV} (h : ExIs w Q e x) : ExIs w' Q e x := by
  induction h with
  | mk k nt N P L a ca b cb c cc vs hN hP lN lP lL hL hR ih =>
    exact .mk k nt N P L a ca b cb c cc vs (hN.keeps hk) (hP.keeps hk) lN lP lL (fun i hi => by
      obtain ⟨g, off, e, hq, h5⟩ := hL i hi
      exact ⟨g, off, e, hq, h5.keeps hq hk⟩) ih
theorem ExIs.mono {w : World} {Q Q' : Nat → Prop} (hk : ∀ g, g < w.heap.size → Q g → Q' g) {e : Ex} {x : EV} (h : ExIs w Q e x) : ExIs w Q' e x := by
  induction h with
  | mk k nt N P L a ca b cb c cc vs hN hP lN lP lL hL hR ih =>
    exact .mk k nt N P L a ca b cb c cc vs ⟨fun k hk' => by
        obtain ⟨b, off, e, hq, h1, h2⟩ := hN.at' k hk'
        exact ⟨b, off, e, hk b h1 hq, h1, h2⟩⟩ ⟨fun k hk' => by
        obtain ⟨b, off, e, hq, h1, h2⟩ := hP.at' k hk'
        exact ⟨b, off, e, hk b (World.block_lt_of_cell? w _ h1) hq, h1, h2⟩⟩ lN lP lL (fun i hi => by
      obtain ⟨g, off, e, hq, h5⟩ := hL i hi
      exact ⟨g, off, e, hk g (World.block_lt_of_cell? w _ h5.k) hq, h5⟩) ih
/-- Whatever was laid is kept where nothing below the heap's size has turned. -/
theorem ExIs.past {w w' : World} {Q : Nat → Prop} (hb : Below w.heap.size w w') {e : Ex} {x : EV} (h : ExIs w Q e x) : ExIs w' Q e x :=
  h.keeps ⟨hb.size, fun g o _ hl => hb.cell (p := ⟨g, o, none⟩) hl⟩
theorem ExIs.shape {w : World} {Q : Nat → Prop} {k : Int} {nt : Bool} {N : List ByteArray} {P : List (Int × Int)} {L : List Ex} {x : EV} (h : ExIs w Q (.mk k nt N P L) x) : ∃ a ca b cb c cc, x = ⟨.int .i64 k, .bool nt, .slice a N.length ca, .slice b P.length cb, .slice c L.length cc⟩ ∧ SQ w Q a N ∧ RQ w Q b P ∧ N.length ≤ 1000000000 ∧ P.length ≤ 1000000000 ∧ L.length ≤ 1000000000 ∧
    ∃ vs : Nat → EV, (∀ i, i < L.length → ∃ g off, c = some ⟨g, off, none⟩ ∧ Q g ∧ Five w g (off + i * 5) (vs i)) ∧ ∀ i (h : i < L.length), ExIs w Q L[i] (vs i) := by
  cases h with
  | mk _ _ _ _ _ a ca b cb c cc vs hN hP lN lP lL hL hR => exact ⟨a, ca, b, cb, c, cc, rfl, hN, hP, lN, lP, lL, vs, hL, hR⟩
end Go.Proofs.Ythcpalpcakjfnaa
