/-
  What lies in memory: spans, strings, blocks; what a call leaves alone.
-/
import Derived.Test.YtpimameogmkpcaaDoorProg
import Derived.Test.YtpimameogmkpcaaDoorPbM
import Derived.WalkKit
import Derived.WalkSpells
import Derived.WalkLawsBesides
import Derived.Handy
import Derived.Maps.AppendAt
import Derived.Deep.QuietTactic
import Derived.BigQuiet
import Derived.Shelf.Abstract
import Derived.Deep.MidRow
import Derived.Deep.WholeRow
namespace Go.Proofs.YtpimameogmkpcaaDoor
open Go.RowKit
theorem hid0 {p : Prop} (h : p) : Hid p := h
/-- w' is w, but for new blocks and the blocks of S. -/
structure Only (w w' : World) (S : Nat → Prop) : Prop where
  os : w'.os = w.os
  tape : w'.tape = w.tape
  output : w'.output = w.output
  size : w.heap.size ≤ w'.heap.size
  block : ∀ k, k < w.heap.size → ¬ S k → w'.heap[k]? = w.heap[k]?
theorem Only.refl (w : World) (S : Nat → Prop) : Only w w S := ⟨rfl, rfl, rfl, Nat.le_refl _, fun _ _ _ => rfl⟩
theorem Only.trans {a b c : World} {S T : Nat → Prop} (h : Only a b S) (k : Only b c T) (hT : ∀ i, T i → S i ∨ a.heap.size ≤ i) : Only a c S :=
  ⟨k.os.trans h.os, k.tape.trans h.tape, k.output.trans h.output, Nat.le_trans h.size k.size, fun i hi hS =>
    (k.block i (Nat.lt_of_lt_of_le hi h.size) (fun ht => (hT i ht).elim hS (fun h => absurd hi (Nat.not_lt.2 h)))).trans (h.block i hi hS)⟩
theorem Only.drewN (w : World) (n : Nat) (S : Nat → Prop) : Only w (w.drewN n) S := ⟨rfl, rfl, rfl, Nat.le_refl _, fun _ _ _ => rfl⟩
theorem Only.alloc (w : World) (o : Obj) (S : Nat → Prop) : Only w (w.alloc o) S := ⟨rfl, rfl, rfl, by simp, fun k hk _ => Below.heap_alloc w o k hk⟩
theorem Only.setCell (w : World) (b off : Nat) (u : Value) : Only w (w.setCell ⟨b, off, none⟩ u) (fun k => k = b) := ⟨rfl, rfl, rfl, by simp [World.setCell], fun k _ h => Below.heap_setCell w _ u k h⟩
theorem Only.mono {w w' : World} {S T : Nat → Prop} (h : Only w w' S) (hs : ∀ i, S i → T i) : Only w w' T := ⟨h.os, h.tape, h.output, h.size, fun i hi ht => h.block i hi (fun s => ht (hs i s))⟩
theorem Only.below {w w' : World} {S : Nat → Prop} {B : Nat} (h : Only w w' S) (hB : B ≤ w.heap.size) (hs : ∀ i, S i → B ≤ i) : Below B w w' :=
  ⟨h.os, h.tape, h.output, h.size, fun i hi => h.block i (by omega) (fun s => by have := hs i s; omega)⟩
theorem Only.ofBelow {w w' : World} {B : Nat} (h : Below B w w') (S : Nat → Prop) (hs : ∀ i, B ≤ i → i < w.heap.size → S i) : Only w w' S :=
  ⟨h.os, h.tape, h.output, h.size, fun i hi hn => h.block i (Nat.lt_of_not_le fun hb => hn (hs i hb hi))⟩
theorem Only.cell {w w' : World} {S : Nat → Prop} (h : Only w w' S) {p : Addr} (hp : p.block < w.heap.size) (hn : ¬ S p.block) : w'.cell? p = w.cell? p := World.cell?_of_block (w := w) (h.block p.block hp hn)
/-- Spans in memory, each where it is asked. -/
structure PA (w : World) (a : Option Addr) (l : List Sp) : Prop where
  at' : ∀ k (h : k < l.length), ∃ b off, a = some ⟨b, off, none⟩ ∧ b < w.heap.size ∧ w.cell? ⟨b, off + k * 3, none⟩ = some (.int .i64 l[k].1) ∧ w.cell? ⟨b, off + k * 3 + 1, none⟩ = some (.int .i64 l[k].2.1) ∧ w.cell? ⟨b, off + k * 3 + 2, none⟩ = some (.int .i64 l[k].2.2)
/-- Strings in memory, each where it is asked. -/
structure SA (w : World) (a : Option Addr) (L : List ByteArray) : Prop where
  at' : ∀ k (h : k < L.length), ∃ b off, a = some ⟨b, off, none⟩ ∧ b < w.heap.size ∧ w.cell? ⟨b, off + k, none⟩ = some (.string L[k])
/-- The cells of a block of points. -/
def cellsB (b : List Int) : Array Value := (b.map (Value.int .u8)).toArray
theorem cellsB_size (b : List Int) : (cellsB b).size = b.length := by simp [cellsB]
theorem cellsB_at (b : List Int) (j : Nat) (h : j < b.length) : (cellsB b)[j]? = some (.int .u8 b[j]) := by simp [cellsB, h]
theorem cellsB_set (b : List Int) (j : Nat) (x : Int) : (cellsB b).setIfInBounds j (.int .u8 x) = cellsB (b.set j x) := by
  apply Array.toList_inj.1
  simp [cellsB, List.map_set]
theorem cellsB_one (b : List Int) : (cellsB b).all (·.oneCell') = true := by
  rw [cellsB]
  refine all_oneCell_toArray (fun v hv => ?_)
  obtain ⟨x, _, rfl⟩ := List.mem_map.1 hv
  rfl
theorem cellsB_inj {b c : List Int} (h : cellsB b = cellsB c) : b = c := by
  have h1 : b.map (Value.int .u8) = c.map (Value.int .u8) := by have := congrArg Array.toList h; simpa [cellsB] using this
  exact (List.map_inj_right (f := Value.int .u8) (fun x y e => by cases e; rfl)).1 h1
/-- The block of the points from 128 i on. -/
def blkOf (f : Int → Int) (i : Nat) : List Int := (List.range 128).map fun (j : Nat) => f (128 * (i : Int) + (j : Int))
theorem blkOf_len (f : Int → Int) (i : Nat) : (blkOf f i).length = 128 := by simp [blkOf]
theorem blkOf_congr {f g : Int → Int} {i : Nat} (h : ∀ p, 128 * (i : Int) ≤ p → p < 128 * (i : Int) + 128 → f p = g p) : blkOf f i = blkOf g i := by
  unfold blkOf
  refine List.map_congr_left (fun j hj => h _ (by omega) ?_)
  have := List.mem_range.1 hj
  omega
theorem blkOf_set (f : Int → Int) (i : Nat) (p : Int) (x : Int) (h1 : 128 * (i : Int) ≤ p) (h2 : p < 128 * (i : Int) + 128) : (blkOf f i).set (p - 128 * (i : Int)).toNat x = blkOf (fun q => if q = p then x else f q) i := by
  unfold blkOf
  apply List.ext_getElem
  · simp
  intro k k1 k2
  simp only [List.length_set, List.length_map, List.length_range] at k1
  rw [List.getElem_set]
  simp only [List.getElem_map, List.getElem_range]
  by_cases e : (p - 128 * (i : Int)).toNat = k
  · rw [if_pos e, if_pos (by omega)]
  · rw [if_neg e, if_neg (by omega)]
theorem zero70 : (Tryd.prog.info? 70).map (fun i => (i.zero, i.size)) = some (some (.agg (Array.replicate 128 (.int .u8 0))), 128) := by kernel_rfl
theorem size70 : (Tryd.prog.info? 70).map (·.size) = some 128 := (zero_of_info zero70).2
theorem zeroB0 : Array.replicate 128 (Value.int .u8 0) = cellsB (blkOf (fun _ => 0) 0) := by kernel_rfl
theorem zeroB (i : Nat) : Array.replicate 128 (Value.int .u8 0) = cellsB (blkOf (fun _ => 0) i) := zeroB0
end Go.Proofs.YtpimameogmkpcaaDoor
