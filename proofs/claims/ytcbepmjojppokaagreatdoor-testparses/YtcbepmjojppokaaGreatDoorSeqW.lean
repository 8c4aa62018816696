/-
  The walk of units.sequenceOf.
-/
import Derived.Test.YtcbepmjojppokaaGreatDoorProg
import Derived.WalkKit
import Derived.WalkSpells
import Derived.WalkLawsBesides
import Derived.Handy
namespace Go.Proofs.YtcbepmjojppokaaGreatDoor
open Go.RowKit
/-- The table's columns. -/
def tLo (i : Nat) : Nat := [0, 194, 224, 225, 237, 238, 240, 241, 244].getD i 0
def tHi (i : Nat) : Nat := [127, 223, 224, 236, 237, 239, 240, 243, 244].getD i 0
def tLo2 (i : Nat) : Nat := [0, 128, 160, 128, 128, 128, 144, 128, 128].getD i 0
def tHi2 (i : Nat) : Nat := [0, 191, 191, 191, 159, 191, 191, 191, 143].getD i 0
def tSz (i : Nat) : Nat := [1, 2, 3, 3, 3, 3, 4, 4, 4].getD i 0
def tMk (i : Nat) : Nat := [0, 192, 224, 224, 224, 224, 240, 240, 240].getD i 0
/-- A row as cells. -/
def rowCells (i : Nat) : List Value := [.int .u8 (tLo i), .int .u8 (tHi i), .int .u8 (tLo2 i), .int .u8 (tHi2 i), .int .i64 (tSz i), .int .u8 (tMk i)]
def rowVal (i : Nat) : Value := .agg #[.int .u8 (tLo i), .int .u8 (tHi i), .int .u8 (tLo2 i), .int .u8 (tHi2 i), .int .i64 (tSz i), .int .u8 (tMk i)]
def noRow : Value := .agg #[.int .u8 0, .int .u8 0, .int .u8 0, .int .u8 0, .int .i64 0, .int .u8 0]
/-- Which row a lead byte has, from the i-th on. -/
def fitsRow (c i : Nat) : Bool := decide (tLo i ≤ c) && decide (c ≤ tHi i)
def rowFrom (c : Nat) : Nat → Nat → Option Nat
  | 0, _ => none
  | n + 1, i => if fitsRow c i then some i else rowFrom c n (i + 1)
def rowOf (c : Nat) : Option Nat := rowFrom c 9 0
def seqRes (c : Nat) : Value := match rowOf c with
  | some i => .tuple #[rowVal i, .bool true]
  | none => .tuple #[noRow, .bool false]
theorem alloc_below (w : World) (o : Obj) : Below w.heap.size w (w.alloc o) := (Below.refl _ _).alloc (Nat.le_refl _) o
theorem tab_lt : ∀ k < 9, tLo k < 256 ∧ tHi k < 256 ∧ tLo2 k < 256 ∧ tHi2 k < 256 ∧ tSz k < 5 ∧ tMk k < 256 := by decide
end Go.Proofs.YtcbepmjojppokaaGreatDoor
