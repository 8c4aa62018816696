/-
  The walk of units.Cut.
-/
import Derived.Test.YtlmbbohhdgeedaaDoorBegunW
namespace Go.Proofs.YtlmbbohhdgeedaaDoor
open Go.RowKit
/-- Is it the beginning of a longer sequence? -/
def beginsL (l : List UInt8) : Bool := match begunOf l with
  | none => false
  | some (i, f) => f == l.length && decide (l.length < tSz i)
def cutFrom (l : List UInt8) : Nat → Nat
  | 0 => 0
  | n + 1 => if beginsL (l.drop (l.length - (n + 1))) then n + 1 else cutFrom l n
def cutOf (l : List UInt8) : Nat := cutFrom l (min 3 l.length)
theorem bsize (s : ByteArray) : s.data.toList.length = s.size := by simp
end Go.Proofs.YtlmbbohhdgeedaaDoor
