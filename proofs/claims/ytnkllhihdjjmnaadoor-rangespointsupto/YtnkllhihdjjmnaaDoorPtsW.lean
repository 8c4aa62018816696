/-
  The walk of caesuralaw3.RangesPoints.
-/
import Derived.Test.YtnkllhihdjjmnaaDoorPtsFW
import Derived.Test.YtnkllhihdjjmnaaDoorPtsTW
import Derived.Test.YtnkllhihdjjmnaaDoorPtsBW
namespace Go.Proofs.YtnkllhihdjjmnaaDoor
open Go.RowKit
theorem points_walk (A0 : Addr) (a b : Option Addr) (ca cb : Nat) (la lb : List (Int × Int)) (p : Int) (w : World) (h : TwoAt w A0 a b la lb) :
    Calls Tryd.prog 5 #[.agg #[.slice a la.length ca, .slice b lb.length cb, .int .i64 p]] w fun e w' => e = .returned (.bool true) ∧ Below w.heap.size w w' := by
  cases hma : mayL la with
  | false => exact points_none A0 a b ca cb la lb p w h hma
  | true =>
    cases hmb : mayL lb with
    | false => exact points_one A0 a b ca cb la lb p w h hma hmb
    | true => exact points_both A0 a b ca cb la lb p w h hma hmb
end Go.Proofs.YtnkllhihdjjmnaaDoor
