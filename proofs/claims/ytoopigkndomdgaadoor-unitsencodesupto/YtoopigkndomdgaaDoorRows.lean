/-
  NARROWER THAN 'FOR EVERY INPUT', by the rows' own cells (each row's printed sentence says how): UnitsPieces: laid · UnitsCuts: laid · UnitsHeld: laid · UnitsSplits: laid · UnitsEncodes: laid · UnitsMemory: laid.
  DERIVED. THE GIVEN ROWS OF THIS SEAT. 6 by the template 'for every input the law returns true; each argument reads behind the call as it read before'; 0 by the template 'total and deterministic' (their statements: YtoopigkndomdgaaDoorTotals.lean).
  GIVEN WITH THE SEED: the statements are not yours to turn. If you find one false, say at which input.
  Laid BY PROGRAM, IN A SANDBOX (cutbox-rows.mjs): the forced cells as the released guide's own fill.sh prints them over the translation 5331a3ad481f8d91… (all of the seat's roots in one cut). By AI agents, Wed Nov 11 2026. No macro, syntax, notation, axiom, sorry.
-/
import Derived.Test.YtoopigkndomdgaaDoorChecked
import GoSem.Claim
import GoSem.ClaimJoined
import GoSem.ClaimMapViews
import Derived.JoinedTies
import Derived.KernelRfl
namespace Go.Proofs.YtoopigkndomdgaaDoor
/- THE CELL 'sum', in the pinned program and in every row, IS THE sha256 OF THE DUMP (.gsa) THAT YtoopigkndomdgaaDoorProg.lean LOADS. Nothing in Lean hashes anything: it is a label: what it is worth is what the hold of that sum in a sandbox is worth. -/
noncomputable def Tryd.pinned : Pinned := { name := "ytoopigkndomdgaadoor", sum := "5331a3ad481f8d91a4e3392ab3e62bf41b7eb8ad274f948f40d5bb27a31dae20", checked := Tryd.checked }
namespace Rows
def none {H : Type} : Left H := { results := [], args := [] }

/- WHAT THE LISTED PACKAGE-LEVEL VARIABLES READ AS WHEN THE CALL BEGINS. Each datum BY PROGRAM (the guide's laid-datum.mjs) off the statement by which the dump's own 'gosem.cut.vars' lays the variable. In a bare row this is a premise. The card (YtoopigkndomdgaaDoorCards.lean) ties it to the program's text. -/
def laid_caesura_units_sequences {H : Type} : DataW H := .agg [.agg [.lit (.int .u8 0), .lit (.int .u8 127), .lit (.int .u8 0), .lit (.int .u8 0), .lit (.int .i64 1), .lit (.int .u8 0)], .agg [.lit (.int .u8 194), .lit (.int .u8 223), .lit (.int .u8 128), .lit (.int .u8 191), .lit (.int .i64 2), .lit (.int .u8 192)], .agg [.lit (.int .u8 224), .lit (.int .u8 224), .lit (.int .u8 160), .lit (.int .u8 191), .lit (.int .i64 3), .lit (.int .u8 224)], .agg [.lit (.int .u8 225), .lit (.int .u8 236), .lit (.int .u8 128), .lit (.int .u8 191), .lit (.int .i64 3), .lit (.int .u8 224)], .agg [.lit (.int .u8 237), .lit (.int .u8 237), .lit (.int .u8 128), .lit (.int .u8 159), .lit (.int .i64 3), .lit (.int .u8 224)], .agg [.lit (.int .u8 238), .lit (.int .u8 239), .lit (.int .u8 128), .lit (.int .u8 191), .lit (.int .i64 3), .lit (.int .u8 224)], .agg [.lit (.int .u8 240), .lit (.int .u8 240), .lit (.int .u8 144), .lit (.int .u8 191), .lit (.int .i64 4), .lit (.int .u8 240)], .agg [.lit (.int .u8 241), .lit (.int .u8 243), .lit (.int .u8 128), .lit (.int .u8 191), .lit (.int .i64 4), .lit (.int .u8 240)], .agg [.lit (.int .u8 244), .lit (.int .u8 244), .lit (.int .u8 128), .lit (.int .u8 143), .lit (.int .i64 4), .lit (.int .u8 240)]]
def laid_caesura_api_ErrArg {H : Type} : DataW H := .iface "*errors.errorString" (.ptr (.agg [.lit (.string [97, 32, 110, 117, 109, 98, 101, 114, 32, 111, 114, 32, 97, 110, 32, 97, 114, 103, 117, 109, 101, 110, 116, 32, 105, 115, 32, 111, 117, 116, 32, 111, 102, 32, 105, 116, 115, 32, 112, 108, 97, 99, 101])]))
def laid_caesura_api_ErrText {H : Type} : DataW H := .iface "*errors.errorString" (.ptr (.agg [.lit (.string [97, 32, 116, 101, 120, 116, 32, 111, 114, 32, 98, 121, 116, 101, 115, 32, 116, 104, 97, 116, 32, 99, 97, 110, 110, 111, 116, 32, 98, 101, 32, 114, 101, 97, 100])]))
def laid_caesura_api_ErrMany {H : Type} : DataW H := .iface "*errors.errorString" (.ptr (.agg [.lit (.string [97, 98, 111, 118, 101, 32, 97, 32, 108, 105, 109, 105, 116])]))
def laid_caesura_api_ErrShort {H : Type} : DataW H := .iface "*errors.errorString" (.ptr (.agg [.lit (.string [115, 111, 109, 101, 116, 104, 105, 110, 103, 32, 105, 115, 32, 109, 105, 115, 115, 105, 110, 103])]))
def laid_caesura_api_ErrTwice {H : Type} : DataW H := .iface "*errors.errorString" (.ptr (.agg [.lit (.string [116, 104, 101, 114, 101, 32, 116, 119, 105, 99, 101])]))
def laid_caesura_api_ErrLost {H : Type} : DataW H := .iface "*errors.errorString" (.ptr (.agg [.lit (.string [110, 111, 116, 32, 116, 104, 101, 114, 101])]))
def laid_caesura_api_ErrOrder {H : Type} : DataW H := .iface "*errors.errorString" (.ptr (.agg [.lit (.string [110, 111, 116, 32, 105, 110, 32, 111, 114, 100, 101, 114])]))
def laid_caesura_api_ErrCycle {H : Type} : DataW H := .iface "*errors.errorString" (.ptr (.agg [.lit (.string [103, 111, 101, 115, 32, 114, 111, 117, 110, 100, 32, 105, 110, 32, 97, 32, 99, 105, 114, 99, 108, 101])]))
def laid_caesura_api_ErrSum {H : Type} : DataW H := .iface "*errors.errorString" (.ptr (.agg [.lit (.string [116, 104, 101, 32, 115, 117, 109, 32, 100, 111, 101, 115, 32, 110, 111, 116, 32, 102, 105, 116])]))
def laid_caesura_api_ErrForm {H : Type} : DataW H := .iface "*errors.errorString" (.ptr (.agg [.lit (.string [110, 111, 116, 32, 116, 104, 101, 32, 111, 110, 101, 32, 102, 111, 114, 109, 32, 116, 104, 97, 116, 32, 105, 115, 32, 119, 114, 105, 116, 116, 101, 110])]))
def laid_caesura_api_ErrEnd {H : Type} : DataW H := .iface "*errors.errorString" (.ptr (.agg [.lit (.string [105, 116, 32, 104, 97, 115, 32, 101, 110, 100, 101, 100])]))

/-- 'caesuralaw2.UnitsPieces': WHATEVER THE INPUT: true; the input reads as it did. -/
def unitsPiecesSpec : ChangeSpec := { name := "unitsPieces", fn := fun _ => fun
  | [d] => { results := [.lit (.bool true)], args := [d] }
  | _ => none }
def unitsPiecesRow : OpenClaim := { program := "ytoopigkndomdgaadoor", sum := "5331a3ad481f8d91a4e3392ab3e62bf41b7eb8ad274f948f40d5bb27a31dae20", func := "caesura/caesuralaw2.UnitsPieces", spec := "unitsPieces", unfollowed := true, recurses := true, named := ["caesura/units.sequences"], apart := false, laid := [("caesura/units.sequences", laid_caesura_units_sequences)] }
def UnitsPiecesSaid : Prop := unitsPiecesRow.holds Tryd.pinned (OpenSpec.ofChange unitsPiecesSpec)

/-- ITS FALSE NEIGHBOUR: 'it returns false'. Refute it at one input. -/
def unitsPiecesWrong : ChangeSpec := { name := "unitsPieces", fn := fun _ => fun
  | [d] => { results := [.lit (.bool false)], args := [d] }
  | _ => none }
def UnitsPiecesWrongFalsely : Prop := unitsPiecesRow.holds Tryd.pinned (OpenSpec.ofChange unitsPiecesWrong)

/-- 'caesuralaw2.UnitsCuts': WHATEVER THE INPUT: true; the input reads as it did. -/
def unitsCutsSpec : ChangeSpec := { name := "unitsCuts", fn := fun _ => fun
  | [d] => { results := [.lit (.bool true)], args := [d] }
  | _ => none }
def unitsCutsRow : OpenClaim := { program := "ytoopigkndomdgaadoor", sum := "5331a3ad481f8d91a4e3392ab3e62bf41b7eb8ad274f948f40d5bb27a31dae20", func := "caesura/caesuralaw2.UnitsCuts", spec := "unitsCuts", named := ["caesura/units.sequences"], apart := false, laid := [("caesura/units.sequences", laid_caesura_units_sequences)] }
def UnitsCutsSaid : Prop := unitsCutsRow.holds Tryd.pinned (OpenSpec.ofChange unitsCutsSpec)

/-- ITS FALSE NEIGHBOUR: 'it returns false'. Refute it at one input. -/
def unitsCutsWrong : ChangeSpec := { name := "unitsCuts", fn := fun _ => fun
  | [d] => { results := [.lit (.bool false)], args := [d] }
  | _ => none }
def UnitsCutsWrongFalsely : Prop := unitsCutsRow.holds Tryd.pinned (OpenSpec.ofChange unitsCutsWrong)

/-- 'caesuralaw2.UnitsHeld': WHATEVER THE INPUT: true; the input reads as it did. -/
def unitsHeldSpec : ChangeSpec := { name := "unitsHeld", fn := fun _ => fun
  | [d] => { results := [.lit (.bool true)], args := [d] }
  | _ => none }
def unitsHeldRow : OpenClaim := { program := "ytoopigkndomdgaadoor", sum := "5331a3ad481f8d91a4e3392ab3e62bf41b7eb8ad274f948f40d5bb27a31dae20", func := "caesura/caesuralaw2.UnitsHeld", spec := "unitsHeld", unfollowed := true, recurses := true, named := ["caesura/units.sequences"], apart := false, laid := [("caesura/units.sequences", laid_caesura_units_sequences)] }
def UnitsHeldSaid : Prop := unitsHeldRow.holds Tryd.pinned (OpenSpec.ofChange unitsHeldSpec)

/-- ITS FALSE NEIGHBOUR: 'it returns false'. Refute it at one input. -/
def unitsHeldWrong : ChangeSpec := { name := "unitsHeld", fn := fun _ => fun
  | [d] => { results := [.lit (.bool false)], args := [d] }
  | _ => none }
def UnitsHeldWrongFalsely : Prop := unitsHeldRow.holds Tryd.pinned (OpenSpec.ofChange unitsHeldWrong)

/-- 'caesuralaw2.UnitsSplits': WHATEVER THE INPUT: true; the input reads as it did. -/
def unitsSplitsSpec : ChangeSpec := { name := "unitsSplits", fn := fun _ => fun
  | [d] => { results := [.lit (.bool true)], args := [d] }
  | _ => none }
def unitsSplitsRow : OpenClaim := { program := "ytoopigkndomdgaadoor", sum := "5331a3ad481f8d91a4e3392ab3e62bf41b7eb8ad274f948f40d5bb27a31dae20", func := "caesura/caesuralaw2.UnitsSplits", spec := "unitsSplits", unfollowed := true, recurses := true, named := ["caesura/units.sequences"], apart := false, laid := [("caesura/units.sequences", laid_caesura_units_sequences)] }
def UnitsSplitsSaid : Prop := unitsSplitsRow.holds Tryd.pinned (OpenSpec.ofChange unitsSplitsSpec)

/-- ITS FALSE NEIGHBOUR: 'it returns false'. Refute it at one input. -/
def unitsSplitsWrong : ChangeSpec := { name := "unitsSplits", fn := fun _ => fun
  | [d] => { results := [.lit (.bool false)], args := [d] }
  | _ => none }
def UnitsSplitsWrongFalsely : Prop := unitsSplitsRow.holds Tryd.pinned (OpenSpec.ofChange unitsSplitsWrong)

/-- 'caesuralaw2.UnitsEncodes': WHATEVER THE INPUT: true; the input reads as it did. -/
def unitsEncodesSpec : ChangeSpec := { name := "unitsEncodes", fn := fun _ => fun
  | [d] => { results := [.lit (.bool true)], args := [d] }
  | _ => none }
def unitsEncodesRow : OpenClaim := { program := "ytoopigkndomdgaadoor", sum := "5331a3ad481f8d91a4e3392ab3e62bf41b7eb8ad274f948f40d5bb27a31dae20", func := "caesura/caesuralaw2.UnitsEncodes", spec := "unitsEncodes", named := ["caesura/api.ErrArg", "caesura/api.ErrText", "caesura/api.ErrMany", "caesura/api.ErrShort", "caesura/api.ErrTwice", "caesura/api.ErrOrder", "caesura/api.ErrLost", "caesura/api.ErrCycle", "caesura/api.ErrSum", "caesura/api.ErrForm", "caesura/api.ErrEnd"], apart := false, laid := [("caesura/api.ErrArg", laid_caesura_api_ErrArg), ("caesura/api.ErrText", laid_caesura_api_ErrText), ("caesura/api.ErrMany", laid_caesura_api_ErrMany), ("caesura/api.ErrShort", laid_caesura_api_ErrShort), ("caesura/api.ErrTwice", laid_caesura_api_ErrTwice), ("caesura/api.ErrLost", laid_caesura_api_ErrLost), ("caesura/api.ErrOrder", laid_caesura_api_ErrOrder), ("caesura/api.ErrCycle", laid_caesura_api_ErrCycle), ("caesura/api.ErrSum", laid_caesura_api_ErrSum), ("caesura/api.ErrForm", laid_caesura_api_ErrForm), ("caesura/api.ErrEnd", laid_caesura_api_ErrEnd)] }
def UnitsEncodesSaid : Prop := unitsEncodesRow.holds Tryd.pinned (OpenSpec.ofChange unitsEncodesSpec)

/-- ITS FALSE NEIGHBOUR: 'it returns false'. Refute it at one input. -/
def unitsEncodesWrong : ChangeSpec := { name := "unitsEncodes", fn := fun _ => fun
  | [d] => { results := [.lit (.bool false)], args := [d] }
  | _ => none }
def UnitsEncodesWrongFalsely : Prop := unitsEncodesRow.holds Tryd.pinned (OpenSpec.ofChange unitsEncodesWrong)

/-- 'caesuralaw2.UnitsMemory': WHATEVER THE INPUT: true; the input reads as it did. -/
def unitsMemorySpec : ChangeSpec := { name := "unitsMemory", fn := fun _ => fun
  | [d] => { results := [.lit (.bool true)], args := [d] }
  | _ => none }
def unitsMemoryRow : OpenClaim := { program := "ytoopigkndomdgaadoor", sum := "5331a3ad481f8d91a4e3392ab3e62bf41b7eb8ad274f948f40d5bb27a31dae20", func := "caesura/caesuralaw2.UnitsMemory", spec := "unitsMemory", unfollowed := true, recurses := true, named := ["caesura/units.sequences"], apart := false, laid := [("caesura/units.sequences", laid_caesura_units_sequences)] }
def UnitsMemorySaid : Prop := unitsMemoryRow.holds Tryd.pinned (OpenSpec.ofChange unitsMemorySpec)

/-- ITS FALSE NEIGHBOUR: 'it returns false'. Refute it at one input. -/
def unitsMemoryWrong : ChangeSpec := { name := "unitsMemory", fn := fun _ => fun
  | [d] => { results := [.lit (.bool false)], args := [d] }
  | _ => none }
def UnitsMemoryWrongFalsely : Prop := unitsMemoryRow.holds Tryd.pinned (OpenSpec.ofChange unitsMemoryWrong)

/- THE SECOND FORM. 'bulk': how many values and letters a reading holds, each counted each time it is reached (what is shared counts as often as it is met; a slice's spare places count too). A statement '..UptoSaid' is the law's where the arguments, and the package variables that the reading takes, are together of bulk at most 1048576: NARROWER than '..Said'. Prove '..Said' where nothing that the law and all that it calls make is longer than what came in: it says more and counts as full. Else prove '..UptoSaid'. A law counts once. -/
mutual
def uptoBulk {H : Type} : DataW H → Nat
  | .lit (.string bytes) => bytes.length + 1
  | .lit _ => 1
  | .nil => 1
  | .ptr d => uptoBulk d + 1
  | .slice elems spare => uptoBulkAll elems + uptoBulkAll spare + 1
  | .agg parts => uptoBulkAll parts + 1
  | .iface _ d => uptoBulk d + 1
  | .map entries => uptoBulkEntries entries + 1
  | .held _ => 1
def uptoBulkAll {H : Type} : List (DataW H) → Nat
  | [] => 0
  | d :: r => uptoBulk d + uptoBulkAll r
def uptoBulkEntries {H : Type} : List (Lit × DataW H) → Nat
  | [] => 0
  | x :: r => uptoBulkEntry x + uptoBulkEntries r
def uptoBulkEntry {H : Type} : Lit × DataW H → Nat
  | (.string bytes, d) => bytes.length + uptoBulk d + 1
  | (_, d) => uptoBulk d + 1
 end
def uptoSmall : (H : Type) → List (DataW H) → Bool := fun _ ds => decide (uptoBulkAll ds ≤ 1048576)
def OpenSpec.upto (s : _root_.Go.ChangeSpec) : _root_.Go.OpenSpec := { _root_.Go.OpenSpec.ofChange s with cond := some uptoSmall }

/-- 'caesuralaw2.UnitsPieces', WHERE WHAT IT READS IS OF BULK AT MOST 1048576: true; the input reads as it did. -/
def unitsPiecesUptoRow : OpenClaim := { program := "ytoopigkndomdgaadoor", sum := "5331a3ad481f8d91a4e3392ab3e62bf41b7eb8ad274f948f40d5bb27a31dae20", func := "caesura/caesuralaw2.UnitsPieces", spec := "unitsPieces", unfollowed := true, recurses := true, named := ["caesura/units.sequences"], apart := false, laid := [("caesura/units.sequences", laid_caesura_units_sequences)], narrowed := true }
def UnitsPiecesUptoSaid : Prop := unitsPiecesUptoRow.holds Tryd.pinned (OpenSpec.upto unitsPiecesSpec)

/-- 'caesuralaw2.UnitsCuts', WHERE WHAT IT READS IS OF BULK AT MOST 1048576: true; the input reads as it did. -/
def unitsCutsUptoRow : OpenClaim := { program := "ytoopigkndomdgaadoor", sum := "5331a3ad481f8d91a4e3392ab3e62bf41b7eb8ad274f948f40d5bb27a31dae20", func := "caesura/caesuralaw2.UnitsCuts", spec := "unitsCuts", named := ["caesura/units.sequences"], apart := false, laid := [("caesura/units.sequences", laid_caesura_units_sequences)], narrowed := true }
def UnitsCutsUptoSaid : Prop := unitsCutsUptoRow.holds Tryd.pinned (OpenSpec.upto unitsCutsSpec)

/-- 'caesuralaw2.UnitsHeld', WHERE WHAT IT READS IS OF BULK AT MOST 1048576: true; the input reads as it did. -/
def unitsHeldUptoRow : OpenClaim := { program := "ytoopigkndomdgaadoor", sum := "5331a3ad481f8d91a4e3392ab3e62bf41b7eb8ad274f948f40d5bb27a31dae20", func := "caesura/caesuralaw2.UnitsHeld", spec := "unitsHeld", unfollowed := true, recurses := true, named := ["caesura/units.sequences"], apart := false, laid := [("caesura/units.sequences", laid_caesura_units_sequences)], narrowed := true }
def UnitsHeldUptoSaid : Prop := unitsHeldUptoRow.holds Tryd.pinned (OpenSpec.upto unitsHeldSpec)

/-- 'caesuralaw2.UnitsSplits', WHERE WHAT IT READS IS OF BULK AT MOST 1048576: true; the input reads as it did. -/
def unitsSplitsUptoRow : OpenClaim := { program := "ytoopigkndomdgaadoor", sum := "5331a3ad481f8d91a4e3392ab3e62bf41b7eb8ad274f948f40d5bb27a31dae20", func := "caesura/caesuralaw2.UnitsSplits", spec := "unitsSplits", unfollowed := true, recurses := true, named := ["caesura/units.sequences"], apart := false, laid := [("caesura/units.sequences", laid_caesura_units_sequences)], narrowed := true }
def UnitsSplitsUptoSaid : Prop := unitsSplitsUptoRow.holds Tryd.pinned (OpenSpec.upto unitsSplitsSpec)

/-- 'caesuralaw2.UnitsEncodes', WHERE WHAT IT READS IS OF BULK AT MOST 1048576: true; the input reads as it did. -/
def unitsEncodesUptoRow : OpenClaim := { program := "ytoopigkndomdgaadoor", sum := "5331a3ad481f8d91a4e3392ab3e62bf41b7eb8ad274f948f40d5bb27a31dae20", func := "caesura/caesuralaw2.UnitsEncodes", spec := "unitsEncodes", named := ["caesura/api.ErrArg", "caesura/api.ErrText", "caesura/api.ErrMany", "caesura/api.ErrShort", "caesura/api.ErrTwice", "caesura/api.ErrOrder", "caesura/api.ErrLost", "caesura/api.ErrCycle", "caesura/api.ErrSum", "caesura/api.ErrForm", "caesura/api.ErrEnd"], apart := false, laid := [("caesura/api.ErrArg", laid_caesura_api_ErrArg), ("caesura/api.ErrText", laid_caesura_api_ErrText), ("caesura/api.ErrMany", laid_caesura_api_ErrMany), ("caesura/api.ErrShort", laid_caesura_api_ErrShort), ("caesura/api.ErrTwice", laid_caesura_api_ErrTwice), ("caesura/api.ErrLost", laid_caesura_api_ErrLost), ("caesura/api.ErrOrder", laid_caesura_api_ErrOrder), ("caesura/api.ErrCycle", laid_caesura_api_ErrCycle), ("caesura/api.ErrSum", laid_caesura_api_ErrSum), ("caesura/api.ErrForm", laid_caesura_api_ErrForm), ("caesura/api.ErrEnd", laid_caesura_api_ErrEnd)], narrowed := true }
def UnitsEncodesUptoSaid : Prop := unitsEncodesUptoRow.holds Tryd.pinned (OpenSpec.upto unitsEncodesSpec)

/-- 'caesuralaw2.UnitsMemory', WHERE WHAT IT READS IS OF BULK AT MOST 1048576: true; the input reads as it did. -/
def unitsMemoryUptoRow : OpenClaim := { program := "ytoopigkndomdgaadoor", sum := "5331a3ad481f8d91a4e3392ab3e62bf41b7eb8ad274f948f40d5bb27a31dae20", func := "caesura/caesuralaw2.UnitsMemory", spec := "unitsMemory", unfollowed := true, recurses := true, named := ["caesura/units.sequences"], apart := false, laid := [("caesura/units.sequences", laid_caesura_units_sequences)], narrowed := true }
def UnitsMemoryUptoSaid : Prop := unitsMemoryUptoRow.holds Tryd.pinned (OpenSpec.upto unitsMemorySpec)

end Rows
end Go.Proofs.YtoopigkndomdgaaDoor
