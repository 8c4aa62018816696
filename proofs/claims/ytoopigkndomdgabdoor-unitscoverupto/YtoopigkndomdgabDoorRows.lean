/-
  NARROWER THAN 'FOR EVERY INPUT', by the rows' own cells (each row's printed sentence says how): UnitsCover: laid · UnitsBack: laid · UnitsSteps: laid.
  DERIVED. THE GIVEN ROWS OF THIS SEAT. 3 by the template 'for every input the law returns true; each argument reads behind the call as it read before'; 0 by the template 'total and deterministic' (their statements: YtoopigkndomdgabDoorTotals.lean).
  GIVEN WITH THE SEED: the statements are not yours to turn. If you find one false, say at which input.
  Laid BY PROGRAM, IN A SANDBOX (cutbox-rows.mjs): the forced cells as the released guide's own fill.sh prints them over the translation 66fc2d8d6ac261b2… (all of the seat's roots in one cut). By AI agents, Wed Nov 11 2026. No macro, syntax, notation, axiom, sorry.
-/
import Derived.Test.YtoopigkndomdgabDoorChecked
import GoSem.Claim
import GoSem.ClaimJoined
import GoSem.ClaimMapViews
import Derived.JoinedTies
import Derived.KernelRfl
namespace Go.Proofs.YtoopigkndomdgabDoor
/- THE CELL 'sum', in the pinned program and in every row, IS THE sha256 OF THE DUMP (.gsa) THAT YtoopigkndomdgabDoorProg.lean LOADS. Nothing in Lean hashes anything: it is a label: what it is worth is what the hold of that sum in a sandbox is worth. -/
noncomputable def Tryd.pinned : Pinned := { name := "ytoopigkndomdgabdoor", sum := "66fc2d8d6ac261b2cb312b22236f95eb86830d6dcbc8d50e6a46ad4bfb77ed3a", checked := Tryd.checked }
namespace Rows
def none {H : Type} : Left H := { results := [], args := [] }

/- WHAT THE LISTED PACKAGE-LEVEL VARIABLES READ AS WHEN THE CALL BEGINS. Each datum BY PROGRAM (the guide's laid-datum.mjs) off the statement by which the dump's own 'gosem.cut.vars' lays the variable. In a bare row this is a premise. The card (YtoopigkndomdgabDoorCards.lean) ties it to the program's text. -/
def laid_caesura_api_ErrArg {H : Type} : DataW H := .iface "*errors.errorString" (.ptr (.agg [.lit (.string [97, 32, 110, 117, 109, 98, 101, 114, 32, 111, 114, 32, 97, 110, 32, 97, 114, 103, 117, 109, 101, 110, 116, 32, 105, 115, 32, 111, 117, 116, 32, 111, 102, 32, 105, 116, 115, 32, 112, 108, 97, 99, 101])]))
def laid_caesura_units_sequences {H : Type} : DataW H := .agg [.agg [.lit (.int .u8 0), .lit (.int .u8 127), .lit (.int .u8 0), .lit (.int .u8 0), .lit (.int .i64 1), .lit (.int .u8 0)], .agg [.lit (.int .u8 194), .lit (.int .u8 223), .lit (.int .u8 128), .lit (.int .u8 191), .lit (.int .i64 2), .lit (.int .u8 192)], .agg [.lit (.int .u8 224), .lit (.int .u8 224), .lit (.int .u8 160), .lit (.int .u8 191), .lit (.int .i64 3), .lit (.int .u8 224)], .agg [.lit (.int .u8 225), .lit (.int .u8 236), .lit (.int .u8 128), .lit (.int .u8 191), .lit (.int .i64 3), .lit (.int .u8 224)], .agg [.lit (.int .u8 237), .lit (.int .u8 237), .lit (.int .u8 128), .lit (.int .u8 159), .lit (.int .i64 3), .lit (.int .u8 224)], .agg [.lit (.int .u8 238), .lit (.int .u8 239), .lit (.int .u8 128), .lit (.int .u8 191), .lit (.int .i64 3), .lit (.int .u8 224)], .agg [.lit (.int .u8 240), .lit (.int .u8 240), .lit (.int .u8 144), .lit (.int .u8 191), .lit (.int .i64 4), .lit (.int .u8 240)], .agg [.lit (.int .u8 241), .lit (.int .u8 243), .lit (.int .u8 128), .lit (.int .u8 191), .lit (.int .i64 4), .lit (.int .u8 240)], .agg [.lit (.int .u8 244), .lit (.int .u8 244), .lit (.int .u8 128), .lit (.int .u8 143), .lit (.int .i64 4), .lit (.int .u8 240)]]

/-- 'caesuralaw2.UnitsCover': WHATEVER THE INPUT: true; the input reads as it did. -/
def unitsCoverSpec : ChangeSpec := { name := "unitsCover", fn := fun _ => fun
  | [d] => { results := [.lit (.bool true)], args := [d] }
  | _ => none }
def unitsCoverRow : OpenClaim := { program := "ytoopigkndomdgabdoor", sum := "66fc2d8d6ac261b2cb312b22236f95eb86830d6dcbc8d50e6a46ad4bfb77ed3a", func := "caesura/caesuralaw2.UnitsCover", spec := "unitsCover", unfollowed := true, recurses := true, named := ["caesura/units.sequences", "caesura/api.ErrArg"], apart := false, laid := [("caesura/api.ErrArg", laid_caesura_api_ErrArg), ("caesura/units.sequences", laid_caesura_units_sequences)] }
def UnitsCoverSaid : Prop := unitsCoverRow.holds Tryd.pinned (OpenSpec.ofChange unitsCoverSpec)

/-- ITS FALSE NEIGHBOUR: 'it returns false'. Refute it at one input. -/
def unitsCoverWrong : ChangeSpec := { name := "unitsCover", fn := fun _ => fun
  | [d] => { results := [.lit (.bool false)], args := [d] }
  | _ => none }
def UnitsCoverWrongFalsely : Prop := unitsCoverRow.holds Tryd.pinned (OpenSpec.ofChange unitsCoverWrong)

/-- 'caesuralaw2.UnitsBack': WHATEVER THE INPUT: true; the input reads as it did. -/
def unitsBackSpec : ChangeSpec := { name := "unitsBack", fn := fun _ => fun
  | [d] => { results := [.lit (.bool true)], args := [d] }
  | _ => none }
def unitsBackRow : OpenClaim := { program := "ytoopigkndomdgabdoor", sum := "66fc2d8d6ac261b2cb312b22236f95eb86830d6dcbc8d50e6a46ad4bfb77ed3a", func := "caesura/caesuralaw2.UnitsBack", spec := "unitsBack", unfollowed := true, recurses := true, named := ["caesura/api.ErrArg", "caesura/units.sequences"], apart := false, laid := [("caesura/api.ErrArg", laid_caesura_api_ErrArg), ("caesura/units.sequences", laid_caesura_units_sequences)] }
def UnitsBackSaid : Prop := unitsBackRow.holds Tryd.pinned (OpenSpec.ofChange unitsBackSpec)

/-- ITS FALSE NEIGHBOUR: 'it returns false'. Refute it at one input. -/
def unitsBackWrong : ChangeSpec := { name := "unitsBack", fn := fun _ => fun
  | [d] => { results := [.lit (.bool false)], args := [d] }
  | _ => none }
def UnitsBackWrongFalsely : Prop := unitsBackRow.holds Tryd.pinned (OpenSpec.ofChange unitsBackWrong)

/-- 'caesuralaw2.UnitsSteps': WHATEVER THE INPUT: true; the input reads as it did. -/
def unitsStepsSpec : ChangeSpec := { name := "unitsSteps", fn := fun _ => fun
  | [d] => { results := [.lit (.bool true)], args := [d] }
  | _ => none }
def unitsStepsRow : OpenClaim := { program := "ytoopigkndomdgabdoor", sum := "66fc2d8d6ac261b2cb312b22236f95eb86830d6dcbc8d50e6a46ad4bfb77ed3a", func := "caesura/caesuralaw2.UnitsSteps", spec := "unitsSteps", named := ["caesura/units.sequences"], apart := false, laid := [("caesura/units.sequences", laid_caesura_units_sequences)] }
def UnitsStepsSaid : Prop := unitsStepsRow.holds Tryd.pinned (OpenSpec.ofChange unitsStepsSpec)

/-- ITS FALSE NEIGHBOUR: 'it returns false'. Refute it at one input. -/
def unitsStepsWrong : ChangeSpec := { name := "unitsSteps", fn := fun _ => fun
  | [d] => { results := [.lit (.bool false)], args := [d] }
  | _ => none }
def UnitsStepsWrongFalsely : Prop := unitsStepsRow.holds Tryd.pinned (OpenSpec.ofChange unitsStepsWrong)

/- THE SECOND FORM. 'bulk': how many values and letters a reading holds, each counted each time it is reached (what is shared counts as often as it is met; a slice's spare places count too). A statement '..UptoSaid' is the law's where the arguments, and the package variables that the reading takes, are together of bulk at most 1048576: NARROWER than '..Said'. Prove '..Said' where nothing that the law and all that it calls make is longer than what came in: it says more and counts as full. Else prove '..UptoSaid'. A law counts once. -/
mutual
def uptoBulk {H : Type} : DataW H → Nat
  | .lit (.string bytes) => bytes.length + 1
  | .lit _ => 1
  | .nil => 1
  | .ptr d => uptoBulk d + 1
  | .slice elems spare => uptoBulkAll elems + uptoBulkAll spare + 1
  | .agg parts => uptoBulkAll parts + 1
  | .iface _ d => uptoBulk d + 1
  | .map entries => uptoBulkEntries entries + 1
  | .held _ => 1
def uptoBulkAll {H : Type} : List (DataW H) → Nat
  | [] => 0
  | d :: r => uptoBulk d + uptoBulkAll r
def uptoBulkEntries {H : Type} : List (Lit × DataW H) → Nat
  | [] => 0
  | x :: r => uptoBulkEntry x + uptoBulkEntries r
def uptoBulkEntry {H : Type} : Lit × DataW H → Nat
  | (.string bytes, d) => bytes.length + uptoBulk d + 1
  | (_, d) => uptoBulk d + 1
 end
def uptoSmall : (H : Type) → List (DataW H) → Bool := fun _ ds => decide (uptoBulkAll ds ≤ 1048576)
def OpenSpec.upto (s : _root_.Go.ChangeSpec) : _root_.Go.OpenSpec := { _root_.Go.OpenSpec.ofChange s with cond := some uptoSmall }

/-- 'caesuralaw2.UnitsCover', WHERE WHAT IT READS IS OF BULK AT MOST 1048576: true; the input reads as it did. -/
def unitsCoverUptoRow : OpenClaim := { program := "ytoopigkndomdgabdoor", sum := "66fc2d8d6ac261b2cb312b22236f95eb86830d6dcbc8d50e6a46ad4bfb77ed3a", func := "caesura/caesuralaw2.UnitsCover", spec := "unitsCover", unfollowed := true, recurses := true, named := ["caesura/units.sequences", "caesura/api.ErrArg"], apart := false, laid := [("caesura/api.ErrArg", laid_caesura_api_ErrArg), ("caesura/units.sequences", laid_caesura_units_sequences)], narrowed := true }
def UnitsCoverUptoSaid : Prop := unitsCoverUptoRow.holds Tryd.pinned (OpenSpec.upto unitsCoverSpec)

/-- 'caesuralaw2.UnitsBack', WHERE WHAT IT READS IS OF BULK AT MOST 1048576: true; the input reads as it did. -/
def unitsBackUptoRow : OpenClaim := { program := "ytoopigkndomdgabdoor", sum := "66fc2d8d6ac261b2cb312b22236f95eb86830d6dcbc8d50e6a46ad4bfb77ed3a", func := "caesura/caesuralaw2.UnitsBack", spec := "unitsBack", unfollowed := true, recurses := true, named := ["caesura/api.ErrArg", "caesura/units.sequences"], apart := false, laid := [("caesura/api.ErrArg", laid_caesura_api_ErrArg), ("caesura/units.sequences", laid_caesura_units_sequences)], narrowed := true }
def UnitsBackUptoSaid : Prop := unitsBackUptoRow.holds Tryd.pinned (OpenSpec.upto unitsBackSpec)

/-- 'caesuralaw2.UnitsSteps', WHERE WHAT IT READS IS OF BULK AT MOST 1048576: true; the input reads as it did. -/
def unitsStepsUptoRow : OpenClaim := { program := "ytoopigkndomdgabdoor", sum := "66fc2d8d6ac261b2cb312b22236f95eb86830d6dcbc8d50e6a46ad4bfb77ed3a", func := "caesura/caesuralaw2.UnitsSteps", spec := "unitsSteps", named := ["caesura/units.sequences"], apart := false, laid := [("caesura/units.sequences", laid_caesura_units_sequences)], narrowed := true }
def UnitsStepsUptoSaid : Prop := unitsStepsUptoRow.holds Tryd.pinned (OpenSpec.upto unitsStepsSpec)

end Rows
end Go.Proofs.YtoopigkndomdgabDoor
