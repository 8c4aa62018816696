/-
  NARROWER THAN 'FOR EVERY INPUT', by the rows' own cells (each row's printed sentence says how): ExprSkips: loops, laid · ExprMemory: loops, laid.
  DERIVED. THE GIVEN ROWS OF THIS SEAT. 2 by the template 'for every input the law returns true; each argument reads behind the call as it read before'; 0 by the template 'total and deterministic' (their statements: YtiapefdklojhdaaDoorTotals.lean).
  GIVEN WITH THE SEED: the statements are not yours to turn. If you find one false, say at which input.
  Laid BY PROGRAM, IN A SANDBOX (cutbox-rows.mjs): the forced cells as the released guide's own fill.sh prints them over the translation c9b466fdce4f9cf1… (all of the seat's roots in one cut). By AI agents, Wed Nov 11 2026. No macro, syntax, notation, axiom, sorry.
-/
import Derived.Test.YtiapefdklojhdaaDoorChecked
import GoSem.PinnedTables
import GoSem.Claim
import GoSem.ClaimJoined
import GoSem.ClaimMapViews
import Derived.JoinedTies
import Derived.KernelRfl
namespace Go.Proofs.YtiapefdklojhdaaDoor
/- THE CELL 'sum', in the pinned program and in every row, IS THE sha256 OF THE DUMP (.gsa) THAT YtiapefdklojhdaaDoorProg.lean LOADS. Nothing in Lean hashes anything: it is a label: what it is worth is what the hold of that sum in a sandbox is worth. -/
noncomputable def Tryd.pinned : Pinned := { name := "ytiapefdklojhdaadoor", sum := "c9b466fdce4f9cf1d0266c7e53add4dbcdbd0b2fdf12253cd3c3f38b248a6b46", checked := Tryd.checked }
namespace Rows
def none {H : Type} : Left H := { results := [], args := [] }

/- WHAT THE LISTED PACKAGE-LEVEL VARIABLES READ AS WHEN THE CALL BEGINS. Each datum BY PROGRAM (the guide's laid-datum.mjs) off the statement by which the dump's own 'gosem.cut.vars' lays the variable. In a bare row this is a premise. The card (YtiapefdklojhdaaDoorCards.lean) ties it to the program's text. -/
def laid_unicode_utf8_acceptRanges {H : Type} : DataW H := .agg [.agg [.lit (.int .u8 128), .lit (.int .u8 191)], .agg [.lit (.int .u8 160), .lit (.int .u8 191)], .agg [.lit (.int .u8 128), .lit (.int .u8 159)], .agg [.lit (.int .u8 144), .lit (.int .u8 191)], .agg [.lit (.int .u8 128), .lit (.int .u8 143)], .agg [.lit (.int .u8 0), .lit (.int .u8 0)], .agg [.lit (.int .u8 0), .lit (.int .u8 0)], .agg [.lit (.int .u8 0), .lit (.int .u8 0)], .agg [.lit (.int .u8 0), .lit (.int .u8 0)], .agg [.lit (.int .u8 0), .lit (.int .u8 0)], .agg [.lit (.int .u8 0), .lit (.int .u8 0)], .agg [.lit (.int .u8 0), .lit (.int .u8 0)], .agg [.lit (.int .u8 0), .lit (.int .u8 0)], .agg [.lit (.int .u8 0), .lit (.int .u8 0)], .agg [.lit (.int .u8 0), .lit (.int .u8 0)], .agg [.lit (.int .u8 0), .lit (.int .u8 0)]]
def laid_caesura_api_ErrArg {H : Type} : DataW H := .iface "*errors.errorString" (.ptr (.agg [.lit (.string [97, 32, 110, 117, 109, 98, 101, 114, 32, 111, 114, 32, 97, 110, 32, 97, 114, 103, 117, 109, 101, 110, 116, 32, 105, 115, 32, 111, 117, 116, 32, 111, 102, 32, 105, 116, 115, 32, 112, 108, 97, 99, 101])]))
def laid_caesura_api_ErrMany {H : Type} : DataW H := .iface "*errors.errorString" (.ptr (.agg [.lit (.string [97, 98, 111, 118, 101, 32, 97, 32, 108, 105, 109, 105, 116])]))
def laid_caesura_api_ErrForm {H : Type} : DataW H := .iface "*errors.errorString" (.ptr (.agg [.lit (.string [110, 111, 116, 32, 116, 104, 101, 32, 111, 110, 101, 32, 102, 111, 114, 109, 32, 116, 104, 97, 116, 32, 105, 115, 32, 119, 114, 105, 116, 116, 101, 110])]))
/-- One of Go's own tables, pinned by name: the form's constant. -/
def laid_unicode_utf8_first : DataW Unit := Go.Pinned.utf8First

/-- 'caesuralaw8.ExprSkips': WHATEVER THE INPUT: true; the input reads as it did. -/
def exprSkipsSpec : ChangeSpec := { name := "exprSkips", fn := fun _ => fun
  | [d] => { results := [.lit (.bool true)], args := [d] }
  | _ => none }
def exprSkipsRow : OpenClaim := { program := "ytiapefdklojhdaadoor", sum := "c9b466fdce4f9cf1d0266c7e53add4dbcdbd0b2fdf12253cd3c3f38b248a6b46", func := "caesura/caesuralaw8.ExprSkips", spec := "exprSkips", inPlace := ["internal/bytealg.IndexByteString", "internal/bytealg.IndexString"], unfollowed := true, recurses := true, named := ["caesura/api.ErrArg", "caesura/api.ErrMany", "caesura/api.ErrForm", "unicode/utf8.first", "unicode/utf8.acceptRanges", "internal/bytealg.MaxLen"], loops := true, apart := false, laid := [("unicode/utf8.acceptRanges", laid_unicode_utf8_acceptRanges), ("caesura/api.ErrArg", laid_caesura_api_ErrArg), ("caesura/api.ErrMany", laid_caesura_api_ErrMany), ("caesura/api.ErrForm", laid_caesura_api_ErrForm), ("unicode/utf8.first", laid_unicode_utf8_first)] }
def ExprSkipsSaid : Prop := exprSkipsRow.holds Tryd.pinned (OpenSpec.ofChange exprSkipsSpec)

/-- ITS FALSE NEIGHBOUR: 'it returns false'. Refute it at one input. -/
def exprSkipsWrong : ChangeSpec := { name := "exprSkips", fn := fun _ => fun
  | [d] => { results := [.lit (.bool false)], args := [d] }
  | _ => none }
def ExprSkipsWrongFalsely : Prop := exprSkipsRow.holds Tryd.pinned (OpenSpec.ofChange exprSkipsWrong)

/-- 'caesuralaw8.ExprMemory': WHATEVER THE INPUT: true; the input reads as it did. -/
def exprMemorySpec : ChangeSpec := { name := "exprMemory", fn := fun _ => fun
  | [d] => { results := [.lit (.bool true)], args := [d] }
  | _ => none }
def exprMemoryRow : OpenClaim := { program := "ytiapefdklojhdaadoor", sum := "c9b466fdce4f9cf1d0266c7e53add4dbcdbd0b2fdf12253cd3c3f38b248a6b46", func := "caesura/caesuralaw8.ExprMemory", spec := "exprMemory", inPlace := ["internal/bytealg.IndexByteString", "internal/bytealg.IndexString"], unfollowed := true, recurses := true, named := ["caesura/api.ErrMany", "caesura/api.ErrArg", "caesura/api.ErrForm", "unicode/utf8.first", "unicode/utf8.acceptRanges", "internal/bytealg.MaxLen"], loops := true, apart := false, laid := [("unicode/utf8.acceptRanges", laid_unicode_utf8_acceptRanges), ("caesura/api.ErrArg", laid_caesura_api_ErrArg), ("caesura/api.ErrMany", laid_caesura_api_ErrMany), ("caesura/api.ErrForm", laid_caesura_api_ErrForm), ("unicode/utf8.first", laid_unicode_utf8_first)] }
def ExprMemorySaid : Prop := exprMemoryRow.holds Tryd.pinned (OpenSpec.ofChange exprMemorySpec)

/-- ITS FALSE NEIGHBOUR: 'it returns false'. Refute it at one input. -/
def exprMemoryWrong : ChangeSpec := { name := "exprMemory", fn := fun _ => fun
  | [d] => { results := [.lit (.bool false)], args := [d] }
  | _ => none }
def ExprMemoryWrongFalsely : Prop := exprMemoryRow.holds Tryd.pinned (OpenSpec.ofChange exprMemoryWrong)

/- THE SECOND FORM. 'bulk': how many values and letters a reading holds, each counted each time it is reached (what is shared counts as often as it is met; a slice's spare places count too). A statement '..UptoSaid' is the law's where the arguments, and the package variables that the reading takes, are together of bulk at most 1048576: NARROWER than '..Said'. Prove '..Said' where nothing that the law and all that it calls make is longer than what came in: it says more and counts as full. Else prove '..UptoSaid'. A law counts once. -/
mutual
def uptoBulk {H : Type} : DataW H → Nat
  | .lit (.string bytes) => bytes.length + 1
  | .lit _ => 1
  | .nil => 1
  | .ptr d => uptoBulk d + 1
  | .slice elems spare => uptoBulkAll elems + uptoBulkAll spare + 1
  | .agg parts => uptoBulkAll parts + 1
  | .iface _ d => uptoBulk d + 1
  | .map entries => uptoBulkEntries entries + 1
  | .held _ => 1
def uptoBulkAll {H : Type} : List (DataW H) → Nat
  | [] => 0
  | d :: r => uptoBulk d + uptoBulkAll r
def uptoBulkEntries {H : Type} : List (Lit × DataW H) → Nat
  | [] => 0
  | x :: r => uptoBulkEntry x + uptoBulkEntries r
def uptoBulkEntry {H : Type} : Lit × DataW H → Nat
  | (.string bytes, d) => bytes.length + uptoBulk d + 1
  | (_, d) => uptoBulk d + 1
 end
def uptoSmall : (H : Type) → List (DataW H) → Bool := fun _ ds => decide (uptoBulkAll ds ≤ 1048576)
def OpenSpec.upto (s : _root_.Go.ChangeSpec) : _root_.Go.OpenSpec := { _root_.Go.OpenSpec.ofChange s with cond := some uptoSmall }

/-- 'caesuralaw8.ExprSkips', WHERE WHAT IT READS IS OF BULK AT MOST 1048576: true; the input reads as it did. -/
def exprSkipsUptoRow : OpenClaim := { program := "ytiapefdklojhdaadoor", sum := "c9b466fdce4f9cf1d0266c7e53add4dbcdbd0b2fdf12253cd3c3f38b248a6b46", func := "caesura/caesuralaw8.ExprSkips", spec := "exprSkips", inPlace := ["internal/bytealg.IndexByteString", "internal/bytealg.IndexString"], unfollowed := true, recurses := true, named := ["caesura/api.ErrArg", "caesura/api.ErrMany", "caesura/api.ErrForm", "unicode/utf8.first", "unicode/utf8.acceptRanges", "internal/bytealg.MaxLen"], loops := true, apart := false, laid := [("unicode/utf8.acceptRanges", laid_unicode_utf8_acceptRanges), ("caesura/api.ErrArg", laid_caesura_api_ErrArg), ("caesura/api.ErrMany", laid_caesura_api_ErrMany), ("caesura/api.ErrForm", laid_caesura_api_ErrForm), ("unicode/utf8.first", laid_unicode_utf8_first)], narrowed := true }
def ExprSkipsUptoSaid : Prop := exprSkipsUptoRow.holds Tryd.pinned (OpenSpec.upto exprSkipsSpec)

/-- 'caesuralaw8.ExprMemory', WHERE WHAT IT READS IS OF BULK AT MOST 1048576: true; the input reads as it did. -/
def exprMemoryUptoRow : OpenClaim := { program := "ytiapefdklojhdaadoor", sum := "c9b466fdce4f9cf1d0266c7e53add4dbcdbd0b2fdf12253cd3c3f38b248a6b46", func := "caesura/caesuralaw8.ExprMemory", spec := "exprMemory", inPlace := ["internal/bytealg.IndexByteString", "internal/bytealg.IndexString"], unfollowed := true, recurses := true, named := ["caesura/api.ErrMany", "caesura/api.ErrArg", "caesura/api.ErrForm", "unicode/utf8.first", "unicode/utf8.acceptRanges", "internal/bytealg.MaxLen"], loops := true, apart := false, laid := [("unicode/utf8.acceptRanges", laid_unicode_utf8_acceptRanges), ("caesura/api.ErrArg", laid_caesura_api_ErrArg), ("caesura/api.ErrMany", laid_caesura_api_ErrMany), ("caesura/api.ErrForm", laid_caesura_api_ErrForm), ("unicode/utf8.first", laid_unicode_utf8_first)], narrowed := true }
def ExprMemoryUptoSaid : Prop := exprMemoryUptoRow.holds Tryd.pinned (OpenSpec.upto exprMemorySpec)

end Rows
end Go.Proofs.YtiapefdklojhdaaDoor
