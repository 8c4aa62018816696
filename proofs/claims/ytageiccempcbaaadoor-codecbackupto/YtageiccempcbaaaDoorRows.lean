/-
  NARROWER THAN 'FOR EVERY INPUT', by the rows' own cells (each row's printed sentence says how): CodecSums: laid · CodecParts: laid · CodecLike: laid · CodecBursts: laid · CodecOne: laid · CodecBack: laid.
  DERIVED. THE GIVEN ROWS OF THIS SEAT. 6 by the template 'for every input the law returns true; each argument reads behind the call as it read before'; 0 by the template 'total and deterministic' (their statements: YtageiccempcbaaaDoorTotals.lean).
  GIVEN WITH THE SEED: the statements are not yours to turn. If you find one false, say at which input.
  Laid BY PROGRAM, IN A SANDBOX (cutbox-rows.mjs): the forced cells as the released guide's own fill.sh prints them over the translation 1de7a1c5fb1b26b1… (all of the seat's roots in one cut). By AI agents, Wed Nov 11 2026. No macro, syntax, notation, axiom, sorry.
-/
import Derived.Test.YtageiccempcbaaaDoorChecked
import GoSem.Claim
import GoSem.ClaimJoined
import GoSem.ClaimMapViews
import Derived.JoinedTies
import Derived.KernelRfl
namespace Go.Proofs.YtageiccempcbaaaDoor
/- THE CELL 'sum', in the pinned program and in every row, IS THE sha256 OF THE DUMP (.gsa) THAT YtageiccempcbaaaDoorProg.lean LOADS. Nothing in Lean hashes anything: it is a label: what it is worth is what the hold of that sum in a sandbox is worth. -/
noncomputable def Tryd.pinned : Pinned := { name := "ytageiccempcbaaadoor", sum := "1de7a1c5fb1b26b19ad57d98a66bd42ebd3e221411ade74e04d0516edde94eee", checked := Tryd.checked }
namespace Rows
def none {H : Type} : Left H := { results := [], args := [] }

/- WHAT THE LISTED PACKAGE-LEVEL VARIABLES READ AS WHEN THE CALL BEGINS. Each datum BY PROGRAM (the guide's laid-datum.mjs) off the statement by which the dump's own 'gosem.cut.vars' lays the variable. In a bare row this is a premise. The card (YtageiccempcbaaaDoorCards.lean) ties it to the program's text. -/
def laid_caesura_codec_halves {H : Type} : DataW H := .agg [.lit (.int .u32 0), .lit (.int .u32 498536548), .lit (.int .u32 997073096), .lit (.int .u32 651767980), .lit (.int .u32 1994146192), .lit (.int .u32 1802195444), .lit (.int .u32 1303535960), .lit (.int .u32 1342533948), .lit (.int .u32 3988292384), .lit (.int .u32 4027552580), .lit (.int .u32 3604390888), .lit (.int .u32 3412177804), .lit (.int .u32 2607071920), .lit (.int .u32 2262029012), .lit (.int .u32 2685067896), .lit (.int .u32 3183342108)]
def laid_caesura_api_ErrArg {H : Type} : DataW H := .iface "*errors.errorString" (.ptr (.agg [.lit (.string [97, 32, 110, 117, 109, 98, 101, 114, 32, 111, 114, 32, 97, 110, 32, 97, 114, 103, 117, 109, 101, 110, 116, 32, 105, 115, 32, 111, 117, 116, 32, 111, 102, 32, 105, 116, 115, 32, 112, 108, 97, 99, 101])]))
def laid_bytes_ErrTooLarge {H : Type} : DataW H := .iface "*errors.errorString" (.ptr (.agg [.lit (.string [98, 121, 116, 101, 115, 46, 66, 117, 102, 102, 101, 114, 58, 32, 116, 111, 111, 32, 108, 97, 114, 103, 101])]))
def laid_caesura_api_ErrShort {H : Type} : DataW H := .iface "*errors.errorString" (.ptr (.agg [.lit (.string [115, 111, 109, 101, 116, 104, 105, 110, 103, 32, 105, 115, 32, 109, 105, 115, 115, 105, 110, 103])]))
def laid_caesura_api_ErrForm {H : Type} : DataW H := .iface "*errors.errorString" (.ptr (.agg [.lit (.string [110, 111, 116, 32, 116, 104, 101, 32, 111, 110, 101, 32, 102, 111, 114, 109, 32, 116, 104, 97, 116, 32, 105, 115, 32, 119, 114, 105, 116, 116, 101, 110])]))
def laid_caesura_api_ErrMany {H : Type} : DataW H := .iface "*errors.errorString" (.ptr (.agg [.lit (.string [97, 98, 111, 118, 101, 32, 97, 32, 108, 105, 109, 105, 116])]))

/-- 'caesuralaw1.CodecSums': WHATEVER THE INPUT: true; the input reads as it did. -/
def codecSumsSpec : ChangeSpec := { name := "codecSums", fn := fun _ => fun
  | [d] => { results := [.lit (.bool true)], args := [d] }
  | _ => none }
def codecSumsRow : OpenClaim := { program := "ytageiccempcbaaadoor", sum := "1de7a1c5fb1b26b19ad57d98a66bd42ebd3e221411ade74e04d0516edde94eee", func := "caesura/caesuralaw1.CodecSums", spec := "codecSums", named := ["caesura/codec.halves"], apart := false, laid := [("caesura/codec.halves", laid_caesura_codec_halves)] }
def CodecSumsSaid : Prop := codecSumsRow.holds Tryd.pinned (OpenSpec.ofChange codecSumsSpec)

/-- ITS FALSE NEIGHBOUR: 'it returns false'. Refute it at one input. -/
def codecSumsWrong : ChangeSpec := { name := "codecSums", fn := fun _ => fun
  | [d] => { results := [.lit (.bool false)], args := [d] }
  | _ => none }
def CodecSumsWrongFalsely : Prop := codecSumsRow.holds Tryd.pinned (OpenSpec.ofChange codecSumsWrong)

/-- 'caesuralaw1.CodecParts': WHATEVER THE INPUT: true; the input reads as it did. -/
def codecPartsSpec : ChangeSpec := { name := "codecParts", fn := fun _ => fun
  | [d] => { results := [.lit (.bool true)], args := [d] }
  | _ => none }
def codecPartsRow : OpenClaim := { program := "ytageiccempcbaaadoor", sum := "1de7a1c5fb1b26b19ad57d98a66bd42ebd3e221411ade74e04d0516edde94eee", func := "caesura/caesuralaw1.CodecParts", spec := "codecParts", named := ["caesura/codec.halves", "caesura/api.ErrArg", "bytes.ErrTooLarge"], apart := false, laid := [("caesura/api.ErrArg", laid_caesura_api_ErrArg), ("bytes.ErrTooLarge", laid_bytes_ErrTooLarge), ("caesura/codec.halves", laid_caesura_codec_halves)] }
def CodecPartsSaid : Prop := codecPartsRow.holds Tryd.pinned (OpenSpec.ofChange codecPartsSpec)

/-- ITS FALSE NEIGHBOUR: 'it returns false'. Refute it at one input. -/
def codecPartsWrong : ChangeSpec := { name := "codecParts", fn := fun _ => fun
  | [d] => { results := [.lit (.bool false)], args := [d] }
  | _ => none }
def CodecPartsWrongFalsely : Prop := codecPartsRow.holds Tryd.pinned (OpenSpec.ofChange codecPartsWrong)

/-- 'caesuralaw1.CodecLike': WHATEVER THE INPUT: true; the input reads as it did. -/
def codecLikeSpec : ChangeSpec := { name := "codecLike", fn := fun _ => fun
  | [d] => { results := [.lit (.bool true)], args := [d] }
  | _ => none }
def codecLikeRow : OpenClaim := { program := "ytageiccempcbaaadoor", sum := "1de7a1c5fb1b26b19ad57d98a66bd42ebd3e221411ade74e04d0516edde94eee", func := "caesura/caesuralaw1.CodecLike", spec := "codecLike", named := ["caesura/codec.halves", "caesura/api.ErrArg", "bytes.ErrTooLarge"], apart := false, laid := [("caesura/api.ErrArg", laid_caesura_api_ErrArg), ("bytes.ErrTooLarge", laid_bytes_ErrTooLarge), ("caesura/codec.halves", laid_caesura_codec_halves)] }
def CodecLikeSaid : Prop := codecLikeRow.holds Tryd.pinned (OpenSpec.ofChange codecLikeSpec)

/-- ITS FALSE NEIGHBOUR: 'it returns false'. Refute it at one input. -/
def codecLikeWrong : ChangeSpec := { name := "codecLike", fn := fun _ => fun
  | [d] => { results := [.lit (.bool false)], args := [d] }
  | _ => none }
def CodecLikeWrongFalsely : Prop := codecLikeRow.holds Tryd.pinned (OpenSpec.ofChange codecLikeWrong)

/-- 'caesuralaw1.CodecBursts': WHATEVER THE INPUT: true; the input reads as it did. -/
def codecBurstsSpec : ChangeSpec := { name := "codecBursts", fn := fun _ => fun
  | [d] => { results := [.lit (.bool true)], args := [d] }
  | _ => none }
def codecBurstsRow : OpenClaim := { program := "ytageiccempcbaaadoor", sum := "1de7a1c5fb1b26b19ad57d98a66bd42ebd3e221411ade74e04d0516edde94eee", func := "caesura/caesuralaw1.CodecBursts", spec := "codecBursts", named := ["caesura/codec.halves", "caesura/api.ErrArg", "bytes.ErrTooLarge"], apart := false, laid := [("caesura/api.ErrArg", laid_caesura_api_ErrArg), ("bytes.ErrTooLarge", laid_bytes_ErrTooLarge), ("caesura/codec.halves", laid_caesura_codec_halves)] }
def CodecBurstsSaid : Prop := codecBurstsRow.holds Tryd.pinned (OpenSpec.ofChange codecBurstsSpec)

/-- ITS FALSE NEIGHBOUR: 'it returns false'. Refute it at one input. -/
def codecBurstsWrong : ChangeSpec := { name := "codecBursts", fn := fun _ => fun
  | [d] => { results := [.lit (.bool false)], args := [d] }
  | _ => none }
def CodecBurstsWrongFalsely : Prop := codecBurstsRow.holds Tryd.pinned (OpenSpec.ofChange codecBurstsWrong)

/-- 'caesuralaw1.CodecOne': WHATEVER THE INPUT: true; the input reads as it did. -/
def codecOneSpec : ChangeSpec := { name := "codecOne", fn := fun _ => fun
  | [d] => { results := [.lit (.bool true)], args := [d] }
  | _ => none }
def codecOneRow : OpenClaim := { program := "ytageiccempcbaaadoor", sum := "1de7a1c5fb1b26b19ad57d98a66bd42ebd3e221411ade74e04d0516edde94eee", func := "caesura/caesuralaw1.CodecOne", spec := "codecOne", named := ["caesura/codec.halves", "caesura/api.ErrArg", "bytes.ErrTooLarge", "caesura/api.ErrForm", "caesura/api.ErrShort"], apart := false, laid := [("caesura/api.ErrArg", laid_caesura_api_ErrArg), ("caesura/api.ErrShort", laid_caesura_api_ErrShort), ("caesura/api.ErrForm", laid_caesura_api_ErrForm), ("bytes.ErrTooLarge", laid_bytes_ErrTooLarge), ("caesura/codec.halves", laid_caesura_codec_halves)] }
def CodecOneSaid : Prop := codecOneRow.holds Tryd.pinned (OpenSpec.ofChange codecOneSpec)

/-- ITS FALSE NEIGHBOUR: 'it returns false'. Refute it at one input. -/
def codecOneWrong : ChangeSpec := { name := "codecOne", fn := fun _ => fun
  | [d] => { results := [.lit (.bool false)], args := [d] }
  | _ => none }
def CodecOneWrongFalsely : Prop := codecOneRow.holds Tryd.pinned (OpenSpec.ofChange codecOneWrong)

/-- 'caesuralaw1.CodecBack': WHATEVER THE INPUT: true; the input reads as it did. -/
def codecBackSpec : ChangeSpec := { name := "codecBack", fn := fun _ => fun
  | [d] => { results := [.lit (.bool true)], args := [d] }
  | _ => none }
def codecBackRow : OpenClaim := { program := "ytageiccempcbaaadoor", sum := "1de7a1c5fb1b26b19ad57d98a66bd42ebd3e221411ade74e04d0516edde94eee", func := "caesura/caesuralaw1.CodecBack", spec := "codecBack", named := ["caesura/codec.halves", "caesura/api.ErrArg", "bytes.ErrTooLarge", "caesura/api.ErrMany", "caesura/api.ErrShort", "caesura/api.ErrForm"], apart := false, laid := [("caesura/api.ErrArg", laid_caesura_api_ErrArg), ("caesura/api.ErrMany", laid_caesura_api_ErrMany), ("caesura/api.ErrShort", laid_caesura_api_ErrShort), ("caesura/api.ErrForm", laid_caesura_api_ErrForm), ("bytes.ErrTooLarge", laid_bytes_ErrTooLarge), ("caesura/codec.halves", laid_caesura_codec_halves)] }
def CodecBackSaid : Prop := codecBackRow.holds Tryd.pinned (OpenSpec.ofChange codecBackSpec)

/-- ITS FALSE NEIGHBOUR: 'it returns false'. Refute it at one input. -/
def codecBackWrong : ChangeSpec := { name := "codecBack", fn := fun _ => fun
  | [d] => { results := [.lit (.bool false)], args := [d] }
  | _ => none }
def CodecBackWrongFalsely : Prop := codecBackRow.holds Tryd.pinned (OpenSpec.ofChange codecBackWrong)

/- THE SECOND FORM. 'bulk': how many values and letters a reading holds, each counted each time it is reached (what is shared counts as often as it is met; a slice's spare places count too). A statement '..UptoSaid' is the law's where the arguments, and the package variables that the reading takes, are together of bulk at most 1048576: NARROWER than '..Said'. Prove '..Said' where nothing that the law and all that it calls make is longer than what came in: it says more and counts as full. Else prove '..UptoSaid'. A law counts once. -/
mutual
def uptoBulk {H : Type} : DataW H → Nat
  | .lit (.string bytes) => bytes.length + 1
  | .lit _ => 1
  | .nil => 1
  | .ptr d => uptoBulk d + 1
  | .slice elems spare => uptoBulkAll elems + uptoBulkAll spare + 1
  | .agg parts => uptoBulkAll parts + 1
  | .iface _ d => uptoBulk d + 1
  | .map entries => uptoBulkEntries entries + 1
  | .held _ => 1
def uptoBulkAll {H : Type} : List (DataW H) → Nat
  | [] => 0
  | d :: r => uptoBulk d + uptoBulkAll r
def uptoBulkEntries {H : Type} : List (Lit × DataW H) → Nat
  | [] => 0
  | x :: r => uptoBulkEntry x + uptoBulkEntries r
def uptoBulkEntry {H : Type} : Lit × DataW H → Nat
  | (.string bytes, d) => bytes.length + uptoBulk d + 1
  | (_, d) => uptoBulk d + 1
 end
def uptoSmall : (H : Type) → List (DataW H) → Bool := fun _ ds => decide (uptoBulkAll ds ≤ 1048576)
def OpenSpec.upto (s : _root_.Go.ChangeSpec) : _root_.Go.OpenSpec := { _root_.Go.OpenSpec.ofChange s with cond := some uptoSmall }

/-- 'caesuralaw1.CodecSums', WHERE WHAT IT READS IS OF BULK AT MOST 1048576: true; the input reads as it did. -/
def codecSumsUptoRow : OpenClaim := { program := "ytageiccempcbaaadoor", sum := "1de7a1c5fb1b26b19ad57d98a66bd42ebd3e221411ade74e04d0516edde94eee", func := "caesura/caesuralaw1.CodecSums", spec := "codecSums", named := ["caesura/codec.halves"], apart := false, laid := [("caesura/codec.halves", laid_caesura_codec_halves)], narrowed := true }
def CodecSumsUptoSaid : Prop := codecSumsUptoRow.holds Tryd.pinned (OpenSpec.upto codecSumsSpec)

/-- 'caesuralaw1.CodecParts', WHERE WHAT IT READS IS OF BULK AT MOST 1048576: true; the input reads as it did. -/
def codecPartsUptoRow : OpenClaim := { program := "ytageiccempcbaaadoor", sum := "1de7a1c5fb1b26b19ad57d98a66bd42ebd3e221411ade74e04d0516edde94eee", func := "caesura/caesuralaw1.CodecParts", spec := "codecParts", named := ["caesura/codec.halves", "caesura/api.ErrArg", "bytes.ErrTooLarge"], apart := false, laid := [("caesura/api.ErrArg", laid_caesura_api_ErrArg), ("bytes.ErrTooLarge", laid_bytes_ErrTooLarge), ("caesura/codec.halves", laid_caesura_codec_halves)], narrowed := true }
def CodecPartsUptoSaid : Prop := codecPartsUptoRow.holds Tryd.pinned (OpenSpec.upto codecPartsSpec)

/-- 'caesuralaw1.CodecLike', WHERE WHAT IT READS IS OF BULK AT MOST 1048576: true; the input reads as it did. -/
def codecLikeUptoRow : OpenClaim := { program := "ytageiccempcbaaadoor", sum := "1de7a1c5fb1b26b19ad57d98a66bd42ebd3e221411ade74e04d0516edde94eee", func := "caesura/caesuralaw1.CodecLike", spec := "codecLike", named := ["caesura/codec.halves", "caesura/api.ErrArg", "bytes.ErrTooLarge"], apart := false, laid := [("caesura/api.ErrArg", laid_caesura_api_ErrArg), ("bytes.ErrTooLarge", laid_bytes_ErrTooLarge), ("caesura/codec.halves", laid_caesura_codec_halves)], narrowed := true }
def CodecLikeUptoSaid : Prop := codecLikeUptoRow.holds Tryd.pinned (OpenSpec.upto codecLikeSpec)

/-- 'caesuralaw1.CodecBursts', WHERE WHAT IT READS IS OF BULK AT MOST 1048576: true; the input reads as it did. -/
def codecBurstsUptoRow : OpenClaim := { program := "ytageiccempcbaaadoor", sum := "1de7a1c5fb1b26b19ad57d98a66bd42ebd3e221411ade74e04d0516edde94eee", func := "caesura/caesuralaw1.CodecBursts", spec := "codecBursts", named := ["caesura/codec.halves", "caesura/api.ErrArg", "bytes.ErrTooLarge"], apart := false, laid := [("caesura/api.ErrArg", laid_caesura_api_ErrArg), ("bytes.ErrTooLarge", laid_bytes_ErrTooLarge), ("caesura/codec.halves", laid_caesura_codec_halves)], narrowed := true }
def CodecBurstsUptoSaid : Prop := codecBurstsUptoRow.holds Tryd.pinned (OpenSpec.upto codecBurstsSpec)

/-- 'caesuralaw1.CodecOne', WHERE WHAT IT READS IS OF BULK AT MOST 1048576: true; the input reads as it did. -/
def codecOneUptoRow : OpenClaim := { program := "ytageiccempcbaaadoor", sum := "1de7a1c5fb1b26b19ad57d98a66bd42ebd3e221411ade74e04d0516edde94eee", func := "caesura/caesuralaw1.CodecOne", spec := "codecOne", named := ["caesura/codec.halves", "caesura/api.ErrArg", "bytes.ErrTooLarge", "caesura/api.ErrForm", "caesura/api.ErrShort"], apart := false, laid := [("caesura/api.ErrArg", laid_caesura_api_ErrArg), ("caesura/api.ErrShort", laid_caesura_api_ErrShort), ("caesura/api.ErrForm", laid_caesura_api_ErrForm), ("bytes.ErrTooLarge", laid_bytes_ErrTooLarge), ("caesura/codec.halves", laid_caesura_codec_halves)], narrowed := true }
def CodecOneUptoSaid : Prop := codecOneUptoRow.holds Tryd.pinned (OpenSpec.upto codecOneSpec)

/-- 'caesuralaw1.CodecBack', WHERE WHAT IT READS IS OF BULK AT MOST 1048576: true; the input reads as it did. -/
def codecBackUptoRow : OpenClaim := { program := "ytageiccempcbaaadoor", sum := "1de7a1c5fb1b26b19ad57d98a66bd42ebd3e221411ade74e04d0516edde94eee", func := "caesura/caesuralaw1.CodecBack", spec := "codecBack", named := ["caesura/codec.halves", "caesura/api.ErrArg", "bytes.ErrTooLarge", "caesura/api.ErrMany", "caesura/api.ErrShort", "caesura/api.ErrForm"], apart := false, laid := [("caesura/api.ErrArg", laid_caesura_api_ErrArg), ("caesura/api.ErrMany", laid_caesura_api_ErrMany), ("caesura/api.ErrShort", laid_caesura_api_ErrShort), ("caesura/api.ErrForm", laid_caesura_api_ErrForm), ("bytes.ErrTooLarge", laid_bytes_ErrTooLarge), ("caesura/codec.halves", laid_caesura_codec_halves)], narrowed := true }
def CodecBackUptoSaid : Prop := codecBackUptoRow.holds Tryd.pinned (OpenSpec.upto codecBackSpec)

end Rows
end Go.Proofs.YtageiccempcbaaaDoor
