/-
  DERIVED. GIVEN WITH THE SEED: THE PROGRAM's TIES (one call each: nine closed facts by the kernel) AND EACH ROW's TIE, after the 31st guide's Derived/Test/Toyas{Tie, Card}.lean. No idea stands in it: it is a product of the set-up. Laid BY PROGRAM, IN A SANDBOX (cutbox-door.mjs). By AI agents, Wed Nov 11 2026. No macro, syntax, notation, axiom, sorry.
-/
import Derived.Test.YtageiccempcbaaaDoorRows
import Derived.LaidByTextLater
import Derived.SevenTiedAt
import Derived.LaidSub
import Derived.LaidOnce
namespace Go.Proofs.YtageiccempcbaaaDoor
open Go
set_option maxRecDepth 100000
theorem seatTie1 : Tryd.prog.laidByTextLater [("caesura/api.ErrArg", Rows.laid_caesura_api_ErrArg), ("caesura/api.ErrMany", Rows.laid_caesura_api_ErrMany), ("caesura/api.ErrShort", Rows.laid_caesura_api_ErrShort), ("caesura/api.ErrForm", Rows.laid_caesura_api_ErrForm), ("bytes.ErrTooLarge", Rows.laid_bytes_ErrTooLarge), ("caesura/codec.halves", Rows.laid_caesura_codec_halves)] [.sentinel, .sentinel, .sentinel, .sentinel, .sentinel, .called] true :=
  Program.laidByTextLater_by_one 3290 8 17 (by kernel_rfl) (by kernel_rfl) (by kernel_rfl) (by kernel_rfl) (by kernel_rfl) (by kernel_rfl) (fun _ _ => by kernel_rfl)
theorem noOwnUnsafe : Tryd.pinned.checked.prog.headLifts.contains "ownunsafe" = false := by kernel_rfl
theorem tie : Tryd.prog.laidByTextLater [("caesura/codec.halves", Rows.laid_caesura_codec_halves)] [.called] true :=
  Program.laidByTextLater.sub seatTie1 ["caesura/codec.halves"] (by kernel_rfl) (by kernel_rfl)
theorem codecSums_row_tie : Rows.codecSumsRow.laidByTextAt .later Tryd.pinned [.called] true :=
  OpenClaim.laidByTextAt_later rfl rfl tie noOwnUnsafe
theorem tie2 : Tryd.prog.laidByTextLater [("caesura/api.ErrArg", Rows.laid_caesura_api_ErrArg), ("bytes.ErrTooLarge", Rows.laid_bytes_ErrTooLarge), ("caesura/codec.halves", Rows.laid_caesura_codec_halves)] [.sentinel, .sentinel, .called] true :=
  Program.laidByTextLater.sub seatTie1 ["caesura/api.ErrArg", "bytes.ErrTooLarge", "caesura/codec.halves"] (by kernel_rfl) (by kernel_rfl)
theorem codecParts_row_tie : Rows.codecPartsRow.laidByTextAt .later Tryd.pinned [.sentinel, .sentinel, .called] true :=
  OpenClaim.laidByTextAt_later rfl rfl tie2 noOwnUnsafe
theorem codecLike_row_tie : Rows.codecLikeRow.laidByTextAt .later Tryd.pinned [.sentinel, .sentinel, .called] true :=
  OpenClaim.laidByTextAt_later rfl rfl tie2 noOwnUnsafe
theorem codecBursts_row_tie : Rows.codecBurstsRow.laidByTextAt .later Tryd.pinned [.sentinel, .sentinel, .called] true :=
  OpenClaim.laidByTextAt_later rfl rfl tie2 noOwnUnsafe
theorem tie3 : Tryd.prog.laidByTextLater [("caesura/api.ErrArg", Rows.laid_caesura_api_ErrArg), ("caesura/api.ErrShort", Rows.laid_caesura_api_ErrShort), ("caesura/api.ErrForm", Rows.laid_caesura_api_ErrForm), ("bytes.ErrTooLarge", Rows.laid_bytes_ErrTooLarge), ("caesura/codec.halves", Rows.laid_caesura_codec_halves)] [.sentinel, .sentinel, .sentinel, .sentinel, .called] true :=
  Program.laidByTextLater.sub seatTie1 ["caesura/api.ErrArg", "caesura/api.ErrShort", "caesura/api.ErrForm", "bytes.ErrTooLarge", "caesura/codec.halves"] (by kernel_rfl) (by kernel_rfl)
theorem codecOne_row_tie : Rows.codecOneRow.laidByTextAt .later Tryd.pinned [.sentinel, .sentinel, .sentinel, .sentinel, .called] true :=
  OpenClaim.laidByTextAt_later rfl rfl tie3 noOwnUnsafe
theorem tie4 : Tryd.prog.laidByTextLater [("caesura/api.ErrArg", Rows.laid_caesura_api_ErrArg), ("caesura/api.ErrMany", Rows.laid_caesura_api_ErrMany), ("caesura/api.ErrShort", Rows.laid_caesura_api_ErrShort), ("caesura/api.ErrForm", Rows.laid_caesura_api_ErrForm), ("bytes.ErrTooLarge", Rows.laid_bytes_ErrTooLarge), ("caesura/codec.halves", Rows.laid_caesura_codec_halves)] [.sentinel, .sentinel, .sentinel, .sentinel, .sentinel, .called] true :=
  Program.laidByTextLater.sub seatTie1 ["caesura/api.ErrArg", "caesura/api.ErrMany", "caesura/api.ErrShort", "caesura/api.ErrForm", "bytes.ErrTooLarge", "caesura/codec.halves"] (by kernel_rfl) (by kernel_rfl)
theorem codecBack_row_tie : Rows.codecBackRow.laidByTextAt .later Tryd.pinned [.sentinel, .sentinel, .sentinel, .sentinel, .sentinel, .called] true :=
  OpenClaim.laidByTextAt_later rfl rfl tie4 noOwnUnsafe
theorem codecSumsUpto_row_tie : Rows.codecSumsUptoRow.laidByTextAt .later Tryd.pinned [.called] true :=
  OpenClaim.laidByTextAt_later rfl rfl tie noOwnUnsafe
theorem codecPartsUpto_row_tie : Rows.codecPartsUptoRow.laidByTextAt .later Tryd.pinned [.sentinel, .sentinel, .called] true :=
  OpenClaim.laidByTextAt_later rfl rfl tie2 noOwnUnsafe
theorem codecLikeUpto_row_tie : Rows.codecLikeUptoRow.laidByTextAt .later Tryd.pinned [.sentinel, .sentinel, .called] true :=
  OpenClaim.laidByTextAt_later rfl rfl tie2 noOwnUnsafe
theorem codecBurstsUpto_row_tie : Rows.codecBurstsUptoRow.laidByTextAt .later Tryd.pinned [.sentinel, .sentinel, .called] true :=
  OpenClaim.laidByTextAt_later rfl rfl tie2 noOwnUnsafe
theorem codecOneUpto_row_tie : Rows.codecOneUptoRow.laidByTextAt .later Tryd.pinned [.sentinel, .sentinel, .sentinel, .sentinel, .called] true :=
  OpenClaim.laidByTextAt_later rfl rfl tie3 noOwnUnsafe
theorem codecBackUpto_row_tie : Rows.codecBackUptoRow.laidByTextAt .later Tryd.pinned [.sentinel, .sentinel, .sentinel, .sentinel, .sentinel, .called] true :=
  OpenClaim.laidByTextAt_later rfl rfl tie4 noOwnUnsafe
end Go.Proofs.YtageiccempcbaaaDoor
