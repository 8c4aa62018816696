/-
  The document's MayBe (stage 23).
-/
import Derived.Test.YtcbepmjojppokaaGreatDoorTfAW
namespace Go.Proofs.YtcbepmjojppokaaGreatDoor.Tp
open Go.RowKit Go.Shelf
end Go.Proofs.YtcbepmjojppokaaGreatDoor.Tp
