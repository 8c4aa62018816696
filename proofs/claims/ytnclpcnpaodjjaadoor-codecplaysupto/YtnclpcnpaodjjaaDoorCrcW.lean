/-
  The walks of codec.CrcMore, codec.Crc, caesuraref1.CrcMore, caesuraref1.Crc.
-/
import Derived.Test.YtnclpcnpaodjjaaDoorProg
import Derived.Test.YtnclpcnpaodjjaaDoorCrc
import Derived.WalkKit
import Derived.WalkSpells
import Derived.WalkLawsBesides
namespace Go.Proofs.YtnclpcnpaodjjaaDoor
open Go.RowKit
/-- A slice value that reads as these bytes. -/
def BytesAt (w : World) (v : Value) (l : List UInt8) : Prop :=
  (v = .slice none 0 0 ∧ l = []) ∨ ∃ b off cap, v = .slice (some ⟨b, off, none⟩) l.length cap ∧ ∀ k (h : k < l.length), w.cell? ⟨b, off + k, none⟩ = some (.int .u8 (l[k].toNat : Int))
theorem take_snoc {α : Type} (l : List α) (k : Nat) (h : k < l.length) : l.take (k + 1) = l.take k ++ [l[k]] := by
  rw [List.take_succ_eq_append_getElem h]
end Go.Proofs.YtnclpcnpaodjjaaDoor
