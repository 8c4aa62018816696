/-
  The three refusals that a reader and a printer of test files name (stage 23).
-/
import Derived.Test.YtcbepmjojppokaaGreatDoorSentW
namespace Go.Proofs.YtcbepmjojppokaaGreatDoor
open Go.RowKit
/-- Three of the refusals in memory. -/
structure Sen3 (w : World) (A : Nat → Addr) : Prop where
  c0 : w.cell? ⟨1, 0, none⟩ = some (.iface 189 (.pointer (some (A 0))))
  c1 : w.cell? ⟨2, 0, none⟩ = some (.iface 189 (.pointer (some (A 1))))
  c2 : w.cell? ⟨0, 0, none⟩ = some (.iface 189 (.pointer (some (A 2))))
theorem Sen3.below {w w' : World} {A : Nat → Addr} (h : Sen3 w A) (hb : Below w.heap.size w w') : Sen3 w' A where
  c0 := (hb.cell (p := ⟨1, 0, none⟩) (World.block_lt_of_cell? w _ h.c0)).trans h.c0
  c1 := (hb.cell (p := ⟨2, 0, none⟩) (World.block_lt_of_cell? w _ h.c1)).trans h.c1
  c2 := (hb.cell (p := ⟨0, 0, none⟩) (World.block_lt_of_cell? w _ h.c2)).trans h.c2
theorem Sents.three {w : World} {A : Nat → Addr} (h : Sents w A) : Sen3 w A := ⟨h.c0, h.c1, h.c2⟩
end Go.Proofs.YtcbepmjojppokaaGreatDoor
