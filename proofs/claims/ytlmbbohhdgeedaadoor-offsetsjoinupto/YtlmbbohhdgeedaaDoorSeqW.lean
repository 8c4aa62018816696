/-
  The walk of units.sequenceOf.
-/
import Derived.Test.YtlmbbohhdgeedaaDoorProg
import Derived.WalkKit
import Derived.WalkSpells
import Derived.WalkLawsBesides
import Derived.Handy
namespace Go.Proofs.YtlmbbohhdgeedaaDoor
open Go.RowKit
/-- The table's columns. -/
def tLo (i : Nat) : Nat := [0, 194, 224, 225, 237, 238, 240, 241, 244].getD i 0
def tHi (i : Nat) : Nat := [127, 223, 224, 236, 237, 239, 240, 243, 244].getD i 0
def tLo2 (i : Nat) : Nat := [0, 128, 160, 128, 128, 128, 144, 128, 128].getD i 0
def tHi2 (i : Nat) : Nat := [0, 191, 191, 191, 159, 191, 191, 191, 143].getD i 0
def tSz (i : Nat) : Nat := [1, 2, 3, 3, 3, 3, 4, 4, 4].getD i 0
def tMk (i : Nat) : Nat := [0, 192, 224, 224, 224, 224, 240, 240, 240].getD i 0
/-- A row as cells. -/
def rowCells (i : Nat) : List Value := [.int .u8 (tLo i), .int .u8 (tHi i), .int .u8 (tLo2 i), .int .u8 (tHi2 i), .int .i64 (tSz i), .int .u8 (tMk i)]
def rowVal (i : Nat) : Value := .agg #[.int .u8 (tLo i), .int .u8 (tHi i), .int .u8 (tLo2 i), .int .u8 (tHi2 i), .int .i64 (tSz i), .int .u8 (tMk i)]
def noRow : Value := .agg #[.int .u8 0, .int .u8 0, .int .u8 0, .int .u8 0, .int .i64 0, .int .u8 0]
/-- The table in memory. -/
def SeqAt (w : World) : Prop := ∀ i < 9, ∀ k < 6, w.cell? ⟨11, i * 6 + k, none⟩ = (rowCells i)[k]?
theorem SeqAt.row {w : World} (h : SeqAt w) (i : Nat) (hi : i < 9) :
    w.cell? ⟨11, i * 6, none⟩ = some (.int .u8 (tLo i)) ∧ w.cell? ⟨11, i * 6 + 1, none⟩ = some (.int .u8 (tHi i)) ∧ w.cell? ⟨11, i * 6 + 2, none⟩ = some (.int .u8 (tLo2 i)) ∧ w.cell? ⟨11, i * 6 + 3, none⟩ = some (.int .u8 (tHi2 i)) ∧ w.cell? ⟨11, i * 6 + 4, none⟩ = some (.int .i64 (tSz i)) ∧ w.cell? ⟨11, i * 6 + 5, none⟩ = some (.int .u8 (tMk i)) :=
  ⟨h i hi 0 (by omega), h i hi 1 (by omega), h i hi 2 (by omega), h i hi 3 (by omega), h i hi 4 (by omega), h i hi 5 (by omega)⟩
/-- Which row a lead byte has, from the i-th on. -/
def fitsRow (c i : Nat) : Bool := decide (tLo i ≤ c) && decide (c ≤ tHi i)
def rowFrom (c : Nat) : Nat → Nat → Option Nat
  | 0, _ => none
  | n + 1, i => if fitsRow c i then some i else rowFrom c n (i + 1)
def rowOf (c : Nat) : Option Nat := rowFrom c 9 0
def seqRes (c : Nat) : Value := match rowOf c with
  | some i => .tuple #[rowVal i, .bool true]
  | none => .tuple #[noRow, .bool false]
theorem SeqAt.below {w w' : World} {B : Nat} (h : SeqAt w) (hb : Below B w w') (h0 : 11 < B) : SeqAt w' := fun i hi k hk => (hb.cell (p := ⟨11, _, none⟩) h0).trans (h i hi k hk)
theorem SeqAt.pos {w : World} (h : SeqAt w) : 11 < w.heap.size := World.block_lt_of_cell? w _ (h.row 0 (by omega)).1
theorem alloc_below (w : World) (o : Obj) : Below w.heap.size w (w.alloc o) := (Below.refl _ _).alloc (Nat.le_refl _) o
theorem SeqAt.later {w w' : World} (h : SeqAt w) (hb : Below w.heap.size w w') : SeqAt w' := h.below hb h.pos
theorem tab_lt : ∀ k < 9, tLo k < 256 ∧ tHi k < 256 ∧ tLo2 k < 256 ∧ tHi2 k < 256 ∧ tSz k < 5 ∧ tMk k < 256 := by decide
set_option maxRecDepth 10000 in
set_option maxHeartbeats 400000 in
theorem seqOf_any (c : UInt8) (w : World) (hT : SeqAt w) :
    Calls Tryd.prog 62 #[.int .u8 (c.toNat : Int)] w fun e w' => e = .returned (seqRes c.toNat) ∧ Below w.heap.size w w' := by
  have hc := c.toNat_lt
  have HT : Hid (SeqAt (w.alloc (.cells #[.int .u8 0, .int .u8 0, .int .u8 0, .int .u8 0, .int .i64 0, .int .u8 0] 95))) := hT.later (alloc_below _ _)
  have hpos := hT.pos
  clear hT
  go_enter Tryd.func62, Tryd.ntmps62
  go_wp2
  go_loop [5] (fun i => ∃ k : Nat, k ≤ 9 ∧ i = .int .i64 k ∧ rowOf c.toNat = rowFrom c.toNat (9 - k) k) (fun i => 9 - (intOf i).toNat)
  case atStart => exact ⟨0, Nat.zero_le _, rfl, rfl⟩
  case round =>
    obtain ⟨k, hk, rfl, hr⟩ := hrel
    have HR : Hid (rowOf c.toNat = rowFrom c.toNat (9 - k) k) := hr
    clear hr
    by_cases hlt : k < 9
    · obtain ⟨r0, r1, r2, r3, r4, r5⟩ := HT.out.row k hlt
      obtain ⟨hl0, hl1, hl2, hl3, hl4, hl5⟩ := tab_lt k hlt
      have hu : 9 - k = (8 - k) + 1 := by omega
      by_cases h0 : tLo k ≤ c.toNat
      · by_cases h1 : c.toNat ≤ tHi k
        · have HV : Hid (seqRes c.toNat = .tuple #[rowVal k, .bool true]) := by
            show _ = _
            rw [seqRes, HR.out, hu, rowFrom, fitsRow, decide_eq_true h0, decide_eq_true h1]
            rfl
          clear hu
          go_wp2
          go_returns
          exact ⟨by rw [HV.out]; rfl, by go_grown⟩
        · have HV : Hid (rowOf c.toNat = rowFrom c.toNat (9 - (k + 1)) (k + 1)) := by
            show _ = _
            rw [HR.out, hu, rowFrom, fitsRow, decide_eq_false h1, Bool.and_false, show 8 - k = 9 - (k + 1) by omega]
            rfl
          clear hu
          go_wp2
          go_round
          case rel => exact ⟨k + 1, by omega, by go_num, HV.out⟩
          case measure => simp [intOf]; omega
      · have HV : Hid (rowOf c.toNat = rowFrom c.toNat (9 - (k + 1)) (k + 1)) := by
          show _ = _
          rw [HR.out, hu, rowFrom, fitsRow, decide_eq_false h0, Bool.false_and, show 8 - k = 9 - (k + 1) by omega]
          rfl
        clear hu
        go_wp2
        go_round
        case rel => exact ⟨k + 1, by omega, by go_num, HV.out⟩
        case measure => simp [intOf]; omega
    · obtain rfl : k = 9 := by omega
      have HV : Hid (seqRes c.toNat = .tuple #[noRow, .bool false]) := by
        show _ = _
        rw [seqRes, HR.out]
        rfl
      go_wp2
      go_returns
      exact ⟨by rw [HV.out]; rfl, by go_grown⟩
end Go.Proofs.YtlmbbohhdgeedaaDoor
