/-
  From each edge there and back: mathematics; what the maps answer at an edge.
-/
import Derived.Test.YtlmbbohhdgeedaaDoorOzIW
import Derived.Test.YtlmbbohhdgeedaaDoorOzLW
namespace Go.Proofs.YtlmbbohhdgeedaaDoor
open Go.RowKit
theorem hitB_at (l : List UInt8) (k : Nat) (h : k < (allP l).length) : hit (sgB ((allP l)[k].b : Int)) (allP l) = some (allP l)[k] := hit_at (risB l _) k h ((cmpI_zero _ _).2 rfl)
theorem hitU_at' (l : List UInt8) (k : Nat) (h : k < (allP l).length) : hit (sgU ((allP l)[k].u : Int)) (allP l) = some (allP l)[k] := hit_at (risU l _) k h ((cmpI_zero _ _).2 rfl)
theorem hitW_at (l : List UInt8) (k : Nat) (h : k < (allP l).length) : hit (sgW ((allP l)[k].w : Int)) (allP l) = some (allP l)[k] := hit_at (risW l _) k h ((cmpI_zero _ _).2 rfl)
theorem hitL_at (l : List UInt8) (k : Nat) (h : k < (allP l).length) : hit (sgL ((allP l)[k].l : Int) ((allP l)[k].c : Int)) (allP l) = some (allP l)[k] := hit_at (risL l _ _) k h ((sgL_zero _ _ _).2 ⟨rfl, rfl⟩)
theorem allP_u (l : List UInt8) (k : Nat) (h : k < (allP l).length) : (allP l)[k].u = k ∧ (allP l)[k].b = posK l k := by
  rw [allP_at]
  rw [allP_len] at h
  exact ⟨(stK_b l k (by omega)).2, (stK_b l k (by omega)).1⟩
/-- What the maps answer at an edge. -/
structure EdgeK (l : List UInt8) (B : Nat) (pe : Addr) (p : Pl) : Prop where
  unit : ∀ W, AskI W B (allP l) pe → Calls Tryd.prog 9 #[.pointer (some ⟨B, 0, none⟩), .int .i64 (p.b : Int)] W fun e w' => e = .returned (.tuple #[.int .i64 (p.u : Int), .nilIface]) ∧ Below W.heap.size W w'
  wide : ∀ W, AskI W B (allP l) pe → Calls Tryd.prog 10 #[.pointer (some ⟨B, 0, none⟩), .int .i64 (p.b : Int)] W fun e w' => e = .returned (.tuple #[.int .i64 (p.w : Int), .nilIface]) ∧ Below W.heap.size W w'
  line : ∀ W, AskI W B (allP l) pe → Calls Tryd.prog 11 #[.pointer (some ⟨B, 0, none⟩), .int .i64 (p.b : Int)] W fun e w' => e = .returned (.tuple #[.int .i64 (p.l : Int), .int .i64 (p.c : Int), .nilIface]) ∧ Below W.heap.size W w'
  byte : ∀ W, AskI W B (allP l) pe → Calls Tryd.prog 12 #[.pointer (some ⟨B, 0, none⟩), .int .i64 (p.u : Int)] W fun e w' => e = .returned (.tuple #[.int .i64 (p.b : Int), .nilIface]) ∧ Below W.heap.size W w'
  narrow : ∀ W, AskI W B (allP l) pe → Calls Tryd.prog 13 #[.pointer (some ⟨B, 0, none⟩), .int .i64 (p.w : Int)] W fun e w' => e = .returned (.tuple #[.int .i64 (p.b : Int), .nilIface]) ∧ Below W.heap.size W w'
  at' : ∀ W, AskI W B (allP l) pe → Calls Tryd.prog 14 #[.pointer (some ⟨B, 0, none⟩), .int .i64 (p.l : Int), .int .i64 (p.c : Int)] W fun e w' => e = .returned (.tuple #[.int .i64 (p.b : Int), .nilIface]) ∧ Below W.heap.size W w'
theorem edgeK (l : List UInt8) (hL : (allP l).length ≤ 10000000) (B : Nat) (pe : Addr) (k : Nat) (h : k < (allP l).length) : EdgeK l B pe (allP l)[k] where
  unit := fun W hW => by have := unitM_any l hL B ((allP l)[k].b : Int) pe W hW; rw [hitB_at l k h] at this; exact this
  wide := fun W hW => by have := wideM_any l hL B ((allP l)[k].b : Int) pe W hW; rw [hitB_at l k h] at this; exact this
  line := fun W hW => by have := lineM_any l hL B ((allP l)[k].b : Int) pe W hW; rw [hitB_at l k h] at this; exact this
  byte := fun W hW => by have := byte_any l hL B ((allP l)[k].u : Int) pe W hW; rw [hitU_at' l k h] at this; exact this
  narrow := fun W hW => by have := narrow_any l hL B ((allP l)[k].w : Int) pe W hW; rw [hitW_at l k h] at this; exact this
  at' := fun W hW => by have := at_any l hL B ((allP l)[k].l : Int) ((allP l)[k].c : Int) pe W hW; rw [hitL_at l k h] at this; exact this
/-- The same, over a world that is later than one. -/
structure EdgeB (w0 : World) (B : Nat) (p : Pl) : Prop where
  unit : ∀ W, Below w0.heap.size w0 W → Calls Tryd.prog 9 #[.pointer (some ⟨B, 0, none⟩), .int .i64 (p.b : Int)] W fun e w' => e = .returned (.tuple #[.int .i64 (p.u : Int), .nilIface]) ∧ Below w0.heap.size w0 w'
  wide : ∀ W, Below w0.heap.size w0 W → Calls Tryd.prog 10 #[.pointer (some ⟨B, 0, none⟩), .int .i64 (p.b : Int)] W fun e w' => e = .returned (.tuple #[.int .i64 (p.w : Int), .nilIface]) ∧ Below w0.heap.size w0 w'
  line : ∀ W, Below w0.heap.size w0 W → Calls Tryd.prog 11 #[.pointer (some ⟨B, 0, none⟩), .int .i64 (p.b : Int)] W fun e w' => e = .returned (.tuple #[.int .i64 (p.l : Int), .int .i64 (p.c : Int), .nilIface]) ∧ Below w0.heap.size w0 w'
  byte : ∀ W, Below w0.heap.size w0 W → Calls Tryd.prog 12 #[.pointer (some ⟨B, 0, none⟩), .int .i64 (p.u : Int)] W fun e w' => e = .returned (.tuple #[.int .i64 (p.b : Int), .nilIface]) ∧ Below w0.heap.size w0 w'
  narrow : ∀ W, Below w0.heap.size w0 W → Calls Tryd.prog 13 #[.pointer (some ⟨B, 0, none⟩), .int .i64 (p.w : Int)] W fun e w' => e = .returned (.tuple #[.int .i64 (p.b : Int), .nilIface]) ∧ Below w0.heap.size w0 w'
  at' : ∀ W, Below w0.heap.size w0 W → Calls Tryd.prog 14 #[.pointer (some ⟨B, 0, none⟩), .int .i64 (p.l : Int), .int .i64 (p.c : Int)] W fun e w' => e = .returned (.tuple #[.int .i64 (p.b : Int), .nilIface]) ∧ Below w0.heap.size w0 w'
theorem laterB {w W w' : World} (h1 : Below w.heap.size w W) (h2 : Below W.heap.size W w') : Below w.heap.size w w' := h1.trans (h2.mono h1.size)
theorem EdgeK.base {l : List UInt8} {B : Nat} {pe : Addr} {p : Pl} (h : EdgeK l B pe p) {w0 : World} (hA : AskI w0 B (allP l) pe) : EdgeB w0 B p where
  unit := fun W hW => (h.unit W (hA.later hW)).mono (fun _ _ ⟨h1, h2⟩ => ⟨h1, laterB hW h2⟩)
  wide := fun W hW => (h.wide W (hA.later hW)).mono (fun _ _ ⟨h1, h2⟩ => ⟨h1, laterB hW h2⟩)
  line := fun W hW => (h.line W (hA.later hW)).mono (fun _ _ ⟨h1, h2⟩ => ⟨h1, laterB hW h2⟩)
  byte := fun W hW => (h.byte W (hA.later hW)).mono (fun _ _ ⟨h1, h2⟩ => ⟨h1, laterB hW h2⟩)
  narrow := fun W hW => (h.narrow W (hA.later hW)).mono (fun _ _ ⟨h1, h2⟩ => ⟨h1, laterB hW h2⟩)
  at' := fun W hW => (h.at' W (hA.later hW)).mono (fun _ _ ⟨h1, h2⟩ => ⟨h1, laterB hW h2⟩)
/-- What was last seen ahead of the k-th edge. -/
def pvW (l : List UInt8) : Nat → Int
  | 0 => -1
  | k + 1 => ((stK (unitsOf l) k).w : Int)
def pvL (l : List UInt8) : Nat → Int
  | 0 => 0
  | k + 1 => ((stK (unitsOf l) k).l : Int)
def pvC (l : List UInt8) : Nat → Int
  | 0 => 0
  | k + 1 => ((stK (unitsOf l) k).c : Int)
theorem prev_rise (l : List UInt8) (k : Nat) (h : k < (allP l).length) : pvW l k < ((allP l)[k].w : Int) ∧ (pvL l k < ((allP l)[k].l : Int) ∨ pvL l k = ((allP l)[k].l : Int) ∧ pvC l k < ((allP l)[k].c : Int)) := by
  rw [allP_at]
  rw [allP_len] at h
  cases k with
  | zero =>
    have := stK_le l 0 (Nat.zero_le _)
    simp only [pvW, pvL, pvC]
    omega
  | succ k =>
    obtain ⟨_, _, h3, h4⟩ := stK_next l k (by omega)
    simp only [pvW, pvL, pvC]
    omega
theorem prev_next (l : List UInt8) (k : Nat) (h : k < (allP l).length) : pvW l (k + 1) = ((allP l)[k].w : Int) ∧ pvL l (k + 1) = ((allP l)[k].l : Int) ∧ pvC l (k + 1) = ((allP l)[k].c : Int) := by
  rw [allP_at]
  exact ⟨rfl, rfl, rfl⟩
theorem lastP_all (l : List UInt8) : lastP (allP l) = stK (unitsOf l) (unitsOf l).length := by
  rw [lastP_at _ (by rw [allP_len]; omega), allP_at, allP_len, Nat.add_sub_cancel]
theorem lastP_b (l : List UInt8) : (lastP (allP l)).b = l.length ∧ (lastP (allP l)).u = (unitsOf l).length := by
  rw [lastP_all]
  obtain ⟨h1, h2⟩ := stK_b l (unitsOf l).length (Nat.le_refl _)
  exact ⟨h1.trans (posK_end l), h2⟩
/-- The chapter's text. -/
def knL : List UInt8 := [97, 195, 169, 13, 10, 240, 157, 132, 158, 255]
set_option maxRecDepth 100000 in
theorem kn_len : (unitsOf knL).length = 6 := by kernel_rfl
set_option maxRecDepth 100000 in
theorem kn_last : stK (unitsOf knL) 6 = ⟨10, 6, 7, 2, 3⟩ := by kernel_rfl
end Go.Proofs.YtlmbbohhdgeedaaDoor
