/-
  The walk of caesuralaw26's one.
-/
import Derived.Test.YtlmbbohhdgeedaaDoorOzHW
import Derived.Test.YtlmbbohhdgeedaaDoorOzIW
import Derived.Test.YtlmbbohhdgeedaaDoorOzKW
import Derived.Test.YtlmbbohhdgeedaaDoorOzLW
import Derived.Test.YtlmbbohhdgeedaaDoorSentW
import Derived.Test.YtlmbbohhdgeedaaDoorSteps2W
namespace Go.Proofs.YtlmbbohhdgeedaaDoor
open Go.RowKit
/-- Two maps of one text, and the refusals. -/
structure OneI (w : World) (BM BR : Nat) (l : List UInt8) (A : Nat → Addr) : Prop where
  m : MapAt w BM (allP l)
  r : MapAt w BR (allP l)
  s : Sents w A
theorem OneI.later {w w' : World} {BM BR : Nat} {l : List UInt8} {A : Nat → Addr} (h : OneI w BM BR l A) (hb : Below w.heap.size w w') : OneI w' BM BR l A := ⟨h.m.later hb, h.r.later hb, h.s.below hb⟩
theorem OneI.ask {w : World} {BM BR : Nat} {l : List UInt8} {A : Nat → Addr} (h : OneI w BM BR l A) : AskI w BM (allP l) (A 0) := ⟨h.m, h.s.c0⟩
theorem num_err (w : World) (A : Nat → Addr) (h : Sents w A) (o : Option Pl) : Calls Tryd.prog 37 #[errV (A 0) o] w fun e w' => e = .returned (.int .i64 (numP o)) ∧ w' = w := by
  cases o with
  | none => exact kitNum_at w A h 0 (by omega)
  | some p => exact kitNum_nil w
theorem later2 {w W w' : World} (h1 : Below w.heap.size w W) (h2 : Below W.heap.size W w') : Below w.heap.size w w' := h1.trans (h2.mono h1.size)
theorem same2 {w W w' : World} (h1 : Below w.heap.size w W) (h2 : w' = W) : Below w.heap.size w w' := h2 ▸ h1
set_option maxRecDepth 10000 in
set_option maxHeartbeats 1600000 in
theorem one_any (l : List UInt8) (hL : (allP l).length ≤ 10000000) (BM BR : Nat) (a b : Int) (A : Nat → Addr) (w : World) (hI : OneI w BM BR l A) :
    Calls Tryd.prog 20 #[.pointer (some ⟨BM, 0, none⟩), .pointer (some ⟨BR, 0, none⟩), .int .i64 a, .int .i64 b] w fun e w' => e = .returned (.bool true) ∧ Below w.heap.size w w' := by
  have HN : Hid (∀ o W, Below w.heap.size w W → Calls Tryd.prog 37 #[errV (A 0) o] W fun e w' => e = .returned (.int .i64 (numP o)) ∧ w' = W) := hid (fun o W h => num_err W A (hI.later h).s o)
  have HUnit : Hid (∀ W, Below w.heap.size w W → Calls Tryd.prog 9 #[.pointer (some ⟨BM, 0, none⟩), .int .i64 a] W fun e w' => e = .returned (.tuple #[.int .i64 ((getP (hit (sgB a) (allP l))).u : Int), errV (A 0) (hit (sgB a) (allP l))]) ∧ Below w.heap.size w w') := hid (fun W h => (unitM_any l hL BM a (A 0) W (hI.later h).ask).mono (fun e w' ⟨h1, h2⟩ => ⟨h1, later2 h h2⟩))
  have RUnit : Hid (∀ W, Below w.heap.size w W → Calls Tryd.prog 35 #[.pointer (some ⟨BR, 0, none⟩), .int .i64 a] W fun e w' => e = .returned (.tuple #[.int .i64 ((getP (hit (sgB a) (allP l))).u : Int), .int .i64 (numP (hit (sgB a) (allP l)))]) ∧ Below w.heap.size w w') := hid (fun W h => (refUnit_any (allP l) hL BR a W (hI.later h).r).mono (fun e w' ⟨h1, h2⟩ => ⟨h1, later2 h h2⟩))
  have HByte : Hid (∀ W, Below w.heap.size w W → Calls Tryd.prog 12 #[.pointer (some ⟨BM, 0, none⟩), .int .i64 a] W fun e w' => e = .returned (.tuple #[.int .i64 ((getP (hit (sgU a) (allP l))).b : Int), errV (A 0) (hit (sgU a) (allP l))]) ∧ Below w.heap.size w w') := hid (fun W h => (byte_any l hL BM a (A 0) W (hI.later h).ask).mono (fun e w' ⟨h1, h2⟩ => ⟨h1, later2 h h2⟩))
  have RByte : Hid (∀ W, Below w.heap.size w W → Calls Tryd.prog 36 #[.pointer (some ⟨BR, 0, none⟩), .int .i64 a] W fun e w' => e = .returned (.tuple #[.int .i64 ((getP (hit (sgU a) (allP l))).b : Int), .int .i64 (numP (hit (sgU a) (allP l)))]) ∧ Below w.heap.size w w') := hid (fun W h => (refByte_any l hL BR a W (hI.later h).r).mono (fun e w' ⟨h1, h2⟩ => ⟨h1, same2 h h2⟩))
  have HWide : Hid (∀ W, Below w.heap.size w W → Calls Tryd.prog 10 #[.pointer (some ⟨BM, 0, none⟩), .int .i64 a] W fun e w' => e = .returned (.tuple #[.int .i64 ((getP (hit (sgB a) (allP l))).w : Int), errV (A 0) (hit (sgB a) (allP l))]) ∧ Below w.heap.size w w') := hid (fun W h => (wideM_any l hL BM a (A 0) W (hI.later h).ask).mono (fun e w' ⟨h1, h2⟩ => ⟨h1, later2 h h2⟩))
  have RWide : Hid (∀ W, Below w.heap.size w W → Calls Tryd.prog 38 #[.pointer (some ⟨BR, 0, none⟩), .int .i64 a] W fun e w' => e = .returned (.tuple #[.int .i64 ((getP (hit (sgB a) (allP l))).w : Int), .int .i64 (numP (hit (sgB a) (allP l)))]) ∧ Below w.heap.size w w') := hid (fun W h => (refWide_any (allP l) hL BR a W (hI.later h).r).mono (fun e w' ⟨h1, h2⟩ => ⟨h1, later2 h h2⟩))
  have HNarrow : Hid (∀ W, Below w.heap.size w W → Calls Tryd.prog 13 #[.pointer (some ⟨BM, 0, none⟩), .int .i64 a] W fun e w' => e = .returned (.tuple #[.int .i64 ((getP (hit (sgW a) (allP l))).b : Int), errV (A 0) (hit (sgW a) (allP l))]) ∧ Below w.heap.size w w') := hid (fun W h => (narrow_any l hL BM a (A 0) W (hI.later h).ask).mono (fun e w' ⟨h1, h2⟩ => ⟨h1, later2 h h2⟩))
  have RNarrow : Hid (∀ W, Below w.heap.size w W → Calls Tryd.prog 39 #[.pointer (some ⟨BR, 0, none⟩), .int .i64 a] W fun e w' => e = .returned (.tuple #[.int .i64 ((getP (hit (sgW a) (allP l))).b : Int), .int .i64 (numP (hit (sgW a) (allP l)))]) ∧ Below w.heap.size w w') := hid (fun W h => (refNarrow_any (allP l) hL BR a W (hI.later h).r).mono (fun e w' ⟨h1, h2⟩ => ⟨h1, same2 h h2⟩))
  have HLine : Hid (∀ W, Below w.heap.size w W → Calls Tryd.prog 11 #[.pointer (some ⟨BM, 0, none⟩), .int .i64 a] W fun e w' => e = .returned (.tuple #[.int .i64 ((getP (hit (sgB a) (allP l))).l : Int), .int .i64 ((getP (hit (sgB a) (allP l))).c : Int), errV (A 0) (hit (sgB a) (allP l))]) ∧ Below w.heap.size w w') := hid (fun W h => (lineM_any l hL BM a (A 0) W (hI.later h).ask).mono (fun e w' ⟨h1, h2⟩ => ⟨h1, later2 h h2⟩))
  have RLine : Hid (∀ W, Below w.heap.size w W → Calls Tryd.prog 40 #[.pointer (some ⟨BR, 0, none⟩), .int .i64 a] W fun e w' => e = .returned (.tuple #[.int .i64 ((getP (hit (sgB a) (allP l))).l : Int), .int .i64 ((getP (hit (sgB a) (allP l))).c : Int), .int .i64 (numP (hit (sgB a) (allP l)))]) ∧ Below w.heap.size w w') := hid (fun W h => (refLine_any (allP l) hL BR a W (hI.later h).r).mono (fun e w' ⟨h1, h2⟩ => ⟨h1, later2 h h2⟩))
  have HAt : Hid (∀ W, Below w.heap.size w W → Calls Tryd.prog 14 #[.pointer (some ⟨BM, 0, none⟩), .int .i64 a, .int .i64 b] W fun e w' => e = .returned (.tuple #[.int .i64 ((getP (hit (sgL a b) (allP l))).b : Int), errV (A 0) (hit (sgL a b) (allP l))]) ∧ Below w.heap.size w w') := hid (fun W h => (at_any l hL BM a b (A 0) W (hI.later h).ask).mono (fun e w' ⟨h1, h2⟩ => ⟨h1, later2 h h2⟩))
  have RAt : Hid (∀ W, Below w.heap.size w W → Calls Tryd.prog 41 #[.pointer (some ⟨BR, 0, none⟩), .int .i64 a, .int .i64 b] W fun e w' => e = .returned (.tuple #[.int .i64 ((getP (hit (sgL a b) (allP l))).b : Int), .int .i64 (numP (hit (sgL a b) (allP l)))]) ∧ Below w.heap.size w w') := hid (fun W h => (refAt_any (allP l) hL BR a b W (hI.later h).r).mono (fun e w' ⟨h1, h2⟩ => ⟨h1, same2 h h2⟩))
  have hb0 := Below.refl w.heap.size w
  clear hI
  generalize hit (sgB a) (allP l) = oB at *
  generalize hit (sgU a) (allP l) = oU at *
  generalize hit (sgW a) (allP l) = oW at *
  generalize hit (sgL a b) (allP l) = oL at *
  generalize getP oB = pB at *
  generalize getP oU = pU at *
  generalize getP oW = pW at *
  generalize getP oL = pL at *
  go_enter Tryd.func20, Tryd.ntmps20
  go_wp2_with (first
    | (go_at_call 9; refine (HUnit.out _ (by assumption)).mono ?_; rintro e _ ⟨rfl, _⟩)
    | (go_at_call 35; refine (RUnit.out _ (by assumption)).mono ?_; rintro e _ ⟨rfl, _⟩)
    | (go_at_call 12; refine (HByte.out _ (by assumption)).mono ?_; rintro e _ ⟨rfl, _⟩)
    | (go_at_call 36; refine (RByte.out _ (by assumption)).mono ?_; rintro e _ ⟨rfl, _⟩)
    | (go_at_call 10; refine (HWide.out _ (by assumption)).mono ?_; rintro e _ ⟨rfl, _⟩)
    | (go_at_call 38; refine (RWide.out _ (by assumption)).mono ?_; rintro e _ ⟨rfl, _⟩)
    | (go_at_call 13; refine (HNarrow.out _ (by assumption)).mono ?_; rintro e _ ⟨rfl, _⟩)
    | (go_at_call 39; refine (RNarrow.out _ (by assumption)).mono ?_; rintro e _ ⟨rfl, _⟩)
    | (go_at_call 11; refine (HLine.out _ (by assumption)).mono ?_; rintro e _ ⟨rfl, _⟩)
    | (go_at_call 40; refine (RLine.out _ (by assumption)).mono ?_; rintro e _ ⟨rfl, _⟩)
    | (go_at_call 14; refine (HAt.out _ (by assumption)).mono ?_; rintro e _ ⟨rfl, _⟩)
    | (go_at_call 41; refine (RAt.out _ (by assumption)).mono ?_; rintro e _ ⟨rfl, _⟩)
    | (go_at_call 37; refine (HN.out _ _ (by assumption)).mono ?_; rintro e _ ⟨rfl, rfl⟩)
    | fail)
  go_ret
  exact ⟨rfl, by assumption⟩
end Go.Proofs.YtlmbbohhdgeedaaDoor
