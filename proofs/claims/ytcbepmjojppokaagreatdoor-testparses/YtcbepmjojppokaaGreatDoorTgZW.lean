/-
  The walk of testfile.Parse (stage 23).
-/
import Derived.Test.YtcbepmjojppokaaGreatDoorTgYW
import Derived.Test.YtcbepmjojppokaaGreatDoorTgHW
import Derived.OwnWalk
import Derived.BigQuiet
namespace Go.Proofs.YtcbepmjojppokaaGreatDoor
open Go.RowKit Go.Shelf
theorem below_row {B g : Nat} {w0 w : World} (hb : Below B w0 w) (hBg : B ≤ g) (cs : Array Value) : Below B w0 (w.setRow g cs) :=
  ⟨hb.os, hb.tape, hb.output, by rw [size_setRow]; exact hb.size, fun k hk => (setRow_other w g k cs (by omega)).trans (hb.block k hk)⟩
abbrev errI (a : Addr) : Value := .iface 189 (.pointer (some a))
/-- errors.errorType is laid. -/
def ErrTy (w : World) : Prop := w.cell? ⟨7, 0, none⟩ = some (.iface 101 (.agg #[.pointer (some ⟨21, 24, none⟩)]))
theorem ErrTy.below {w w' : World} (h : ErrTy w) (hb : Below w.heap.size w w') : ErrTy w' := (hb.cell (p := ⟨7, 0, none⟩) (World.block_lt_of_cell? w _ h)).trans h
/-- What Parse answers. -/
def GoP (A : Nat → Addr) (w : World) (s : By) (e : Ending) (w' : World) : Prop :=
  if 1048576 < s.length then e = .returned (.tuple #[.slice none 0 0, .int .i64 0, errI (A 2)]) ∧ Below w.heap.size w w'
  else match parF 0 [] ((rawL s).map bareN) with
  | .ok C => ∃ v VS, e = .returned (.tuple #[v, .int .i64 0, .nilIface]) ∧ PC w' w.heap.size v VS C ∧ Below w.heap.size w w'
  | .bad k i => e = .returned (.tuple #[.slice none 0 0, .int .i64 (k : Int), errI (A i)]) ∧ Below w.heap.size w w'
set_option maxRecDepth 10000 in
set_option maxHeartbeats 1600000 in
theorem parse_any (s : By) (A : Nat → Addr) (w : World) (hA : Sents w A) (hSy : Syn w) (hT : ErrTy w) :
    Calls Tryz.prog 6 #[.string (rd s)] w fun e w' => Hid (GoP A w s e w') := by
  have hsz : ((rd s).size : Int) = (s.length : Int) := rfl
  by_cases hl : 1048576 < s.length
  · have hbI : ((rd s).size : Int) > 1048576 := by omega
    have hE2 := hA.c2
    have HO : Hid (∀ w', Below w.heap.size w w' → GoP A w s (.returned (.tuple #[.slice none 0 0, .int .i64 0, errI (A 2)])) w') := hid0 (fun w' h => by unfold GoP; rw [if_pos hl]; exact ⟨rfl, h⟩)
    clear hA hSy hT hl hsz
    generalize rd s = RS at *
    go_enter Tryz.func6, Tryz.ntmps6
    go_wp2
    go_quiet (fail)
    all_goals go_wp2
    go_ret3
    exact hid0 (HO.out _ (below_drew' (Below.refl _ _) _))
  · have hbI : ¬ ((rd s).size : Int) > 1048576 := by omega
    have hRf := readFile_any s A w (by omega) hA hSy
    unfold RfO at hRf
    have HT := hid0 hT
    cases hp : parF 0 [] ((rawL s).map bareN) with
    | ok C =>
      rw [hp] at hRf
      have HR : Hid (Calls Tryz.prog 15 #[.string (rd s)] w fun e w' => ∃ a c VS, e = .returned (.tuple #[.slice a C.length c, .nilIface]) ∧ Hid (PC w' w.heap.size (.slice a C.length c) VS C ∧ Below w.heap.size w w')) := hid0 (hRf.mono (fun e w' h => by
        obtain ⟨v, VS, h1, h2, h3⟩ := h.out
        obtain ⟨a, c, rfl⟩ := own_slC h2.own
        exact ⟨a, c, VS, h1, hid0 ⟨h2, h3⟩⟩))
      have HO : Hid (∀ a c VS w', PC w' w.heap.size (.slice a C.length c) VS C → Below w.heap.size w w' → GoP A w s (.returned (.tuple #[.slice a C.length c, .int .i64 0, .nilIface])) w') := hid0 (fun a c VS w' h1 h2 => by unfold GoP; rw [if_neg hl, hp]; exact ⟨_, VS, rfl, h1, h2⟩)
      clear hA hSy hT hl hsz hp hRf HT
      generalize rd s = RS at *
      go_enter Tryz.func6, Tryz.ntmps6
      go_wp2_with (first
        | (go_at_call 15; refine HR.out.mono ?_; rintro e w1 ⟨aL, cL, VS, rfl, h1⟩)
        | (go_at_call 16; refine (as_nil _ _).mono ?_; rintro e w2 ⟨rfl, rfl⟩)
        | fail)
      go_ret3
      exact hid0 (HO.out _ _ VS _ (h1.out.1.past ((Below.refl _ _).alloc (Nat.le_refl _) _)) (h1.out.2.alloc h1.out.2.size _))
    | bad k i =>
      rw [hp] at hRf
      have HR : Hid (Calls Tryz.prog 15 #[.string (rd s)] w fun e w' => e = .returned (.tuple #[.slice none 0 0, .iface 42 (.agg #[.int .i64 (k : Int), .iface 189 (.pointer (some (A i)))])]) ∧ Hid (Below w.heap.size w w')) := hid0 (hRf.mono (fun e w' h => ⟨h.out.1, hid0 h.out.2⟩))
      have HO : Hid (∀ w', Below w.heap.size w w' → GoP A w s (.returned (.tuple #[.slice none 0 0, .int .i64 (k : Int), errI (A i)])) w') := hid0 (fun w' h => by unfold GoP; rw [if_neg hl, hp]; exact ⟨rfl, h⟩)
      have HAs : Hid (∀ w1, Below w.heap.size w w1 → Calls Tryz.prog 16 #[.iface 42 (.agg #[.int .i64 (k : Int), .iface 189 (.pointer (some (A i)))]), .iface 44 (.pointer (some ⟨w1.heap.size, 0, none⟩))] (w1.alloc (.cells #[.int .i64 0, .nilIface] 42)) fun ev w' => ev = .returned (.bool true) ∧ w'.cell? ⟨w1.heap.size, 0, none⟩ = some (.int .i64 (k : Int)) ∧ w'.cell? ⟨w1.heap.size, 1, none⟩ = some (.iface 189 (.pointer (some (A i)))) ∧ Hid (Below w.heap.size w w')) := hid0 (fun w1 h1 => by
        have hb : Below w1.heap.size w1 (w1.alloc (.cells #[.int .i64 0, .nilIface] 42)) := (Below.refl _ _).alloc (Nat.le_refl _) _
        have h2 : Below w.heap.size w (w1.alloc (.cells #[.int .i64 0, .nilIface] 42)) := h1.trans (hb.mono h1.size)
        refine (as_hit (.int .i64 (k : Int)) (.iface 189 (.pointer (some (A i)))) (.int .i64 0) .nilIface w1.heap.size _ (HT.out.below h2) (heap_alloc_new w1 _) rfl rfl).mono ?_
        rintro ev w' ⟨rfl, W, q1, rfl, q2⟩
        refine ⟨rfl, ?_, ?_, hid0 (below_row (h2.trans (q1.mono h2.size)) h1.size _)⟩
        · rw [cell_setRow_same _ _ _ _ _ _ _ q2]; rfl
        · rw [cell_setRow_same _ _ _ _ _ _ _ q2]; rfl)
      clear hA hSy hT hl hsz hp hRf HT
      generalize rd s = RS at *
      go_enter Tryz.func6, Tryz.ntmps6
      go_wp2_with (first
        | (go_at_call 15; refine HR.out.mono ?_; rintro e w1 ⟨rfl, h1⟩)
        | (go_at_call 16; refine (HAs.out w1 h1.out).mono ?_; rintro e w2 ⟨rfl, e1, e2, h2⟩)
        | fail)
      go_quiet (fail)
      all_goals go_wp2
      go_ret3
      exact hid0 (HO.out _ (below_drew' h2.out _))
end Go.Proofs.YtcbepmjojppokaaGreatDoor
