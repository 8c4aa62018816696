/-
  The walks of (*ranges.side).next and pass.
-/
import Derived.Test.YthdmhelgmejicaaGreatDoorRgW
namespace Go.Proofs.YthdmhelgmejicaaGreatDoor
open Go.RowKit
def nextOf : List (Int × Int) → Int
  | [] => 1114113
  | e :: _ => e.1
/-- All blocks but some lie as they lay. -/
structure Off (S : Nat → Prop) (w w' : World) : Prop where
  os : w'.os = w.os
  tape : w'.tape = w.tape
  output : w'.output = w.output
  size : w.heap.size ≤ w'.heap.size
  block : ∀ k, k < w.heap.size → ¬ S k → w'.heap[k]? = w.heap[k]?
theorem Off.refl (S : Nat → Prop) (w : World) : Off S w w := ⟨rfl, rfl, rfl, Nat.le_refl _, fun _ _ _ => rfl⟩
theorem Off.trans {S : Nat → Prop} {a b c : World} (h : Off S a b) (k : Off S b c) : Off S a c :=
  ⟨k.os.trans h.os, k.tape.trans h.tape, k.output.trans h.output, Nat.le_trans h.size k.size, fun i hi hs => (k.block i (Nat.lt_of_lt_of_le hi h.size) hs).trans (h.block i hi hs)⟩
theorem Off.setCell {S : Nat → Prop} {a b : World} (h : Off S a b) {p : Addr} (hp : S p.block) (u : Value) : Off S a (b.setCell p u) :=
  h.trans ⟨rfl, rfl, rfl, by simp, fun k _ hk => Below.heap_setCell b p u k (fun e => hk (e ▸ hp))⟩
theorem Off.drewN {S : Nat → Prop} {a b : World} (h : Off S a b) (q : Nat) : Off S a (b.drewN q) := ⟨h.os, h.tape, h.output, h.size, h.block⟩
theorem Off.cell {S : Nat → Prop} {w w' : World} (h : Off S w w') {p : Addr} (hp : p.block < w.heap.size) (hs : ¬ S p.block) : w'.cell? p = w.cell? p := World.cell?_of_block (w := w) (h.block p.block hp hs)
theorem Off.frozen {S : Nat → Prop} {w w' : World} (h : Off S w w') {p : Addr} (hp : p.block < w.heap.size) (hs : ¬ S p.block) : w'.frozen? p = w.frozen? p := World.frozen?_of_block (w := w) (h.block p.block hp hs)
set_option maxRecDepth 10000 in
set_option maxHeartbeats 400000 in
theorem next_any (B cap : Nat) (a : Option Addr) (rest : List (Int × Int)) (w : World) (hc : w.cell? ⟨B, 0, none⟩ = some (.slice a rest.length cap)) (hr : RA w a rest) :
    Calls Tryz.prog 145 #[.pointer (some ⟨B, 0, none⟩)] w fun e w' => e = .returned (.int .i64 (nextOf rest)) ∧ ∃ q, w' = w.drewN q := by
  cases rest with
  | nil =>
    clear hr
    go_enter Tryz.func145, Tryz.ntmps145
    go_wp2
    go_ret
    exact ⟨rfl, 0, rfl⟩
  | cons e rest =>
    obtain ⟨b, o, rfl, c0, c1⟩ := hr.at' 0 (by simp)
    simp only [List.getElem_cons_zero, Nat.zero_mul, Nat.add_zero] at c0 c1
    clear hr c1
    rw [List.length_cons] at hc
    have h1 : ((((rest.length + 1 : Nat) : Int)) == 0) = false := by rw [beq_eq_false_iff_ne]; omega
    have h2 : (0 : Int) < ((rest.length + 1 : Nat) : Int) := by omega
    go_enter Tryz.func145, Tryz.ntmps145
    go_wp2
    go_ret
    exact ⟨rfl, 0, rfl⟩
end Go.Proofs.YthdmhelgmejicaaGreatDoor
