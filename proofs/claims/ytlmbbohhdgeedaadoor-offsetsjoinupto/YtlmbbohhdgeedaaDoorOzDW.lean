/-
  The walks of cmp.Compare, cmp.Or and of what offsets' searches are asked by.
-/
import Derived.Test.YtlmbbohhdgeedaaDoorOzCW
namespace Go.Proofs.YtlmbbohhdgeedaaDoor
open Go.RowKit
set_option maxRecDepth 10000 in
set_option maxHeartbeats 400000 in
theorem compare_any (x y : Int) (w : World) :
    Calls Tryd.prog 28 #[.int .i64 x, .int .i64 y] w fun e w' => e = .returned (.int .i64 (cmpI x y)) ∧ w' = w := by
  have hxx : (x != x) = false := by simp
  have hyy : (y != y) = false := by simp
  by_cases h : x < y
  · have HV : Hid (cmpI x y = -1) := hid (if_pos h)
    go_enter Tryd.func28, Tryd.ntmps28
    go_wp2
    go_ret
    exact ⟨by rw [HV.out]; rfl, rfl⟩
  · by_cases h2 : y < x
    · have HV : Hid (cmpI x y = 1) := hid (by rw [cmpI, if_neg h, if_pos h2])
      go_enter Tryd.func28, Tryd.ntmps28
      go_wp2
      go_ret
      exact ⟨by rw [HV.out]; rfl, rfl⟩
    · have HV : Hid (cmpI x y = 0) := hid (by rw [cmpI, if_neg h, if_neg h2])
      go_enter Tryd.func28, Tryd.ntmps28
      go_wp2
      go_ret
      exact ⟨by rw [HV.out]; rfl, rfl⟩
/-- The first that is not nought, of two. -/
def orI (x y : Int) : Int := if x = 0 then y else x
set_option maxRecDepth 10000 in
set_option maxHeartbeats 400000 in
theorem or_any (x y : Int) (g c : Nat) (w : World) (h0 : w.cell? ⟨g, 0, none⟩ = some (.int .i64 x)) (h1 : w.cell? ⟨g, 1, none⟩ = some (.int .i64 y)) :
    Calls Tryd.prog 31 #[.slice (some ⟨g, 0, none⟩) 2 c] w fun e w' => e = .returned (.int .i64 (orI x y)) ∧ w' = w := by
  have HC : Hid (w.cell? ⟨g, 0, none⟩ = some (.int .i64 x) ∧ w.cell? ⟨g, 1, none⟩ = some (.int .i64 y)) := hid ⟨h0, h1⟩
  clear h0 h1
  go_enter Tryd.func31, Tryd.ntmps31
  go_wp2
  go_loopw [8] (fun i wr => ∃ k : Nat, k ≤ 2 ∧ i = .int .i64 (k : Int) ∧ Hid (1 ≤ k → x = 0) ∧ Hid (2 ≤ k → y = 0) ∧ wr = w) (fun i _ => 2 - (intOf i).toNat)
  case atStart => exact ⟨0, by omega, rfl, hid (fun h => by omega), hid (fun h => by omega), (by first | rfl | trivial)⟩
  case round =>
    obtain ⟨k, hk, rfl, HX, HY, rfl⟩ := hrel
    rcases (by omega : k = 0 ∨ k = 1 ∨ k = 2) with rfl | rfl | rfl
    · obtain ⟨h0, _⟩ := HC.out
      clear HX HY
      by_cases hx : x = 0
      · have hxb : (x != 0) = false := by simp [hx]
        have HX : Hid (x = 0) := hid hx
        clear hx
        go_wp2
        go_roundw
        case rel => exact ⟨1, by omega, rfl, hid (fun _ => HX.out), hid (fun h => by omega), (by first | rfl | trivial)⟩
        case measure => simp [intOf]
      · have hxb : (x != 0) = true := by simp [hx]
        have HX : Hid (orI x y = x) := hid (if_neg hx)
        clear hx
        go_wp2
        go_ret
        exact ⟨by rw [HX.out]; rfl, rfl⟩
    · obtain ⟨_, h0⟩ := HC.out
      have HX0 := hid (HX.out (Nat.le_refl _))
      clear HX HY
      by_cases hx : y = 0
      · have hxb : (y != 0) = false := by simp [hx]
        have HX : Hid (y = 0) := hid hx
        clear hx
        go_wp2
        go_roundw
        case rel => exact ⟨2, by omega, rfl, hid (fun _ => HX0.out), hid (fun _ => HX.out), (by first | rfl | trivial)⟩
        case measure => simp [intOf]
      · have hxb : (y != 0) = true := by simp [hx]
        have HX : Hid (orI x y = y) := hid (if_pos HX0.out)
        clear hx
        go_wp2
        go_ret
        exact ⟨by rw [HX.out]; rfl, rfl⟩
    · have HZ : Hid (orI x y = 0) := hid (by rw [orI, if_pos (HX.out (by omega)), HY.out (Nat.le_refl _)])
      clear HX HY HC
      go_wp2
      go_ret
      exact ⟨by rw [HZ.out]; rfl, rfl⟩
set_option maxRecDepth 10000 in
set_option maxHeartbeats 400000 in
theorem askB_any (p : Pl) (x : Int) (B : Nat) (w : World) (h : w.cell? ⟨B, 0, none⟩ = some (.int .i64 x)) :
    Calls Tryd.prog 46 #[plV p, .pointer (some ⟨B, 0, none⟩)] w fun e w' => e = .returned (.int .i64 (sgB x p)) ∧ Below w.heap.size w w' := by
  obtain ⟨pb, pu, pw, pl, pc⟩ := p
  have hBl := World.block_lt_of_cell? w _ h
  have HC := hid (fun W => compare_any (pb : Int) x W)
  unfold sgB plV
  simp only
  generalize cmpI (pb : Int) x = r at *
  go_enter Tryd.func46, Tryd.ntmps46
  go_wp2_with (first
    | (go_at_call 28; refine (HC.out _).mono ?_; rintro e w1 ⟨rfl, rfl⟩)
    | fail)
  go_ret
  exact ⟨rfl, (Below.refl _ w).alloc (Nat.le_refl _) _⟩
set_option maxRecDepth 10000 in
set_option maxHeartbeats 400000 in
theorem askU_any (p : Pl) (x : Int) (B : Nat) (w : World) (h : w.cell? ⟨B, 0, none⟩ = some (.int .i64 x)) :
    Calls Tryd.prog 27 #[plV p, .pointer (some ⟨B, 0, none⟩)] w fun e w' => e = .returned (.int .i64 (sgU x p)) ∧ Below w.heap.size w w' := by
  obtain ⟨pb, pu, pw, pl, pc⟩ := p
  have hBl := World.block_lt_of_cell? w _ h
  have HC := hid (fun W => compare_any (pu : Int) x W)
  unfold sgU plV
  simp only
  generalize cmpI (pu : Int) x = r at *
  go_enter Tryd.func27, Tryd.ntmps27
  go_wp2_with (first
    | (go_at_call 28; refine (HC.out _).mono ?_; rintro e w1 ⟨rfl, rfl⟩)
    | fail)
  go_ret
  exact ⟨rfl, (Below.refl _ w).alloc (Nat.le_refl _) _⟩
set_option maxRecDepth 10000 in
set_option maxHeartbeats 400000 in
theorem askW_any (p : Pl) (x : Int) (B : Nat) (w : World) (h : w.cell? ⟨B, 0, none⟩ = some (.int .i64 x)) :
    Calls Tryd.prog 29 #[plV p, .pointer (some ⟨B, 0, none⟩)] w fun e w' => e = .returned (.int .i64 (sgW x p)) ∧ Below w.heap.size w w' := by
  obtain ⟨pb, pu, pw, pl, pc⟩ := p
  have hBl := World.block_lt_of_cell? w _ h
  have HC := hid (fun W => compare_any (pw : Int) x W)
  unfold sgW plV
  simp only
  generalize cmpI (pw : Int) x = r at *
  go_enter Tryd.func29, Tryd.ntmps29
  go_wp2_with (first
    | (go_at_call 28; refine (HC.out _).mono ?_; rintro e w1 ⟨rfl, rfl⟩)
    | fail)
  go_ret
  exact ⟨rfl, (Below.refl _ w).alloc (Nat.le_refl _) _⟩
end Go.Proofs.YtlmbbohhdgeedaaDoor
