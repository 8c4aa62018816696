/-
  The walks of both Counts.
-/
import Derived.Test.YtlmbbohhdgeedaaDoorOzGW
namespace Go.Proofs.YtlmbbohhdgeedaaDoor
open Go.RowKit
def lastP (L : List Pl) : Pl := (L[L.length - 1]?).getD ⟨0, 0, 0, 0, 0⟩
theorem lastP_at (L : List Pl) (h : 0 < L.length) : lastP L = L[L.length - 1]'(by omega) := by rw [lastP, List.getElem?_eq_getElem (by omega)]; rfl
set_option maxRecDepth 10000 in
set_option maxHeartbeats 1600000 in
theorem countM_any (L : List Pl) (h0 : 0 < L.length) (hL : L.length ≤ 10000000) (B : Nat) (w : World) (hM : MapAt w B L) :
    Calls Tryd.prog 15 #[.pointer (some ⟨B, 0, none⟩)] w fun e w' => e = .returned (.tuple #[.int .i64 ((lastP L).b : Int), .int .i64 ((lastP L).u : Int), .int .i64 ((lastP L).w : Int), .int .i64 ((lastP L).l : Int)]) ∧ Below w.heap.size w w' := by
  obtain ⟨a, cap, hc, hA⟩ := hM
  have hBl := World.block_lt_of_cell? w _ hc
  obtain ⟨b1, o1, rfl, d0, d1, d2, d3, d4⟩ := hA.at' (L.length - 1) (by omega)
  have HV : Hid (lastP L = L[L.length - 1]'(by omega)) := hid (lastP_at L h0)
  generalize lastP L = P at *
  generalize L[L.length - 1]'(by omega) = Q at *
  obtain rfl := HV.out
  obtain ⟨pb, pu, pw, pl, pc⟩ := P
  simp only at d0 d1 d2 d3 d4
  have hb1 : b1 < w.heap.size := World.block_lt_of_cell? w _ d0
  have hn1 : (L.length : Int) - 1 = ((L.length - 1 : Nat) : Int) := by omega
  have hn2 : IntKind.i64.wrap ((L.length : Int) - 1) = ((L.length - 1 : Nat) : Int) := by simp [IntKind.wrap, IntKind.bits, IntKind.signed]; omega
  have hn3 : ((L.length - 1 : Nat) : Int) < (L.length : Int) := by omega
  clear hA HV
  go_enter Tryd.func15, Tryd.ntmps15
  go_wp2
  go_region
  all_goals go_wp2
  all_goals (try go_quiet (fail))
  all_goals (try go_wp2)
  all_goals
    (try simp only [Exit.inBlock, Exit.then])
    exact bodyPost_ret (v := .tuple #[.int .i64 (pb : Int), .int .i64 (pu : Int), .int .i64 (pw : Int), .int .i64 (pl : Int)]) (by simp [results, Tryd.results15, go_sem]) rfl ⟨rfl, belowDN (((Below.refl _ w).alloc (Nat.le_refl _) _).drew) _⟩
set_option maxRecDepth 10000 in
set_option maxHeartbeats 1600000 in
theorem refCount_any (L : List Pl) (h0 : 0 < L.length) (hL : L.length ≤ 10000000) (B : Nat) (w : World) (hM : MapAt w B L) :
    Calls Tryd.prog 19 #[.pointer (some ⟨B, 0, none⟩)] w fun e w' => e = .returned (.tuple #[.int .i64 ((lastP L).b : Int), .int .i64 ((lastP L).u : Int), .int .i64 ((lastP L).w : Int), .int .i64 ((lastP L).l : Int)]) ∧ Below w.heap.size w w' := by
  obtain ⟨a, cap, hc, hA⟩ := hM
  have hBl := World.block_lt_of_cell? w _ hc
  obtain ⟨b1, o1, rfl, d0, d1, d2, d3, d4⟩ := hA.at' (L.length - 1) (by omega)
  have HV : Hid (lastP L = L[L.length - 1]'(by omega)) := hid (lastP_at L h0)
  generalize lastP L = P at *
  generalize L[L.length - 1]'(by omega) = Q at *
  obtain rfl := HV.out
  obtain ⟨pb, pu, pw, pl, pc⟩ := P
  simp only at d0 d1 d2 d3 d4
  have hb1 : b1 < w.heap.size := World.block_lt_of_cell? w _ d0
  have hn1 : (L.length : Int) - 1 = ((L.length - 1 : Nat) : Int) := by omega
  have hn2 : IntKind.i64.wrap ((L.length : Int) - 1) = ((L.length - 1 : Nat) : Int) := by simp [IntKind.wrap, IntKind.bits, IntKind.signed]; omega
  have hn3 : ((L.length - 1 : Nat) : Int) < (L.length : Int) := by omega
  clear hA HV
  go_enter Tryd.func19, Tryd.ntmps19
  go_wp2
  go_region
  all_goals go_wp2
  all_goals (try go_quiet (fail))
  all_goals (try go_wp2)
  all_goals
    (try simp only [Exit.inBlock, Exit.then])
    exact bodyPost_ret (v := .tuple #[.int .i64 (pb : Int), .int .i64 (pu : Int), .int .i64 (pw : Int), .int .i64 (pl : Int)]) (by simp [results, Tryd.results19, go_sem]) rfl ⟨rfl, belowDN (((Below.refl _ w).alloc (Nat.le_refl _) _).drew) _⟩
end Go.Proofs.YtlmbbohhdgeedaaDoor
