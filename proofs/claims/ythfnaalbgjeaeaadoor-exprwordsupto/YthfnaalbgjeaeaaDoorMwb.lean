/-
  ExE3W, ExE4W, ExE5W, ExE6W, ExE7W, ExFW, ExGM, ExVM, ExHM, ExIW.
-/
import Derived.Test.YthfnaalbgjeaeaaDoorMwa
import Derived.Defers
import Derived.Recover
import Derived.Laws.Pointers
import Derived.Deep.RegionHeld3
import Derived.Deep.RegionHeldLaw
import Derived.Maps.AppendAt
import Derived.Laws.EntriesVeiled
namespace Go.Proofs.YthfnaalbgjeaeaaDoor
open Go.RowKit Go.Shelf
set_option maxRecDepth 10000 in
set_option maxHeartbeats 3200000 in
theorem go_many3 (k : Int) (nt : Bool) (a b c : Option Addr) (n1 ca n2 cb n3 cc d n s B : Nat) (A : Nat → Addr) (W : World) (l1 : n1 ≤ 1000000000) (l2 : n2 ≤ 1000000000) (hE : E3 W A) (hF : Far B) (hn : n ≤ 4000) (hs : s ≤ 65536) (hd : d ≤ 129)
    (hB : W.heap[B]? = some (.cells #[.int .i64 (n : Int), .int .i64 (s : Int)] 51 (0, 0))) (h1 : n + 1 ≤ 4000) (h2 : d ≤ 128) (hbad : ¬ s + (n1 + n2) ≤ 65536) :
    Calls Tryd.prog 18 #[.pointer (some ⟨B, 0, none⟩), .agg #[.int .i64 k, .bool nt, .slice a n1 ca, .slice b n2 cb, .slice c n3 cc], .int .i64 (d : Int)] W fun r W' => GoR A B r W' (.bad 0) ∧ Only W W' (fun k => k = B) := by
  have h1I : (n : Int) + 1 ≤ 4000 := by omega
  have h2I : (d : Int) ≤ 128 := by omega
  have h3I : ¬ (s : Int) + ((n1 : Int) + (n2 : Int)) ≤ 65536 := by omega
  obtain ⟨W2, hW2, hB2, hO2, hX2, hs2⟩ := go_counts W B n s (.int .i64 k) (.bool nt) (.slice a n1 ca) (.slice b n2 cb) (.slice c n3 cc) (.int .i64 ((n : Int) + 1)) (.int .i64 ((s : Int) + ((n1 : Int) + (n2 : Int)))) hB
  have hBl := lt_of_rowC hB
  have e1 : IntKind.i64.wrap ((n : Int) + 1) = (n : Int) + 1 := by simp [IntKind.wrap, IntKind.bits, IntKind.signed]; omega
  have e2 : IntKind.i64.wrap ((n1 : Int) + (n2 : Int)) = (n1 : Int) + (n2 : Int) := by simp [IntKind.wrap, IntKind.bits, IntKind.signed]; omega
  have e3 : IntKind.i64.wrap ((s : Int) + ((n1 : Int) + (n2 : Int))) = (s : Int) + ((n1 : Int) + (n2 : Int)) := by simp [IntKind.wrap, IntKind.bits, IntKind.signed]; omega
  obtain ⟨Wa, hWa⟩ : ∃ Wa, Wa = W.alloc (.cells #[.int .i64 k, .bool nt, .slice a n1 ca, .slice b n2 cb, .slice c n3 cc] 30) := ⟨_, rfl⟩
  have hBa : Wa.heap[B]? = some (.cells #[.int .i64 (n : Int), .int .i64 (s : Int)] 51 (0, 0)) := by rw [hWa]; exact (Below.heap_alloc W _ B hBl).trans hB
  have hXa : Wa.heap[W.heap.size]? = some (.cells #[.int .i64 k, .bool nt, .slice a n1 ca, .slice b n2 cb, .slice c n3 cc] 30 (0, 0)) := by rw [hWa]; exact heap_alloc_new W _
  obtain ⟨Wb, hWb⟩ : ∃ Wb, Wb = Wa.setCell ⟨B, 0, none⟩ (.int .i64 ((n : Int) + 1)) := ⟨_, rfl⟩
  have hBb : Wb.heap[B]? = some (.cells #[.int .i64 ((n : Int) + 1), .int .i64 (s : Int)] 51 (0, 0)) := by rw [hWb]; exact heap_setCell_same _ B 0 _ _ _ hBa
  have hXb : Wb.heap[W.heap.size]? = some (.cells #[.int .i64 k, .bool nt, .slice a n1 ca, .slice b n2 cb, .slice c n3 cc] 30 (0, 0)) := by rw [hWb]; exact (Below.heap_setCell _ _ _ W.heap.size (by simp; omega)).trans hXa
  have a0 : Wa.cell? ⟨B, 0, none⟩ = some (.int .i64 (n : Int)) := by rw [cell_of_row _ _ _ _ _ _ hBa]; rfl
  have a1 : Wa.frozen? ⟨B, 0, none⟩ = false := frozen_of_row _ _ _ _ _ hBa
  have b0 : Wb.cell? ⟨B, 1, none⟩ = some (.int .i64 (s : Int)) := by rw [cell_of_row _ _ _ _ _ _ hBb]; rfl
  have b1 : Wb.frozen? ⟨B, 1, none⟩ = false := frozen_of_row _ _ _ _ _ hBb
  have b2 : Wb.cell? ⟨W.heap.size, 2, none⟩ = some (.slice a n1 ca) := by rw [cell_of_row _ _ _ _ _ _ hXb]; rfl
  have b3 : Wb.cell? ⟨W.heap.size, 3, none⟩ = some (.slice b n2 cb) := by rw [cell_of_row _ _ _ _ _ _ hXb]; rfl
  have p0 : W2.cell? ⟨B, 0, none⟩ = some (.int .i64 ((n : Int) + 1)) := by rw [cell_of_row _ _ _ _ _ _ hB2]; rfl
  have p1 : W2.cell? ⟨B, 1, none⟩ = some (.int .i64 ((s : Int) + ((n1 : Int) + (n2 : Int)))) := by rw [cell_of_row _ _ _ _ _ _ hB2]; rfl
  have hE2 := hE.only hO2 hF
  have p2 := hE2.c0
  have HO2 := hid0 hO2
  have HB2 := hid0 hB2
  have HX2 := hid0 hX2
  have HS2 := hid0 hs2
  have HE2 := hid0 hE2
  have hfa := hWa.symm
  have hfb := hWb.symm
  have hf2 : (Wb.setCell ⟨B, 1, none⟩ (.int .i64 ((s : Int) + ((n1 : Int) + (n2 : Int))))).drew = W2 := by rw [hW2, hWb, hWa]
  clear hW2 hB2 hO2 hX2 hWa hBa hXa hWb hBb hXb hE2 hB hE hs2
  go_enter Tryd.func18, Tryd.ntmps18
  go_wp2
  go_region
  go_wp2
  refine wp_region_held_drew (S := (fun V => V.cell? ⟨B, 0, none⟩ = some (.int .i64 ((n : Int) + 1)) ∧ V.cell? ⟨B, 1, none⟩ = some (.int .i64 ((s : Int) + ((n1 : Int) + (n2 : Int)))) ∧ V.cell? ⟨0, 0, none⟩ = some (.iface 115 (.pointer (some (A 0)))))) (by kernel_rfl) ?_ (fun hHeld => ?_)
  · exact ⟨p0, p1, p2⟩
  refine tkV (i := 0) (d := some 31) (v := ?_) rfl (by kernel_rfl) (by kernel_rfl) (by kernel_rfl) rfl (fun _ _ _ h => h) (by rfl) ?_ (by assumption) ?_
  rotate_left
  · (intro w hSw; (try dsimp only at hSw); (try simp only [List.getElem_toArray, List.getElem_cons_zero]); go_simp; try with_reducible rfl)
  simp only [Act.put, List.setIfInBounds_toArray, List.set_cons_zero, List.set_cons_succ]
  refine tkV (i := 1) (d := some 32) (v := ?_) rfl (by kernel_rfl) (by kernel_rfl) (by kernel_rfl) rfl (fun _ _ _ h => h) (by rfl) ?_ (by assumption) ?_
  rotate_left
  · (intro w hSw; (try dsimp only at hSw); (try simp only [List.getElem_toArray, List.getElem_cons_zero, List.getElem_cons_succ]); go_simp; try with_reducible rfl)
  simp only [Act.put, List.setIfInBounds_toArray, List.set_cons_zero, List.set_cons_succ]
  refine tkV (i := 2) (d := some 33) (v := ?_) rfl (by kernel_rfl) (by kernel_rfl) (by kernel_rfl) rfl (fun _ _ _ h => h) (by rfl) ?_ (by assumption) ?_
  rotate_left
  · (intro w hSw; (try dsimp only at hSw); (try simp only [List.getElem_toArray, List.getElem_cons_zero, List.getElem_cons_succ]); go_simp; try with_reducible rfl)
  simp only [Act.put, List.setIfInBounds_toArray, List.set_cons_zero, List.set_cons_succ]
  refine tkV (i := 3) (d := some 34) (v := ?_) rfl (by kernel_rfl) (by kernel_rfl) (by kernel_rfl) rfl (fun _ _ _ h => h) (by rfl) ?_ (by assumption) ?_
  rotate_left
  · (intro w hSw; (try dsimp only at hSw); (try simp only [List.getElem_toArray, List.getElem_cons_zero, List.getElem_cons_succ]); go_simp; try with_reducible rfl)
  simp only [Act.put, List.setIfInBounds_toArray, List.set_cons_zero, List.set_cons_succ]
  refine tkV (i := 4) (d := some 35) (v := ?_) rfl (by kernel_rfl) (by kernel_rfl) (by kernel_rfl) rfl (fun _ _ _ h => h) (by rfl) ?_ (by assumption) ?_
  rotate_left
  · (intro w hSw; (try dsimp only at hSw); (try simp only [List.getElem_toArray, List.getElem_cons_zero, List.getElem_cons_succ]); go_simp; try with_reducible rfl)
  simp only [Act.put, List.setIfInBounds_toArray, List.set_cons_zero, List.set_cons_succ]
  refine tkV (i := 5) (d := some 36) (v := ?_) rfl (by kernel_rfl) (by kernel_rfl) (by kernel_rfl) rfl (fun _ _ _ h => h) (by rfl) ?_ (by assumption) ?_
  rotate_left
  · (intro w hSw; (try dsimp only at hSw); (try simp only [List.getElem_toArray, List.getElem_cons_zero, List.getElem_cons_succ]); go_simp; try with_reducible rfl)
  simp only [Act.put, List.setIfInBounds_toArray, List.set_cons_zero, List.set_cons_succ]
  refine tkV (i := 6) (d := some 37) (v := ?_) rfl (by kernel_rfl) (by kernel_rfl) (by kernel_rfl) rfl (fun _ _ _ h => h) (by rfl) ?_ (by assumption) ?_
  rotate_left
  · (intro w hSw; (try dsimp only at hSw); (try simp only [List.getElem_toArray, List.getElem_cons_zero, List.getElem_cons_succ]); go_simp; try with_reducible rfl)
  simp only [Act.put, List.setIfInBounds_toArray, List.set_cons_zero, List.set_cons_succ]
  refine tkV (i := 7) (d := some 38) (v := ?_) rfl (by kernel_rfl) (by kernel_rfl) (by kernel_rfl) rfl (fun _ _ _ h => h) (by rfl) ?_ (by assumption) ?_
  rotate_left
  · (intro w hSw; (try dsimp only at hSw); (try simp only [List.getElem_toArray, List.getElem_cons_zero, List.getElem_cons_succ]); go_simp; try with_reducible rfl)
  simp only [Act.put, List.setIfInBounds_toArray, List.set_cons_zero, List.set_cons_succ]
  refine tkV (i := 8) (d := some 39) (v := ?_) rfl (by kernel_rfl) (by kernel_rfl) (by kernel_rfl) rfl (fun _ _ _ h => h) (by rfl) ?_ (by assumption) ?_
  rotate_left
  · (intro w hSw; (try dsimp only at hSw); (try simp only [List.getElem_toArray, List.getElem_cons_zero, List.getElem_cons_succ]); go_simp; try with_reducible rfl)
  simp only [Act.put, List.setIfInBounds_toArray, List.set_cons_zero, List.set_cons_succ]
  refine tkV (i := 9) (d := some 40) (v := ?_) rfl (by kernel_rfl) (by kernel_rfl) (by kernel_rfl) rfl (fun _ _ _ h => h) (by rfl) ?_ (by assumption) ?_
  rotate_left
  · (intro w hSw; (try dsimp only at hSw); (try simp only [List.getElem_toArray, List.getElem_cons_zero, List.getElem_cons_succ]); go_simp; try with_reducible rfl)
  simp only [Act.put, List.setIfInBounds_toArray, List.set_cons_zero, List.set_cons_succ]
  refine tkV (i := 10) (d := some 41) (v := ?_) rfl (by kernel_rfl) (by kernel_rfl) (by kernel_rfl) rfl (fun _ _ _ h => h) (by rfl) ?_ (by assumption) ?_
  rotate_left
  · (intro w hSw; (try dsimp only at hSw); (try simp only [List.getElem_toArray, List.getElem_cons_zero, List.getElem_cons_succ]); go_simp; try with_reducible rfl)
  simp only [Act.put, List.setIfInBounds_toArray, List.set_cons_zero, List.set_cons_succ]
  refine tkV (i := 11) (d := some 42) (v := ?_) rfl (by kernel_rfl) (by kernel_rfl) (by kernel_rfl) rfl (fun _ _ _ h => h) (by rfl) ?_ (by assumption) ?_
  rotate_left
  · (intro w hSw; (try dsimp only at hSw); (try simp only [List.getElem_toArray, List.getElem_cons_zero, List.getElem_cons_succ]); go_simp; try with_reducible rfl)
  simp only [Act.put, List.setIfInBounds_toArray, List.set_cons_zero, List.set_cons_succ]
  refine tkV (i := 12) (d := some 43) (v := ?_) rfl (by kernel_rfl) (by kernel_rfl) (by kernel_rfl) rfl (fun _ _ _ h => h) (by rfl) ?_ (by assumption) ?_
  rotate_left
  · (intro w hSw; (try dsimp only at hSw); (try simp only [List.getElem_toArray, List.getElem_cons_zero, List.getElem_cons_succ]); go_simp; try with_reducible rfl)
  simp only [Act.put, List.setIfInBounds_toArray, List.set_cons_zero, List.set_cons_succ]
  refine tkV (i := 13) (d := some 44) (v := ?_) rfl (by kernel_rfl) (by kernel_rfl) (by kernel_rfl) rfl (fun _ _ _ h => h) (by rfl) ?_ (by assumption) ?_
  rotate_left
  · (intro w hSw; (try dsimp only at hSw); (try simp only [List.getElem_toArray, List.getElem_cons_zero, List.getElem_cons_succ]); go_simp; try with_reducible rfl)
  simp only [Act.put, List.setIfInBounds_toArray, List.set_cons_zero, List.set_cons_succ]
  refine tkV (i := 14) (d := some 45) (v := ?_) rfl (by kernel_rfl) (by kernel_rfl) (by kernel_rfl) rfl (fun _ _ _ h => h) (by rfl) ?_ (by assumption) ?_
  rotate_left
  · (intro w hSw; (try dsimp only at hSw); (try simp only [List.getElem_toArray, List.getElem_cons_zero, List.getElem_cons_succ]); go_simp; try with_reducible rfl)
  simp only [Act.put, List.setIfInBounds_toArray, List.set_cons_zero, List.set_cons_succ]
  refine tkV (i := 15) (d := some 46) (v := ?_) rfl (by kernel_rfl) (by kernel_rfl) (by kernel_rfl) rfl (fun _ _ _ h => h) (by rfl) ?_ (by assumption) ?_
  rotate_left
  · (intro w hSw; (try dsimp only at hSw); (try simp only [List.getElem_toArray, List.getElem_cons_zero, List.getElem_cons_succ]); go_simp; try with_reducible rfl)
  simp only [Act.put, List.setIfInBounds_toArray, List.set_cons_zero, List.set_cons_succ]
  refine tkV (i := 16) (d := some 47) (v := ?_) rfl (by kernel_rfl) (by kernel_rfl) (by kernel_rfl) rfl (fun _ _ _ h => h) (by rfl) ?_ (by assumption) ?_
  rotate_left
  · (intro w hSw; (try dsimp only at hSw); (try simp only [List.getElem_toArray, List.getElem_cons_zero, List.getElem_cons_succ]); go_simp; try with_reducible rfl)
  simp only [Act.put, List.setIfInBounds_toArray, List.set_cons_zero, List.set_cons_succ]
  refine wpAnyH_ready (rs := [17]) (by kernel_rfl) (by simp) (AllReadyH.cons rfl (fun K hK => ?_) AllReadyH.nil)
  try simp only [List.getElem_toArray, List.getElem_cons_zero, List.getElem_cons_succ]
  go_simp
  go_split_ands
  refine (need_fb _ _ _ _ (by first | rfl | (exact decide_eq_false (by omega)))).mono ?_
  rintro e w7 ⟨rfl, hw7⟩
  subst hw7
  exact ⟨rfl, rfl, HO2.out.step (Only.drewN _ 1 _)⟩
end Go.Proofs.YthfnaalbgjeaeaaDoor
namespace Go.Proofs.YthfnaalbgjeaeaaDoor
open Go.RowKit Go.Shelf
/-- Where a node's parts are gone through. -/
structure T4 (W : World) (B : Nat) (A : Nat → Addr) (n s : Int) (x0 x1 x2 x3 x4 : Value) (V : World) : Prop where
  o : Only W V (fun k => k = B)
  b : V.heap[B]? = some (.cells #[.int .i64 n, .int .i64 s] 51 (0, 0))
  x : V.heap[W.heap.size]? = some (.cells #[x0, x1, x2, x3, x4] 30 (0, 0))
  e : E3 V A
theorem T4.later {W V V' : World} {B : Nat} {A : Nat → Addr} {n s : Int} {x0 x1 x2 x3 x4 : Value} (h : T4 W B A n s x0 x1 x2 x3 x4 V) (k : Below V.heap.size V V') : T4 W B A n s x0 x1 x2 x3 x4 V' :=
  ⟨h.o.step (Only.past k), (k.block _ (lt_of_rowC h.b)).trans h.b, (k.block _ (lt_of_rowC h.x)).trans h.x, h.e.below k⟩
theorem T4.drewN {W V : World} {B : Nat} {A : Nat → Addr} {n s : Int} {x0 x1 x2 x3 x4 : Value} (h : T4 W B A n s x0 x1 x2 x3 x4 V) (q : Nat) : T4 W B A n s x0 x1 x2 x3 x4 (V.drewN q) := h.later ⟨rfl, rfl, rfl, Nat.le_refl _, fun _ _ => rfl⟩
theorem T4.cells {W V : World} {B : Nat} {A : Nat → Addr} {n s : Int} {x0 x1 x2 x3 x4 : Value} (h : T4 W B A n s x0 x1 x2 x3 x4 V) : V.cell? ⟨W.heap.size, 0, none⟩ = some x0 ∧ V.cell? ⟨W.heap.size, 1, none⟩ = some x1 ∧ V.cell? ⟨W.heap.size, 2, none⟩ = some x2 ∧ V.cell? ⟨W.heap.size, 3, none⟩ = some x3 ∧ V.cell? ⟨W.heap.size, 4, none⟩ = some x4 ∧ V.cell? ⟨1, 0, none⟩ = some (.iface 115 (.pointer (some (A 1)))) ∧ V.cell? ⟨2, 0, none⟩ = some (.iface 115 (.pointer (some (A 2)))) :=
  ⟨by rw [cell_of_row _ _ _ _ _ _ h.x]; rfl, by rw [cell_of_row _ _ _ _ _ _ h.x]; rfl, by rw [cell_of_row _ _ _ _ _ _ h.x]; rfl, by rw [cell_of_row _ _ _ _ _ _ h.x]; rfl, by rw [cell_of_row _ _ _ _ _ _ h.x]; rfl, h.e.c1, h.e.c2⟩
end Go.Proofs.YthfnaalbgjeaeaaDoor
namespace Go.Proofs.YthfnaalbgjeaeaaDoor
open Go.RowKit Go.Shelf
set_option maxRecDepth 10000 in
set_option maxHeartbeats 6400000 in
theorem go_bad1 (k : Int) (nt : Bool) (a b c : Option Addr) (n1 ca n2 cb n3 cc d n s B : Nat) (A : Nat → Addr) (W : World) (l1 : n1 ≤ 1000000000) (l2 : n2 ≤ 1000000000) (hE : E3 W A) (hF : Far B) (hn : n ≤ 4000) (hs : s ≤ 65536)
    (hB : W.heap[B]? = some (.cells #[.int .i64 (n : Int), .int .i64 (s : Int)] 51 (0, 0))) (h1 : n + 1 ≤ 4000) (h2 : d ≤ 128) (h3 : s + (n1 + n2) ≤ 65536)
    (hW : ∀ V, Only W V (fun k => k = B) → Calls Tryd.prog 23 #[.agg #[.int .i64 k, .bool nt, .slice a n1 ca, .slice b n2 cb, .slice c n3 cc]] V fun e w' => e = .returned (.bool false) ∧ Below V.heap.size V w') :
    Calls Tryd.prog 18 #[.pointer (some ⟨B, 0, none⟩), .agg #[.int .i64 k, .bool nt, .slice a n1 ca, .slice b n2 cb, .slice c n3 cc], .int .i64 (d : Int)] W fun r W' => GoR A B r W' (.bad 1) ∧ Only W W' (fun k => k = B) := by
  have h1I : (n : Int) + 1 ≤ 4000 := by omega
  have h2I : (d : Int) ≤ 128 := by omega
  have h3I : (s : Int) + ((n1 : Int) + (n2 : Int)) ≤ 65536 := by omega
  have HWc := hid0 hW
  clear hW
  obtain ⟨W2, hW2, hB2, hO2, hX2, hs2⟩ := go_counts W B n s (.int .i64 k) (.bool nt) (.slice a n1 ca) (.slice b n2 cb) (.slice c n3 cc) (.int .i64 ((n : Int) + 1)) (.int .i64 ((s : Int) + ((n1 : Int) + (n2 : Int)))) hB
  have hBl := lt_of_rowC hB
  have e1 : IntKind.i64.wrap ((n : Int) + 1) = (n : Int) + 1 := by simp [IntKind.wrap, IntKind.bits, IntKind.signed]; omega
  have e2 : IntKind.i64.wrap ((n1 : Int) + (n2 : Int)) = (n1 : Int) + (n2 : Int) := by simp [IntKind.wrap, IntKind.bits, IntKind.signed]; omega
  have e3 : IntKind.i64.wrap ((s : Int) + ((n1 : Int) + (n2 : Int))) = (s : Int) + ((n1 : Int) + (n2 : Int)) := by simp [IntKind.wrap, IntKind.bits, IntKind.signed]; omega
  obtain ⟨Wa, hWa⟩ : ∃ Wa, Wa = W.alloc (.cells #[.int .i64 k, .bool nt, .slice a n1 ca, .slice b n2 cb, .slice c n3 cc] 30) := ⟨_, rfl⟩
  have hBa : Wa.heap[B]? = some (.cells #[.int .i64 (n : Int), .int .i64 (s : Int)] 51 (0, 0)) := by rw [hWa]; exact (Below.heap_alloc W _ B hBl).trans hB
  have hXa : Wa.heap[W.heap.size]? = some (.cells #[.int .i64 k, .bool nt, .slice a n1 ca, .slice b n2 cb, .slice c n3 cc] 30 (0, 0)) := by rw [hWa]; exact heap_alloc_new W _
  obtain ⟨Wb, hWb⟩ : ∃ Wb, Wb = Wa.setCell ⟨B, 0, none⟩ (.int .i64 ((n : Int) + 1)) := ⟨_, rfl⟩
  have hBb : Wb.heap[B]? = some (.cells #[.int .i64 ((n : Int) + 1), .int .i64 (s : Int)] 51 (0, 0)) := by rw [hWb]; exact heap_setCell_same _ B 0 _ _ _ hBa
  have hXb : Wb.heap[W.heap.size]? = some (.cells #[.int .i64 k, .bool nt, .slice a n1 ca, .slice b n2 cb, .slice c n3 cc] 30 (0, 0)) := by rw [hWb]; exact (Below.heap_setCell _ _ _ W.heap.size (by simp; omega)).trans hXa
  have a0 : Wa.cell? ⟨B, 0, none⟩ = some (.int .i64 (n : Int)) := by rw [cell_of_row _ _ _ _ _ _ hBa]; rfl
  have a1 : Wa.frozen? ⟨B, 0, none⟩ = false := frozen_of_row _ _ _ _ _ hBa
  have b0 : Wb.cell? ⟨B, 1, none⟩ = some (.int .i64 (s : Int)) := by rw [cell_of_row _ _ _ _ _ _ hBb]; rfl
  have b1 : Wb.frozen? ⟨B, 1, none⟩ = false := frozen_of_row _ _ _ _ _ hBb
  have b2 : Wb.cell? ⟨W.heap.size, 2, none⟩ = some (.slice a n1 ca) := by rw [cell_of_row _ _ _ _ _ _ hXb]; rfl
  have b3 : Wb.cell? ⟨W.heap.size, 3, none⟩ = some (.slice b n2 cb) := by rw [cell_of_row _ _ _ _ _ _ hXb]; rfl
  have p0 : W2.cell? ⟨B, 0, none⟩ = some (.int .i64 ((n : Int) + 1)) := by rw [cell_of_row _ _ _ _ _ _ hB2]; rfl
  have p1 : W2.cell? ⟨B, 1, none⟩ = some (.int .i64 ((s : Int) + ((n1 : Int) + (n2 : Int)))) := by rw [cell_of_row _ _ _ _ _ _ hB2]; rfl
  have hE2 := hE.only hO2 hF
  have p2 := hE2.c0
  have HO2 := hid0 hO2
  have HB2 := hid0 hB2
  have HX2 := hid0 hX2
  have HS2 := hid0 hs2
  have HE2 := hid0 hE2
  have hfa := hWa.symm
  have hfb := hWb.symm
  have hf2 : (Wb.setCell ⟨B, 1, none⟩ (.int .i64 ((s : Int) + ((n1 : Int) + (n2 : Int))))).drew = W2 := by rw [hW2, hWb, hWa]
  clear hW2 hB2 hO2 hX2 hWa hBa hXa hWb hBb hXb hE2 hB hE hs2
  go_enter Tryd.func18, Tryd.ntmps18
  go_wp2
  go_region
  go_wp2
  have HT : Hid (T4 W B A ((n : Int) + 1) ((s : Int) + ((n1 : Int) + (n2 : Int))) (.int .i64 k) (.bool nt) (.slice a n1 ca) (.slice b n2 cb) (.slice c n3 cc) W2) := hid0 ⟨HO2.out, HB2.out, HX2.out, HE2.out⟩
  go_quiet ((go_at_call 22; exact Calls.quiet_of_same (need_tb _ _ _ (by first | rfl | exact decide_eq_true (by omega)))))
  go_wp2
  have HTq := hid0 (HT.out.drewN nq)
  generalize W2.drewN nq = W3 at *
  clear HT HO2 HB2 HX2 HE2 HS2 p0 p1 p2 a0 a1 b0 b1 b2 b3 hfa hfb hf2 e1 e2 e3
  have HSop : Hid (∀ V, T4 W B A ((n : Int) + 1) ((s : Int) + ((n1 : Int) + (n2 : Int))) (.int .i64 k) (.bool nt) (.slice a n1 ca) (.slice b n2 cb) (.slice c n3 cc) V → (fun V => V.cell? ⟨W.heap.size, 0, none⟩ = some (.int .i64 k) ∧ V.cell? ⟨W.heap.size, 1, none⟩ = some (.bool nt) ∧ V.cell? ⟨W.heap.size, 2, none⟩ = some (.slice a n1 ca) ∧ V.cell? ⟨W.heap.size, 3, none⟩ = some (.slice b n2 cb) ∧ V.cell? ⟨W.heap.size, 4, none⟩ = some (.slice c n3 cc) ∧ V.cell? ⟨1, 0, none⟩ = some (.iface 115 (.pointer (some (A 1)))) ∧ T4 W B A ((n : Int) + 1) ((s : Int) + ((n1 : Int) + (n2 : Int))) (.int .i64 k) (.bool nt) (.slice a n1 ca) (.slice b n2 cb) (.slice c n3 cc) V) V) := hid0 (fun V h => by obtain ⟨q0, q1, q2, q3, q4, q5, q6⟩ := h.cells; exact ⟨q0, q1, q2, q3, q4, q5, h⟩)
  refine wp_region_held_drew (S := (fun V => V.cell? ⟨W.heap.size, 0, none⟩ = some (.int .i64 k) ∧ V.cell? ⟨W.heap.size, 1, none⟩ = some (.bool nt) ∧ V.cell? ⟨W.heap.size, 2, none⟩ = some (.slice a n1 ca) ∧ V.cell? ⟨W.heap.size, 3, none⟩ = some (.slice b n2 cb) ∧ V.cell? ⟨W.heap.size, 4, none⟩ = some (.slice c n3 cc) ∧ V.cell? ⟨1, 0, none⟩ = some (.iface 115 (.pointer (some (A 1)))) ∧ T4 W B A ((n : Int) + 1) ((s : Int) + ((n1 : Int) + (n2 : Int))) (.int .i64 k) (.bool nt) (.slice a n1 ca) (.slice b n2 cb) (.slice c n3 cc) V)) (by kernel_rfl) ?_ (fun hHeld => ?_)
  · exact HSop.out _ (HTq.out.drewN 1)
  have HTap := hid0 hHeld.2.2.2.2.2.2
  refine tkV (i := 0) (d := some 49) (v := ?_) rfl (by kernel_rfl) (by kernel_rfl) (by kernel_rfl) rfl (fun _ _ _ h => h) (by rfl) ?_ (by assumption) ?_
  rotate_left
  · (intro w hSw; (try dsimp only at hSw); (try simp only [List.getElem_toArray, List.getElem_cons_zero]); go_simp; try with_reducible rfl)
  simp only [Act.put, List.setIfInBounds_toArray, List.set_cons_zero, List.set_cons_succ]
  refine tkV (i := 2) (d := some 51) (v := ?_) rfl (by kernel_rfl) (by kernel_rfl) (by kernel_rfl) rfl (fun _ _ _ h => h) (by rfl) ?_ (by assumption) ?_
  rotate_left
  · (intro w hSw; (try dsimp only at hSw); (try simp only [List.getElem_toArray, List.getElem_cons_zero, List.getElem_cons_succ]); go_simp; try with_reducible rfl)
  simp only [Act.put, List.setIfInBounds_toArray, List.set_cons_zero, List.set_cons_succ]
  refine wpAnyH_ready (rs := [1]) (by kernel_rfl) (by simp) (AllReadyH.cons rfl (fun K hK => ?_) AllReadyH.nil)
  try simp only [List.getElem_toArray, List.getElem_cons_zero, List.getElem_cons_succ]
  go_simp
  go_split_ands
  refine (HWc.out _ HTap.out.o).mono ?_
  rintro e w6p ⟨rfl, hb6⟩
  have HTbp := hid0 (HTap.out.later hb6)
  clear hb6
  go_wp2_with fail
  refine hK.out _ _ ?_ (fun hHeld2 => ?_)
  · exact HSop.out _ HTbp.out
  clear hK K
  (try simp only [Act.put]); (try simp only [List.setIfInBounds_toArray]); (try simp only [List.set_cons_succ]); (try simp only [List.set_cons_zero])
  refine wpAnyH_ready (rs := [3]) (by kernel_rfl) (by simp) (AllReadyH.cons rfl (fun K hK => ?_) AllReadyH.nil)
  try simp only [List.getElem_toArray, List.getElem_cons_zero, List.getElem_cons_succ]
  go_simp
  go_split_ands
  refine (need_f _ _ _).mono ?_
  rintro e w7 ⟨rfl, hw7⟩
  subst hw7
  exact ⟨rfl, rfl, HTbp.out.o⟩
end Go.Proofs.YthfnaalbgjeaeaaDoor
namespace Go.Proofs.YthfnaalbgjeaeaaDoor
open Go.RowKit Go.Shelf
set_option maxRecDepth 10000 in
set_option maxHeartbeats 6400000 in
theorem go_bad2 (k : Int) (nt : Bool) (a b c : Option Addr) (n1 ca n2 cb n3 cc d n s B : Nat) (A : Nat → Addr) (W : World) (l1 : n1 ≤ 1000000000) (l2 : n2 ≤ 1000000000) (hE : E3 W A) (hF : Far B) (hn : n ≤ 4000) (hs : s ≤ 65536)
    (hB : W.heap[B]? = some (.cells #[.int .i64 (n : Int), .int .i64 (s : Int)] 51 (0, 0))) (h1 : n + 1 ≤ 4000) (h2 : d ≤ 128) (h3 : s + (n1 + n2) ≤ 65536)
    (hW : ∀ V, Only W V (fun k => k = B) → Calls Tryd.prog 23 #[.agg #[.int .i64 k, .bool nt, .slice a n1 ca, .slice b n2 cb, .slice c n3 cc]] V fun e w' => e = .returned (.bool true) ∧ Below V.heap.size V w')
    (hI : ∀ V, Only W V (fun k => k = B) → Calls Tryd.prog 24 #[.agg #[.int .i64 k, .bool nt, .slice a n1 ca, .slice b n2 cb, .slice c n3 cc]] V fun e w' => e = .returned (.bool false) ∧ Below V.heap.size V w') :
    Calls Tryd.prog 18 #[.pointer (some ⟨B, 0, none⟩), .agg #[.int .i64 k, .bool nt, .slice a n1 ca, .slice b n2 cb, .slice c n3 cc], .int .i64 (d : Int)] W fun r W' => GoR A B r W' (.bad 2) ∧ Only W W' (fun k => k = B) := by
  have h1I : (n : Int) + 1 ≤ 4000 := by omega
  have h2I : (d : Int) ≤ 128 := by omega
  have h3I : (s : Int) + ((n1 : Int) + (n2 : Int)) ≤ 65536 := by omega
  have HWc := hid0 hW
  have HIc := hid0 hI
  clear hW hI
  obtain ⟨W2, hW2, hB2, hO2, hX2, hs2⟩ := go_counts W B n s (.int .i64 k) (.bool nt) (.slice a n1 ca) (.slice b n2 cb) (.slice c n3 cc) (.int .i64 ((n : Int) + 1)) (.int .i64 ((s : Int) + ((n1 : Int) + (n2 : Int)))) hB
  have hBl := lt_of_rowC hB
  have e1 : IntKind.i64.wrap ((n : Int) + 1) = (n : Int) + 1 := by simp [IntKind.wrap, IntKind.bits, IntKind.signed]; omega
  have e2 : IntKind.i64.wrap ((n1 : Int) + (n2 : Int)) = (n1 : Int) + (n2 : Int) := by simp [IntKind.wrap, IntKind.bits, IntKind.signed]; omega
  have e3 : IntKind.i64.wrap ((s : Int) + ((n1 : Int) + (n2 : Int))) = (s : Int) + ((n1 : Int) + (n2 : Int)) := by simp [IntKind.wrap, IntKind.bits, IntKind.signed]; omega
  obtain ⟨Wa, hWa⟩ : ∃ Wa, Wa = W.alloc (.cells #[.int .i64 k, .bool nt, .slice a n1 ca, .slice b n2 cb, .slice c n3 cc] 30) := ⟨_, rfl⟩
  have hBa : Wa.heap[B]? = some (.cells #[.int .i64 (n : Int), .int .i64 (s : Int)] 51 (0, 0)) := by rw [hWa]; exact (Below.heap_alloc W _ B hBl).trans hB
  have hXa : Wa.heap[W.heap.size]? = some (.cells #[.int .i64 k, .bool nt, .slice a n1 ca, .slice b n2 cb, .slice c n3 cc] 30 (0, 0)) := by rw [hWa]; exact heap_alloc_new W _
  obtain ⟨Wb, hWb⟩ : ∃ Wb, Wb = Wa.setCell ⟨B, 0, none⟩ (.int .i64 ((n : Int) + 1)) := ⟨_, rfl⟩
  have hBb : Wb.heap[B]? = some (.cells #[.int .i64 ((n : Int) + 1), .int .i64 (s : Int)] 51 (0, 0)) := by rw [hWb]; exact heap_setCell_same _ B 0 _ _ _ hBa
  have hXb : Wb.heap[W.heap.size]? = some (.cells #[.int .i64 k, .bool nt, .slice a n1 ca, .slice b n2 cb, .slice c n3 cc] 30 (0, 0)) := by rw [hWb]; exact (Below.heap_setCell _ _ _ W.heap.size (by simp; omega)).trans hXa
  have a0 : Wa.cell? ⟨B, 0, none⟩ = some (.int .i64 (n : Int)) := by rw [cell_of_row _ _ _ _ _ _ hBa]; rfl
  have a1 : Wa.frozen? ⟨B, 0, none⟩ = false := frozen_of_row _ _ _ _ _ hBa
  have b0 : Wb.cell? ⟨B, 1, none⟩ = some (.int .i64 (s : Int)) := by rw [cell_of_row _ _ _ _ _ _ hBb]; rfl
  have b1 : Wb.frozen? ⟨B, 1, none⟩ = false := frozen_of_row _ _ _ _ _ hBb
  have b2 : Wb.cell? ⟨W.heap.size, 2, none⟩ = some (.slice a n1 ca) := by rw [cell_of_row _ _ _ _ _ _ hXb]; rfl
  have b3 : Wb.cell? ⟨W.heap.size, 3, none⟩ = some (.slice b n2 cb) := by rw [cell_of_row _ _ _ _ _ _ hXb]; rfl
  have p0 : W2.cell? ⟨B, 0, none⟩ = some (.int .i64 ((n : Int) + 1)) := by rw [cell_of_row _ _ _ _ _ _ hB2]; rfl
  have p1 : W2.cell? ⟨B, 1, none⟩ = some (.int .i64 ((s : Int) + ((n1 : Int) + (n2 : Int)))) := by rw [cell_of_row _ _ _ _ _ _ hB2]; rfl
  have hE2 := hE.only hO2 hF
  have p2 := hE2.c0
  have HO2 := hid0 hO2
  have HB2 := hid0 hB2
  have HX2 := hid0 hX2
  have HS2 := hid0 hs2
  have HE2 := hid0 hE2
  have hfa := hWa.symm
  have hfb := hWb.symm
  have hf2 : (Wb.setCell ⟨B, 1, none⟩ (.int .i64 ((s : Int) + ((n1 : Int) + (n2 : Int))))).drew = W2 := by rw [hW2, hWb, hWa]
  clear hW2 hB2 hO2 hX2 hWa hBa hXa hWb hBb hXb hE2 hB hE hs2
  go_enter Tryd.func18, Tryd.ntmps18
  go_wp2
  go_region
  go_wp2
  have HT : Hid (T4 W B A ((n : Int) + 1) ((s : Int) + ((n1 : Int) + (n2 : Int))) (.int .i64 k) (.bool nt) (.slice a n1 ca) (.slice b n2 cb) (.slice c n3 cc) W2) := hid0 ⟨HO2.out, HB2.out, HX2.out, HE2.out⟩
  go_quiet ((go_at_call 22; exact Calls.quiet_of_same (need_tb _ _ _ (by first | rfl | exact decide_eq_true (by omega)))))
  go_wp2
  have HTq := hid0 (HT.out.drewN nq)
  generalize W2.drewN nq = W3 at *
  clear HT HO2 HB2 HX2 HE2 HS2 p0 p1 p2 a0 a1 b0 b1 b2 b3 hfa hfb hf2 e1 e2 e3
  have HSop : Hid (∀ V, T4 W B A ((n : Int) + 1) ((s : Int) + ((n1 : Int) + (n2 : Int))) (.int .i64 k) (.bool nt) (.slice a n1 ca) (.slice b n2 cb) (.slice c n3 cc) V → (fun V => V.cell? ⟨W.heap.size, 0, none⟩ = some (.int .i64 k) ∧ V.cell? ⟨W.heap.size, 1, none⟩ = some (.bool nt) ∧ V.cell? ⟨W.heap.size, 2, none⟩ = some (.slice a n1 ca) ∧ V.cell? ⟨W.heap.size, 3, none⟩ = some (.slice b n2 cb) ∧ V.cell? ⟨W.heap.size, 4, none⟩ = some (.slice c n3 cc) ∧ V.cell? ⟨1, 0, none⟩ = some (.iface 115 (.pointer (some (A 1)))) ∧ T4 W B A ((n : Int) + 1) ((s : Int) + ((n1 : Int) + (n2 : Int))) (.int .i64 k) (.bool nt) (.slice a n1 ca) (.slice b n2 cb) (.slice c n3 cc) V) V) := hid0 (fun V h => by obtain ⟨q0, q1, q2, q3, q4, q5, q6⟩ := h.cells; exact ⟨q0, q1, q2, q3, q4, q5, h⟩)
  refine wp_region_held_drew (S := (fun V => V.cell? ⟨W.heap.size, 0, none⟩ = some (.int .i64 k) ∧ V.cell? ⟨W.heap.size, 1, none⟩ = some (.bool nt) ∧ V.cell? ⟨W.heap.size, 2, none⟩ = some (.slice a n1 ca) ∧ V.cell? ⟨W.heap.size, 3, none⟩ = some (.slice b n2 cb) ∧ V.cell? ⟨W.heap.size, 4, none⟩ = some (.slice c n3 cc) ∧ V.cell? ⟨1, 0, none⟩ = some (.iface 115 (.pointer (some (A 1)))) ∧ T4 W B A ((n : Int) + 1) ((s : Int) + ((n1 : Int) + (n2 : Int))) (.int .i64 k) (.bool nt) (.slice a n1 ca) (.slice b n2 cb) (.slice c n3 cc) V)) (by kernel_rfl) ?_ (fun hHeld => ?_)
  · exact HSop.out _ (HTq.out.drewN 1)
  have HTap := hid0 hHeld.2.2.2.2.2.2
  refine tkV (i := 0) (d := some 49) (v := ?_) rfl (by kernel_rfl) (by kernel_rfl) (by kernel_rfl) rfl (fun _ _ _ h => h) (by rfl) ?_ (by assumption) ?_
  rotate_left
  · (intro w hSw; (try dsimp only at hSw); (try simp only [List.getElem_toArray, List.getElem_cons_zero]); go_simp; try with_reducible rfl)
  simp only [Act.put, List.setIfInBounds_toArray, List.set_cons_zero, List.set_cons_succ]
  refine tkV (i := 2) (d := some 51) (v := ?_) rfl (by kernel_rfl) (by kernel_rfl) (by kernel_rfl) rfl (fun _ _ _ h => h) (by rfl) ?_ (by assumption) ?_
  rotate_left
  · (intro w hSw; (try dsimp only at hSw); (try simp only [List.getElem_toArray, List.getElem_cons_zero, List.getElem_cons_succ]); go_simp; try with_reducible rfl)
  simp only [Act.put, List.setIfInBounds_toArray, List.set_cons_zero, List.set_cons_succ]
  refine wpAnyH_ready (rs := [1]) (by kernel_rfl) (by simp) (AllReadyH.cons rfl (fun K hK => ?_) AllReadyH.nil)
  try simp only [List.getElem_toArray, List.getElem_cons_zero, List.getElem_cons_succ]
  go_simp
  go_split_ands
  refine (HWc.out _ HTap.out.o).mono ?_
  rintro e w6p ⟨rfl, hb6⟩
  have HTbp := hid0 (HTap.out.later hb6)
  clear hb6
  go_wp2_with fail
  refine hK.out _ _ ?_ (fun hHeld2 => ?_)
  · exact HSop.out _ HTbp.out
  clear hK K
  (try simp only [Act.put]); (try simp only [List.setIfInBounds_toArray]); (try simp only [List.set_cons_succ]); (try simp only [List.set_cons_zero])
  refine wpAnyH_ready (rs := [3]) (by kernel_rfl) (by simp) (AllReadyH.cons rfl (fun K hK => ?_) AllReadyH.nil)
  try simp only [List.getElem_toArray, List.getElem_cons_zero, List.getElem_cons_succ]
  go_simp
  go_split_ands
  refine (need_t _ _).mono ?_
  rintro e w7 ⟨rfl, hw7⟩
  have hw7' := hw7.symm
  subst hw7'
  clear hw7
  go_wp2_with fail
  refine hK.out _ _ ?_ (fun hHeld3 => ?_)
  · exact HSop.out _ HTbp.out
  clear hK K
  (try simp only [Act.put]); (try simp only [List.setIfInBounds_toArray]); (try simp only [List.set_cons_succ]); (try simp only [List.set_cons_zero])
  refine wpAnyH_done (by kernel_rfl) ?_ _
  try clear hHeld3
  clear HSop HTap
  go_wp2
  have HSoq : Hid (∀ V, T4 W B A ((n : Int) + 1) ((s : Int) + ((n1 : Int) + (n2 : Int))) (.int .i64 k) (.bool nt) (.slice a n1 ca) (.slice b n2 cb) (.slice c n3 cc) V → (fun V => V.cell? ⟨W.heap.size, 0, none⟩ = some (.int .i64 k) ∧ V.cell? ⟨W.heap.size, 1, none⟩ = some (.bool nt) ∧ V.cell? ⟨W.heap.size, 2, none⟩ = some (.slice a n1 ca) ∧ V.cell? ⟨W.heap.size, 3, none⟩ = some (.slice b n2 cb) ∧ V.cell? ⟨W.heap.size, 4, none⟩ = some (.slice c n3 cc) ∧ V.cell? ⟨2, 0, none⟩ = some (.iface 115 (.pointer (some (A 2)))) ∧ T4 W B A ((n : Int) + 1) ((s : Int) + ((n1 : Int) + (n2 : Int))) (.int .i64 k) (.bool nt) (.slice a n1 ca) (.slice b n2 cb) (.slice c n3 cc) V) V) := hid0 (fun V h => by obtain ⟨q0, q1, q2, q3, q4, q5, q6⟩ := h.cells; exact ⟨q0, q1, q2, q3, q4, q6, h⟩)
  refine wp_region_held_drew (S := (fun V => V.cell? ⟨W.heap.size, 0, none⟩ = some (.int .i64 k) ∧ V.cell? ⟨W.heap.size, 1, none⟩ = some (.bool nt) ∧ V.cell? ⟨W.heap.size, 2, none⟩ = some (.slice a n1 ca) ∧ V.cell? ⟨W.heap.size, 3, none⟩ = some (.slice b n2 cb) ∧ V.cell? ⟨W.heap.size, 4, none⟩ = some (.slice c n3 cc) ∧ V.cell? ⟨2, 0, none⟩ = some (.iface 115 (.pointer (some (A 2)))) ∧ T4 W B A ((n : Int) + 1) ((s : Int) + ((n1 : Int) + (n2 : Int))) (.int .i64 k) (.bool nt) (.slice a n1 ca) (.slice b n2 cb) (.slice c n3 cc) V)) (by kernel_rfl) ?_ (fun hHeld => ?_)
  · exact HSoq.out _ (HTbp.out.drewN 1)
  have HTaq := hid0 hHeld.2.2.2.2.2.2
  refine tkV (i := 0) (d := some 53) (v := ?_) rfl (by kernel_rfl) (by kernel_rfl) (by kernel_rfl) rfl (fun _ _ _ h => h) (by rfl) ?_ (by assumption) ?_
  rotate_left
  · (intro w hSw; (try dsimp only at hSw); (try simp only [List.getElem_toArray, List.getElem_cons_zero]); go_simp; try with_reducible rfl)
  simp only [Act.put, List.setIfInBounds_toArray, List.set_cons_zero, List.set_cons_succ]
  refine tkV (i := 2) (d := some 55) (v := ?_) rfl (by kernel_rfl) (by kernel_rfl) (by kernel_rfl) rfl (fun _ _ _ h => h) (by rfl) ?_ (by assumption) ?_
  rotate_left
  · (intro w hSw; (try dsimp only at hSw); (try simp only [List.getElem_toArray, List.getElem_cons_zero, List.getElem_cons_succ]); go_simp; try with_reducible rfl)
  simp only [Act.put, List.setIfInBounds_toArray, List.set_cons_zero, List.set_cons_succ]
  refine wpAnyH_ready (rs := [1]) (by kernel_rfl) (by simp) (AllReadyH.cons rfl (fun K hK => ?_) AllReadyH.nil)
  try simp only [List.getElem_toArray, List.getElem_cons_zero, List.getElem_cons_succ]
  go_simp
  go_split_ands
  refine (HIc.out _ HTaq.out.o).mono ?_
  rintro e w6q ⟨rfl, hb6⟩
  have HTbq := hid0 (HTaq.out.later hb6)
  clear hb6
  go_wp2_with fail
  refine hK.out _ _ ?_ (fun hHeld2 => ?_)
  · exact HSoq.out _ HTbq.out
  clear hK K
  (try simp only [Act.put]); (try simp only [List.setIfInBounds_toArray]); (try simp only [List.set_cons_succ]); (try simp only [List.set_cons_zero])
  refine wpAnyH_ready (rs := [3]) (by kernel_rfl) (by simp) (AllReadyH.cons rfl (fun K hK => ?_) AllReadyH.nil)
  try simp only [List.getElem_toArray, List.getElem_cons_zero, List.getElem_cons_succ]
  go_simp
  go_split_ands
  refine (need_f _ _ _).mono ?_
  rintro e w7 ⟨rfl, hw7⟩
  subst hw7
  exact ⟨rfl, rfl, HTbq.out.o⟩
end Go.Proofs.YthfnaalbgjeaeaaDoor
namespace Go.Proofs.YthfnaalbgjeaeaaDoor
open Go.RowKit Go.Shelf
set_option maxRecDepth 10000 in
set_option maxHeartbeats 6400000 in
theorem go_parts (k : Int) (nt : Bool) (a b c : Option Addr) (n1 ca n2 cb n3 cc d n s B : Nat) (A : Nat → Addr) (W : World) (l1 : n1 ≤ 1000000000) (l2 : n2 ≤ 1000000000) (hE : E3 W A) (hF : Far B) (hn : n ≤ 4000) (hs : s ≤ 65536)
    (hB : W.heap[B]? = some (.cells #[.int .i64 (n : Int), .int .i64 (s : Int)] 51 (0, 0))) (h1 : n + 1 ≤ 4000) (h2 : d ≤ 128) (h3 : s + (n1 + n2) ≤ 65536)
    (hW : ∀ V, Only W V (fun k => k = B) → Calls Tryd.prog 23 #[.agg #[.int .i64 k, .bool nt, .slice a n1 ca, .slice b n2 cb, .slice c n3 cc]] V fun e w' => e = .returned (.bool true) ∧ Below V.heap.size V w')
    (hI : ∀ V, Only W V (fun k => k = B) → Calls Tryd.prog 24 #[.agg #[.int .i64 k, .bool nt, .slice a n1 ca, .slice b n2 cb, .slice c n3 cc]] V fun e w' => e = .returned (.bool true) ∧ Below V.heap.size V w')
    (may : List ByteArray → List (Int × Int) → Bool) (w : World) (Q : Nat → Prop) (L : List Ex) (vs : Nat → EV) (hl3 : n3 = L.length) (l3 : n3 ≤ 1000000000) (hK : Keeps Q w W) (hQ : ¬ Q B) (hL : LA w Q c L vs) (IH : ∀ i (h : i < L.length), GoP may w Q L[i] (vs i)) :
    Calls Tryd.prog 18 #[.pointer (some ⟨B, 0, none⟩), .agg #[.int .i64 k, .bool nt, .slice a n1 ca, .slice b n2 cb, .slice c n3 cc], .int .i64 (d : Int)] W fun r W' => GoR A B r W' (chkL may L (d + 1) (n + 1) (s + (n1 + n2))) ∧ Only W W' (fun k => k = B) := by
  have h1I : (n : Int) + 1 ≤ 4000 := by omega
  have h2I : (d : Int) ≤ 128 := by omega
  have h3I : (s : Int) + ((n1 : Int) + (n2 : Int)) ≤ 65536 := by omega
  have HWc := hid0 hW
  have HLA := hid0 hL
  have HIH := hid0 IH
  have HKw := hid0 hK
  have HL3 := hid0 hl3
  clear hL IH hK hl3
  have HIc := hid0 hI
  clear hW hI
  obtain ⟨W2, hW2, hB2, hO2, hX2, hs2⟩ := go_counts W B n s (.int .i64 k) (.bool nt) (.slice a n1 ca) (.slice b n2 cb) (.slice c n3 cc) (.int .i64 ((n : Int) + 1)) (.int .i64 ((s : Int) + ((n1 : Int) + (n2 : Int)))) hB
  have hBl := lt_of_rowC hB
  have e1 : IntKind.i64.wrap ((n : Int) + 1) = (n : Int) + 1 := by simp [IntKind.wrap, IntKind.bits, IntKind.signed]; omega
  have e2 : IntKind.i64.wrap ((n1 : Int) + (n2 : Int)) = (n1 : Int) + (n2 : Int) := by simp [IntKind.wrap, IntKind.bits, IntKind.signed]; omega
  have e3 : IntKind.i64.wrap ((s : Int) + ((n1 : Int) + (n2 : Int))) = (s : Int) + ((n1 : Int) + (n2 : Int)) := by simp [IntKind.wrap, IntKind.bits, IntKind.signed]; omega
  obtain ⟨Wa, hWa⟩ : ∃ Wa, Wa = W.alloc (.cells #[.int .i64 k, .bool nt, .slice a n1 ca, .slice b n2 cb, .slice c n3 cc] 30) := ⟨_, rfl⟩
  have hBa : Wa.heap[B]? = some (.cells #[.int .i64 (n : Int), .int .i64 (s : Int)] 51 (0, 0)) := by rw [hWa]; exact (Below.heap_alloc W _ B hBl).trans hB
  have hXa : Wa.heap[W.heap.size]? = some (.cells #[.int .i64 k, .bool nt, .slice a n1 ca, .slice b n2 cb, .slice c n3 cc] 30 (0, 0)) := by rw [hWa]; exact heap_alloc_new W _
  obtain ⟨Wb, hWb⟩ : ∃ Wb, Wb = Wa.setCell ⟨B, 0, none⟩ (.int .i64 ((n : Int) + 1)) := ⟨_, rfl⟩
  have hBb : Wb.heap[B]? = some (.cells #[.int .i64 ((n : Int) + 1), .int .i64 (s : Int)] 51 (0, 0)) := by rw [hWb]; exact heap_setCell_same _ B 0 _ _ _ hBa
  have hXb : Wb.heap[W.heap.size]? = some (.cells #[.int .i64 k, .bool nt, .slice a n1 ca, .slice b n2 cb, .slice c n3 cc] 30 (0, 0)) := by rw [hWb]; exact (Below.heap_setCell _ _ _ W.heap.size (by simp; omega)).trans hXa
  have a0 : Wa.cell? ⟨B, 0, none⟩ = some (.int .i64 (n : Int)) := by rw [cell_of_row _ _ _ _ _ _ hBa]; rfl
  have a1 : Wa.frozen? ⟨B, 0, none⟩ = false := frozen_of_row _ _ _ _ _ hBa
  have b0 : Wb.cell? ⟨B, 1, none⟩ = some (.int .i64 (s : Int)) := by rw [cell_of_row _ _ _ _ _ _ hBb]; rfl
  have b1 : Wb.frozen? ⟨B, 1, none⟩ = false := frozen_of_row _ _ _ _ _ hBb
  have b2 : Wb.cell? ⟨W.heap.size, 2, none⟩ = some (.slice a n1 ca) := by rw [cell_of_row _ _ _ _ _ _ hXb]; rfl
  have b3 : Wb.cell? ⟨W.heap.size, 3, none⟩ = some (.slice b n2 cb) := by rw [cell_of_row _ _ _ _ _ _ hXb]; rfl
  have p0 : W2.cell? ⟨B, 0, none⟩ = some (.int .i64 ((n : Int) + 1)) := by rw [cell_of_row _ _ _ _ _ _ hB2]; rfl
  have p1 : W2.cell? ⟨B, 1, none⟩ = some (.int .i64 ((s : Int) + ((n1 : Int) + (n2 : Int)))) := by rw [cell_of_row _ _ _ _ _ _ hB2]; rfl
  have hE2 := hE.only hO2 hF
  have p2 := hE2.c0
  have HO2 := hid0 hO2
  have HB2 := hid0 hB2
  have HX2 := hid0 hX2
  have HS2 := hid0 hs2
  have HE2 := hid0 hE2
  have hfa := hWa.symm
  have hfb := hWb.symm
  have hf2 : (Wb.setCell ⟨B, 1, none⟩ (.int .i64 ((s : Int) + ((n1 : Int) + (n2 : Int))))).drew = W2 := by rw [hW2, hWb, hWa]
  clear hW2 hB2 hO2 hX2 hWa hBa hXa hWb hBb hXb hE2 hB hE hs2
  go_enter Tryd.func18, Tryd.ntmps18
  go_wp2
  go_region
  go_wp2
  have HT : Hid (T4 W B A ((n : Int) + 1) ((s : Int) + ((n1 : Int) + (n2 : Int))) (.int .i64 k) (.bool nt) (.slice a n1 ca) (.slice b n2 cb) (.slice c n3 cc) W2) := hid0 ⟨HO2.out, HB2.out, HX2.out, HE2.out⟩
  go_quiet ((go_at_call 22; exact Calls.quiet_of_same (need_tb _ _ _ (by first | rfl | exact decide_eq_true (by omega)))))
  go_wp2
  have HTq := hid0 (HT.out.drewN nq)
  generalize W2.drewN nq = W3 at *
  clear HT HO2 HB2 HX2 HE2 HS2 p0 p1 p2 a0 a1 b0 b1 b2 b3 hfa hfb hf2 e1 e2 e3
  have HSop : Hid (∀ V, T4 W B A ((n : Int) + 1) ((s : Int) + ((n1 : Int) + (n2 : Int))) (.int .i64 k) (.bool nt) (.slice a n1 ca) (.slice b n2 cb) (.slice c n3 cc) V → (fun V => V.cell? ⟨W.heap.size, 0, none⟩ = some (.int .i64 k) ∧ V.cell? ⟨W.heap.size, 1, none⟩ = some (.bool nt) ∧ V.cell? ⟨W.heap.size, 2, none⟩ = some (.slice a n1 ca) ∧ V.cell? ⟨W.heap.size, 3, none⟩ = some (.slice b n2 cb) ∧ V.cell? ⟨W.heap.size, 4, none⟩ = some (.slice c n3 cc) ∧ V.cell? ⟨1, 0, none⟩ = some (.iface 115 (.pointer (some (A 1)))) ∧ T4 W B A ((n : Int) + 1) ((s : Int) + ((n1 : Int) + (n2 : Int))) (.int .i64 k) (.bool nt) (.slice a n1 ca) (.slice b n2 cb) (.slice c n3 cc) V) V) := hid0 (fun V h => by obtain ⟨q0, q1, q2, q3, q4, q5, q6⟩ := h.cells; exact ⟨q0, q1, q2, q3, q4, q5, h⟩)
  refine wp_region_held_drew (S := (fun V => V.cell? ⟨W.heap.size, 0, none⟩ = some (.int .i64 k) ∧ V.cell? ⟨W.heap.size, 1, none⟩ = some (.bool nt) ∧ V.cell? ⟨W.heap.size, 2, none⟩ = some (.slice a n1 ca) ∧ V.cell? ⟨W.heap.size, 3, none⟩ = some (.slice b n2 cb) ∧ V.cell? ⟨W.heap.size, 4, none⟩ = some (.slice c n3 cc) ∧ V.cell? ⟨1, 0, none⟩ = some (.iface 115 (.pointer (some (A 1)))) ∧ T4 W B A ((n : Int) + 1) ((s : Int) + ((n1 : Int) + (n2 : Int))) (.int .i64 k) (.bool nt) (.slice a n1 ca) (.slice b n2 cb) (.slice c n3 cc) V)) (by kernel_rfl) ?_ (fun hHeld => ?_)
  · exact HSop.out _ (HTq.out.drewN 1)
  have HTap := hid0 hHeld.2.2.2.2.2.2
  refine tkV (i := 0) (d := some 49) (v := ?_) rfl (by kernel_rfl) (by kernel_rfl) (by kernel_rfl) rfl (fun _ _ _ h => h) (by rfl) ?_ (by assumption) ?_
  rotate_left
  · (intro w hSw; (try dsimp only at hSw); (try simp only [List.getElem_toArray, List.getElem_cons_zero]); go_simp; try with_reducible rfl)
  simp only [Act.put, List.setIfInBounds_toArray, List.set_cons_zero, List.set_cons_succ]
  refine tkV (i := 2) (d := some 51) (v := ?_) rfl (by kernel_rfl) (by kernel_rfl) (by kernel_rfl) rfl (fun _ _ _ h => h) (by rfl) ?_ (by assumption) ?_
  rotate_left
  · (intro w hSw; (try dsimp only at hSw); (try simp only [List.getElem_toArray, List.getElem_cons_zero, List.getElem_cons_succ]); go_simp; try with_reducible rfl)
  simp only [Act.put, List.setIfInBounds_toArray, List.set_cons_zero, List.set_cons_succ]
  refine wpAnyH_ready (rs := [1]) (by kernel_rfl) (by simp) (AllReadyH.cons rfl (fun K hK => ?_) AllReadyH.nil)
  try simp only [List.getElem_toArray, List.getElem_cons_zero, List.getElem_cons_succ]
  go_simp
  go_split_ands
  refine (HWc.out _ HTap.out.o).mono ?_
  rintro e w6p ⟨rfl, hb6⟩
  have HTbp := hid0 (HTap.out.later hb6)
  clear hb6
  go_wp2_with fail
  refine hK.out _ _ ?_ (fun hHeld2 => ?_)
  · exact HSop.out _ HTbp.out
  clear hK K
  (try simp only [Act.put]); (try simp only [List.setIfInBounds_toArray]); (try simp only [List.set_cons_succ]); (try simp only [List.set_cons_zero])
  refine wpAnyH_ready (rs := [3]) (by kernel_rfl) (by simp) (AllReadyH.cons rfl (fun K hK => ?_) AllReadyH.nil)
  try simp only [List.getElem_toArray, List.getElem_cons_zero, List.getElem_cons_succ]
  go_simp
  go_split_ands
  refine (need_t _ _).mono ?_
  rintro e w7 ⟨rfl, hw7⟩
  have hw7' := hw7.symm
  subst hw7'
  clear hw7
  go_wp2_with fail
  refine hK.out _ _ ?_ (fun hHeld3 => ?_)
  · exact HSop.out _ HTbp.out
  clear hK K
  (try simp only [Act.put]); (try simp only [List.setIfInBounds_toArray]); (try simp only [List.set_cons_succ]); (try simp only [List.set_cons_zero])
  refine wpAnyH_done (by kernel_rfl) ?_ _
  try clear hHeld3
  clear HSop HTap
  go_wp2
  have HSoq : Hid (∀ V, T4 W B A ((n : Int) + 1) ((s : Int) + ((n1 : Int) + (n2 : Int))) (.int .i64 k) (.bool nt) (.slice a n1 ca) (.slice b n2 cb) (.slice c n3 cc) V → (fun V => V.cell? ⟨W.heap.size, 0, none⟩ = some (.int .i64 k) ∧ V.cell? ⟨W.heap.size, 1, none⟩ = some (.bool nt) ∧ V.cell? ⟨W.heap.size, 2, none⟩ = some (.slice a n1 ca) ∧ V.cell? ⟨W.heap.size, 3, none⟩ = some (.slice b n2 cb) ∧ V.cell? ⟨W.heap.size, 4, none⟩ = some (.slice c n3 cc) ∧ V.cell? ⟨2, 0, none⟩ = some (.iface 115 (.pointer (some (A 2)))) ∧ T4 W B A ((n : Int) + 1) ((s : Int) + ((n1 : Int) + (n2 : Int))) (.int .i64 k) (.bool nt) (.slice a n1 ca) (.slice b n2 cb) (.slice c n3 cc) V) V) := hid0 (fun V h => by obtain ⟨q0, q1, q2, q3, q4, q5, q6⟩ := h.cells; exact ⟨q0, q1, q2, q3, q4, q6, h⟩)
  refine wp_region_held_drew (S := (fun V => V.cell? ⟨W.heap.size, 0, none⟩ = some (.int .i64 k) ∧ V.cell? ⟨W.heap.size, 1, none⟩ = some (.bool nt) ∧ V.cell? ⟨W.heap.size, 2, none⟩ = some (.slice a n1 ca) ∧ V.cell? ⟨W.heap.size, 3, none⟩ = some (.slice b n2 cb) ∧ V.cell? ⟨W.heap.size, 4, none⟩ = some (.slice c n3 cc) ∧ V.cell? ⟨2, 0, none⟩ = some (.iface 115 (.pointer (some (A 2)))) ∧ T4 W B A ((n : Int) + 1) ((s : Int) + ((n1 : Int) + (n2 : Int))) (.int .i64 k) (.bool nt) (.slice a n1 ca) (.slice b n2 cb) (.slice c n3 cc) V)) (by kernel_rfl) ?_ (fun hHeld => ?_)
  · exact HSoq.out _ (HTbp.out.drewN 1)
  have HTaq := hid0 hHeld.2.2.2.2.2.2
  refine tkV (i := 0) (d := some 53) (v := ?_) rfl (by kernel_rfl) (by kernel_rfl) (by kernel_rfl) rfl (fun _ _ _ h => h) (by rfl) ?_ (by assumption) ?_
  rotate_left
  · (intro w hSw; (try dsimp only at hSw); (try simp only [List.getElem_toArray, List.getElem_cons_zero]); go_simp; try with_reducible rfl)
  simp only [Act.put, List.setIfInBounds_toArray, List.set_cons_zero, List.set_cons_succ]
  refine tkV (i := 2) (d := some 55) (v := ?_) rfl (by kernel_rfl) (by kernel_rfl) (by kernel_rfl) rfl (fun _ _ _ h => h) (by rfl) ?_ (by assumption) ?_
  rotate_left
  · (intro w hSw; (try dsimp only at hSw); (try simp only [List.getElem_toArray, List.getElem_cons_zero, List.getElem_cons_succ]); go_simp; try with_reducible rfl)
  simp only [Act.put, List.setIfInBounds_toArray, List.set_cons_zero, List.set_cons_succ]
  refine wpAnyH_ready (rs := [1]) (by kernel_rfl) (by simp) (AllReadyH.cons rfl (fun K hK => ?_) AllReadyH.nil)
  try simp only [List.getElem_toArray, List.getElem_cons_zero, List.getElem_cons_succ]
  go_simp
  go_split_ands
  refine (HIc.out _ HTaq.out.o).mono ?_
  rintro e w6q ⟨rfl, hb6⟩
  have HTbq := hid0 (HTaq.out.later hb6)
  clear hb6
  go_wp2_with fail
  refine hK.out _ _ ?_ (fun hHeld2 => ?_)
  · exact HSoq.out _ HTbq.out
  clear hK K
  (try simp only [Act.put]); (try simp only [List.setIfInBounds_toArray]); (try simp only [List.set_cons_succ]); (try simp only [List.set_cons_zero])
  refine wpAnyH_ready (rs := [3]) (by kernel_rfl) (by simp) (AllReadyH.cons rfl (fun K hK => ?_) AllReadyH.nil)
  try simp only [List.getElem_toArray, List.getElem_cons_zero, List.getElem_cons_succ]
  go_simp
  go_split_ands
  refine (need_t _ _).mono ?_
  rintro e w7 ⟨rfl, hw7⟩
  have hw7' := hw7.symm
  subst hw7'
  clear hw7
  go_wp2_with fail
  refine hK.out _ _ ?_ (fun hHeld3 => ?_)
  · exact HSoq.out _ HTbq.out
  clear hK K
  (try simp only [Act.put]); (try simp only [List.setIfInBounds_toArray]); (try simp only [List.set_cons_succ]); (try simp only [List.set_cons_zero])
  refine wpAnyH_done (by kernel_rfl) ?_ _
  try clear hHeld3
  clear HSoq HTaq
  obtain ⟨q0, q1, q2, q3, q4, q5, q6⟩ := HTbq.out.cells
  clear q0 q1 q2 q3 q5 q6
  go_wp2
  go_loopw [7, 60] (fun _ i V => ∃ (m n' s' : Nat), m ≤ n3 ∧ i = .int .i64 (m : Int) ∧ Hid (chkL may (L.take m) (d + 1) (n + 1) (s + (n1 + n2)) = .ok n' s') ∧ Hid (T4 W B A (n' : Int) (s' : Int) (.int .i64 k) (.bool nt) (.slice a n1 ca) (.slice b n2 cb) (.slice c n3 cc) V)) (fun _ i _ => n3 - (intOf i).toNat)
  case atStart => exact ⟨0, n + 1, s + (n1 + n2), Nat.zero_le _, rfl, hid0 (by simp [chkL]), hid0 (by have h := HTbq.out; exact ⟨h.o, by have hb := h.b; simpa using hb, h.x, h.e⟩)⟩
  case round =>
    clear HTbq HTbp HTq q4
    obtain ⟨m, n', s', hm, rfl, HC, HV⟩ := hrel
    have hbd := chkL_ok may (L.take m) (d + 1) (n + 1) (s + (n1 + n2)) n' s' h1 h3 HC.out
    by_cases hlt : m < n3
    · have hmI : (m : Int) < (n3 : Int) := by omega
      have hm0 : (0 : Int) ≤ (m : Int) := by omega
      have hmL : m < L.length := by have := HL3.out; omega
      have hkV : Keeps Q w wr := HKw.out.trans (Keeps.only HV.out.o hQ)
      have hla := HLA.out.keeps hkV
      obtain ⟨g1, o1, rfl, hgq, e0, e1, e2, e3, e4⟩ := hla.at' m hmL
      obtain ⟨f0, ⟨t5, f1⟩, ⟨a5, m5, c5, f2⟩, ⟨b5, n5, d5, f3⟩, ⟨g5, l5, z5, f4⟩⟩ := (hla.is m hmL).form
      rw [f0] at e0
      rw [f1] at e1
      rw [f2] at e2
      rw [f3] at e3
      rw [f4] at e4
      obtain ⟨wA, hwA⟩ : ∃ wA, wA = wr.alloc (.cells #[.int .i64 L[m].kind, .bool t5, .slice a5 m5 c5, .slice b5 n5 d5, .slice g5 l5 z5] 30) := ⟨_, rfl⟩
      have hBA : Below wr.heap.size wr wA := by rw [hwA]; exact (Below.refl _ _).alloc (Nat.le_refl _) _
      have hYA : wA.heap[wr.heap.size]? = some (.cells #[.int .i64 L[m].kind, .bool t5, .slice a5 m5 c5, .slice b5 n5 d5, .slice g5 l5 z5] 30 (0, 0)) := by rw [hwA]; exact heap_alloc_new wr _
      have y0 : wA.cell? ⟨wr.heap.size, 0, none⟩ = some (.int .i64 L[m].kind) := by rw [cell_of_row _ _ _ _ _ _ hYA]; rfl
      have y1 : wA.cell? ⟨wr.heap.size, 1, none⟩ = some (.bool t5) := by rw [cell_of_row _ _ _ _ _ _ hYA]; rfl
      have y2 : wA.cell? ⟨wr.heap.size, 2, none⟩ = some (.slice a5 m5 c5) := by rw [cell_of_row _ _ _ _ _ _ hYA]; rfl
      have y3 : wA.cell? ⟨wr.heap.size, 3, none⟩ = some (.slice b5 n5 d5) := by rw [cell_of_row _ _ _ _ _ _ hYA]; rfl
      have y4 : wA.cell? ⟨wr.heap.size, 4, none⟩ = some (.slice g5 l5 z5) := by rw [cell_of_row _ _ _ _ _ _ hYA]; rfl
      have HTA := hid0 (HV.out.later hBA)
      have hcall := HIH.out m hmL wA B A (d + 1) n' s' (hkV.trans (Keeps.past hBA)) hQ hF HTA.out.e HTA.out.b (by omega) (by omega) (by omega)
      unfold EV.v at hcall
      rw [f0, f1, f2, f3, f4] at hcall
      have hdI : ((d + 1 : Nat) : Int) = (d : Int) + 1 := by omega
      rw [hdI] at hcall
      have hwd : IntKind.i64.wrap ((d : Int) + 1) = (d : Int) + 1 := by simp [IntKind.wrap, IntKind.bits, IntKind.signed]; omega
      have HCa := hid0 hcall
      have htk : L.take (m + 1) = L.take m ++ [L[m]] := by rw [List.take_add_one, List.getElem?_eq_getElem hmL]; rfl
      have hsn := chkL_snoc may (L.take m) L[m] (d + 1) (n + 1) (s + (n1 + n2))
      rw [← htk, HC.out] at hsn
      simp only at hsn
      have hbl : B < W.heap.size := hBl
      have hfA := hwA.symm
      generalize L[m].kind = lk at *
      cases hce : chkE may L[m] (d + 1) n' s' with
      | ok n9 s9 =>
        rw [hce] at HCa hsn
        unfold GoR at HCa
        have HSn := hid0 hsn
        clear hwA hYA hBA hla hcall hsn hce htk hdI f0 f1 f2 f3 f4 hgq hkV hbd
        go_wp2_with (go_at_call 18; refine HCa.out.mono ?_; rintro e w8 ⟨⟨rfl, hb8⟩, ho8⟩; have HT8 : Hid (T4 W B A (n9 : Int) (s9 : Int) (.int .i64 k) (.bool nt) (.slice a n1 ca) (.slice b n2 cb) (.slice (some ⟨g1, o1, none⟩) n3 cc) w8) := hid0 ⟨HTA.out.o.step ho8, hb8, (ho8.block _ (lt_of_rowC HTA.out.x) (by omega)).trans HTA.out.x, HTA.out.e.only ho8 hF⟩; clear hb8 ho8)
        go_roundw
        case rel => exact ⟨m + 1, n9, s9, by omega, by go_num, HSn, HT8⟩
        case measure => simp [intOf]; omega
      | bad f =>
        rw [hce] at HCa hsn
        unfold GoR at HCa
        have HSn : Hid (chkL may L (d + 1) (n + 1) (s + (n1 + n2)) = .bad f) := hid0 (by
          have h := chkL_stop may (L.take (m + 1)) (L.drop (m + 1)) (d + 1) (n + 1) (s + (n1 + n2)) f hsn
          rwa [List.take_append_drop] at h)
        clear hwA hYA hBA hla hcall hsn hce htk hdI f0 f1 f2 f3 f4 hgq hkV hbd
        go_wp2_with (go_at_call 18; refine HCa.out.mono ?_; rintro e w8 ⟨rfl, ho8⟩; have HO8 := hid0 (HTA.out.o.step ho8); clear ho8)
        refine ⟨rfl, ?_, HO8.out⟩
        rw [HSn.out]
        rfl
    · have hmI : ¬ (m : Int) < (n3 : Int) := by omega
      have HSn : Hid (chkL may L (d + 1) (n + 1) (s + (n1 + n2)) = .ok n' s') := hid0 (by have h := HC.out; rw [List.take_of_length_le (by have := HL3.out; omega)] at h; exact h)
      go_wp2
      go_end0
      refine ⟨?_, HV.out.o⟩
      rw [HSn.out]
      exact ⟨rfl, HV.out.b⟩
end Go.Proofs.YthfnaalbgjeaeaaDoor
namespace Go.Proofs.YthfnaalbgjeaeaaDoor
open Go.RowKit Go.Shelf
theorem go_any (may : List ByteArray → List (Int × Int) → Bool) {w : World} {Q : Nat → Prop} {e : Ex} {x : EV} (h : ExIs w Q e x) : AllM may e → GoP may w Q e x := by
  induction h with
  | mk k nt N P L a ca b cb c cc vs hN hP lN lP lL hL hR ih =>
    intro hA W B A d n s hK hQ hF hE hB hn hs hd
    cases hA with
    | mk _ _ _ _ _ hM hAL =>
      have hwc : ∀ V, Only W V (fun k => k = B) → Calls Tryd.prog 23 #[.agg #[.int .i64 k, .bool nt, .slice a N.length ca, .slice b P.length cb, .slice c L.length cc]] V fun e w' => e = .returned (.bool (wholeF may k nt N P L.length)) ∧ Below V.heap.size V w' := fun V hV =>
        isWhole_any may k nt N P L.length a b c ca cb cc V lP hM (hN.keeps (hK.trans (Keeps.only hV hQ))).sa (hP.keeps (hK.trans (Keeps.only hV hQ))).ra
      have hic : ∀ V, Only W V (fun k => k = B) → Calls Tryd.prog 24 #[.agg #[.int .i64 k, .bool nt, .slice a N.length ca, .slice b P.length cb, .slice c L.length cc]] V fun e w' => e = .returned (.bool (formF k L)) ∧ Below V.heap.size V w' := fun V hV =>
        isInForm_any k nt a b c N.length ca P.length cb cc L vs Q V lL (LA.keeps ⟨hL, hR⟩ (hK.trans (Keeps.only hV hQ)))
      unfold EV.v
      simp only [chkE]
      by_cases h1 : n + 1 ≤ 4000
      · by_cases h2 : d ≤ 128
        · by_cases h3 : s + (N.length + P.length) ≤ 65536
          · rw [if_pos ⟨h1, h2, h3⟩]
            cases hw : wholeF may k nt N P L.length with
            | false =>
              rw [hw] at hwc
              exact go_bad1 k nt a b c N.length ca P.length cb L.length cc d n s B A W lN lP hE hF hn hs hB h1 h2 h3 hwc
            | true =>
              rw [hw] at hwc
              cases hf : formF k L with
              | false =>
                rw [hf] at hic
                exact go_bad2 k nt a b c N.length ca P.length cb L.length cc d n s B A W lN lP hE hF hn hs hB h1 h2 h3 hwc hic
              | true =>
                rw [hf] at hic
                exact go_parts k nt a b c N.length ca P.length cb L.length cc d n s B A W lN lP hE hF hn hs hB h1 h2 h3 hwc hic may w Q L vs rfl lL hK hQ ⟨hL, hR⟩ (fun i hi => ih i hi (hAL _ (List.getElem_mem hi)))
          · rw [if_neg (fun h => h3 h.2.2)]
            exact go_many3 k nt a b c N.length ca P.length cb L.length cc d n s B A W lN lP hE hF hn hs hd hB h1 h2 h3
        · rw [if_neg (fun h => h2 h.2.1)]
          exact go_many2 k nt a b c N.length ca P.length cb L.length cc d n s B A W lN lP hE hF hn hs hd hB h1 h2
      · rw [if_neg (fun h => h1 h.1)]
        exact go_many1 k nt a b c N.length ca P.length cb L.length cc d n s B A W lN lP hE hF hn hs hd hB h1
set_option maxRecDepth 10000 in
theorem faultOf_any (x : Value) (ty : TypeId) (y : Value) (hx : x = .iface ty y) (w : World) : Calls Tryd.prog 17 #[faultV x] w fun e w' => e = .returned (.agg #[x]) ∧ Below w.heap.size w w' := by
  subst hx
  have hta : ∀ w, (Instr.typeAssert (.iface 48 (.agg #[.iface ty y])) 20 48 true).run Tryd.prog w = .ok (.tuple #[.agg #[.iface ty y], .bool true]) w := fun _ => by kernel_rfl
  unfold faultV
  go_enter Tryd.func17, Tryd.ntmps17
  go_wp2
  have h0 : ((w.alloc (.cells #[.iface ty y] 48)).alloc (.cells #[.iface ty y] 48)).cell? ⟨w.heap.size, 0, none⟩ = some (.iface ty y) := by
    rw [World.cell?_of_block (Below.heap_alloc _ _ w.heap.size (by simp))]
    rw [cell_of_row _ _ _ _ _ _ (heap_alloc_new w _)]; rfl
  refine bodyPost_ret (v := .agg #[.iface ty y]) (by simp [results, Tryd.results17, go_sem, h0]) rfl ⟨rfl, ?_⟩
  exact ((Below.refl _ _).alloc (Nat.le_refl _) _).alloc (by simp) _
set_option maxRecDepth 10000 in
theorem catch_idle (p : Addr) (w : World) :
    CallsD Tryd.prog 16 #[.pointer (some p)] .returning w fun e u' w' => e = .returned (.tuple #[]) ∧ u' = .returning ∧ w' = w := by
  refine callsD_of_wpS Tryd.func16 rfl fun c₀ cs hu => ?_
  apply wpS_seq
  apply wpS_region
  simp [wpOpsS, go_sem, recoverD, hu, Tryd.ntmps16, Exit.thenS]
  refine wpS_of_wp ?_
  go_wp2
  cases c₀
  simp_all [bodyPostS, results, Tryd.results16]
set_option maxRecDepth 10000 in
set_option maxHeartbeats 1600000 in
theorem catch_gave (C : Nat) (ve : Value) (ty : TypeId) (y : Value) (w : World) (hn : w.heap[C]? = some (.cells #[ve] 39 (0, 0))) :
    CallsD Tryd.prog 16 #[.pointer (some ⟨C, 0, none⟩)] (.panicking [{ v := faultV (.iface ty y), recovered := false }]) w fun e u' w' => e = .returned (.tuple #[]) ∧ u' = .panicking [{ v := faultV (.iface ty y), recovered := true }] ∧ w'.heap[C]? = some (.cells #[.iface ty y] 39 (0, 0)) ∧ Only w w' (fun k => k = C) := by
  have HFa := hid0 (fun W => faultOf_any (.iface ty y) ty y rfl W)
  have hfd : ∀ W, (Instr.field 48 (.agg #[.iface ty y]) 0).run Tryd.prog W = .ok (.iface ty y) W := fun _ => by kernel_rfl
  have HN := hid0 hn
  unfold faultV at *
  clear hn
  refine callsD_of_wpS Tryd.func16 rfl fun c₀ cs hu => ?_
  apply wpS_seq
  apply wpS_region
  simp [wpOpsS, go_sem, recoverD, hu, Tryd.ntmps16, Exit.thenS]
  refine wpS_of_wp ?_
  go_wp2_with (go_at_call 17; refine (HFa.out _).mono ?_; rintro e w5 ⟨rfl, hb5⟩; have hr5 := (hb5.block C (lt_of_rowC HN.out)).trans HN.out; have c5 : w5.cell? ⟨C, 0, none⟩ = some ve := (by rw [cell_of_row _ _ _ _ _ _ hr5]; rfl); have f5 : w5.frozen? ⟨C, 0, none⟩ = false := frozen_of_row _ _ _ _ _ hr5; have HR5 := hid0 hr5; have HB5 := hid0 hb5; clear hr5 hb5)
  have h6 := heap_setCell_same w5 C 0 _ _ (.iface ty y) HR5.out
  have ho : Only w (w5.setCell ⟨C, 0, none⟩ (.iface ty y)) (fun k => k = C) := (Only.past HB5.out).trans (Only.setCell w5 C 0 _) (fun i h => .inl h)
  clear c5 f5 HR5 HB5 HFa hfd HN
  generalize w5.setCell ⟨C, 0, none⟩ (.iface ty y) = w6 at *
  cases c₀
  simp_all [bodyPostS, results, Tryd.results16]
/-- Check's answer. -/
def errC (A : Nat → Addr) : CR → Value
  | .ok _ _ => .nilIface
  | .bad f => .iface 115 (.pointer (some (A f)))
set_option maxRecDepth 10000 in
set_option maxHeartbeats 1600000 in
theorem check_any (may : List ByteArray → List (Int × Int) → Bool) (e : Ex) (x : EV) (Q : Nat → Prop) (A : Nat → Addr) (w : World) (hx : ExIs w Q e x) (hA : AllM may e) (hE : E3 w A) :
    Calls Tryd.prog 10 #[x.v] w fun r w' => r = .returned (errC A (chkE may e 1 0 0)) ∧ Below w.heap.size w w' := by
  have hx0 := hx.mono (Q' := fun g => g < w.heap.size) (fun g hg _ => hg)
  obtain ⟨k5, t5, a5, m5, c5, b5, n5, d5, g5, l5, z5, rfl⟩ : ∃ k5 t5 a5 m5 c5 b5 n5 d5 g5 l5 z5, x = ⟨.int .i64 k5, .bool t5, .slice a5 m5 c5, .slice b5 n5 d5, .slice g5 l5 z5⟩ := by
    cases hx with
    | mk k nt N P L a ca b cb c cc vs => exact ⟨k, nt, a, _, ca, b, _, cb, c, _, cc, rfl⟩
  have hmf : ∀ (fn : Fn) (first cap : Array Value) (w : World), (Instr.makeFunc fn first cap).run Tryd.prog w = .ok (.func fn first cap) w := fun _ _ _ _ => rfl
  obtain ⟨W, hW⟩ : ∃ W, W = ((w.alloc (.cells #[.int .i64 k5, .bool t5, .slice a5 m5 c5, .slice b5 n5 d5, .slice g5 l5 z5] 30)).alloc (.cells #[.nilIface] 39)).alloc (.cells #[.int .i64 0, .int .i64 0] 51) := ⟨_, rfl⟩
  have hbW : Below w.heap.size w W := by rw [hW]; exact (((Below.refl _ _).alloc (Nat.le_refl _) _).alloc (by simp) _).alloc (by simp; omega) _
  have hsW : W.heap.size = w.heap.size + 3 := by rw [hW]; simp
  have r0 : W.heap[w.heap.size]? = some (.cells #[.int .i64 k5, .bool t5, .slice a5 m5 c5, .slice b5 n5 d5, .slice g5 l5 z5] 30 (0, 0)) := by
    rw [hW, Below.heap_alloc _ _ _ (by simp; omega), Below.heap_alloc _ _ _ (by simp)]; exact heap_alloc_new w _
  have r1 : W.heap[w.heap.size + 1]? = some (.cells #[.nilIface] 39 (0, 0)) := by
    rw [hW, Below.heap_alloc _ _ _ (by simp)]
    have h := heap_alloc_new (w.alloc (.cells #[.int .i64 k5, .bool t5, .slice a5 m5 c5, .slice b5 n5 d5, .slice g5 l5 z5] 30)) (.cells #[.nilIface] 39)
    simp only [World.size_alloc] at h
    exact h
  have r2 : W.heap[w.heap.size + 2]? = some (.cells #[.int .i64 0, .int .i64 0] 51 (0, 0)) := by
    rw [hW]
    have h := heap_alloc_new ((w.alloc (.cells #[.int .i64 k5, .bool t5, .slice a5 m5 c5, .slice b5 n5 d5, .slice g5 l5 z5] 30)).alloc (.cells #[.nilIface] 39)) (.cells #[.int .i64 0, .int .i64 0] 51)
    simp only [World.size_alloc] at h
    exact h
  have x0 : W.cell? ⟨w.heap.size, 0, none⟩ = some (.int .i64 k5) := by rw [cell_of_row _ _ _ _ _ _ r0]; rfl
  have x1 : W.cell? ⟨w.heap.size, 1, none⟩ = some (.bool t5) := by rw [cell_of_row _ _ _ _ _ _ r0]; rfl
  have x2 : W.cell? ⟨w.heap.size, 2, none⟩ = some (.slice a5 m5 c5) := by rw [cell_of_row _ _ _ _ _ _ r0]; rfl
  have x3 : W.cell? ⟨w.heap.size, 3, none⟩ = some (.slice b5 n5 d5) := by rw [cell_of_row _ _ _ _ _ _ r0]; rfl
  have x4 : W.cell? ⟨w.heap.size, 4, none⟩ = some (.slice g5 l5 z5) := by rw [cell_of_row _ _ _ _ _ _ r0]; rfl
  have g0 := World.block_lt_of_cell? w _ hE.c0
  have g1 := World.block_lt_of_cell? w _ hE.c1
  have g2 := World.block_lt_of_cell? w _ hE.c2
  simp only at g0 g1 g2
  have hcall := go_any may hx0 hA W (w.heap.size + 2) A 1 0 0 (Keeps.ofBelow hbW) (by omega) ⟨by omega, by omega, by omega⟩ (hE.below hbW) r2 (by omega) (by omega) (by omega)
  unfold EV.v at hcall
  simp only at hcall
  have HG := hid0 hcall
  have HR1 := hid0 r1
  have HBW := hid0 hbW
  have HSW := hid0 hsW
  have hfold := hW.symm
  unfold EV.v
  clear hx hA hE hW hbW hsW r0 r1 r2 hcall hx0 g0 g1 g2
  generalize chkE may e 1 0 0 = res at *
  cases res with
  | bad f =>
    unfold GoR at HG
    go_enter_defers Tryd.func10, Tryd.ntmps10
    go_wp2_with (go_at_call 18; refine HG.out.mono ?_; rintro r w1 ⟨rfl, ho1⟩; have HN1 := hid0 ((ho1.block (w.heap.size + 1) (by have := HSW.out; omega) (by omega)).trans HR1.out); have HO1 := hid0 ho1; clear ho1)
    refine leaves_cons (f := 16) (args := #[.pointer (some ⟨w.heap.size + 1, 0, none⟩)]) (by simp) (by simp [go_sem]) ?_
    refine (catch_gave (w.heap.size + 1) _ _ _ w1 HN1.out).mono ?_
    rintro r u' w2 ⟨rfl, rfl, hN2, ho2⟩
    have k0 : w2.cell? ⟨w.heap.size + 1, 0, none⟩ = some (.iface 115 (.pointer (some (A f)))) := by rw [cell_of_row _ _ _ _ _ _ hN2]; rfl
    have hb : Below w.heap.size w w2 := (HBW.out.trans (HO1.out.below (by have := HSW.out; omega) (fun i h => by omega))).trans (ho2.below (by have := HO1.out.size; have := HSW.out; omega) (fun i h => by omega))
    simp [Leaves, settle, results, Tryd.results10, go_sem, k0, hb, errC]
  | ok n s =>
    unfold GoR at HG
    go_enter_defers Tryd.func10, Tryd.ntmps10
    go_wp2_with (go_at_call 18; refine HG.out.mono ?_; rintro r w1 ⟨⟨rfl, hb1⟩, ho1⟩; have hN1 := (ho1.block (w.heap.size + 1) (by have := HSW.out; omega) (by omega)).trans HR1.out; have c1 : w1.cell? ⟨w.heap.size + 1, 0, none⟩ = some .nilIface := (by rw [cell_of_row _ _ _ _ _ _ hN1]; rfl); have f1 : w1.frozen? ⟨w.heap.size + 1, 0, none⟩ = false := frozen_of_row _ _ _ _ _ hN1; have HN1 := hid0 hN1; have HO1 := hid0 ho1; clear ho1 hb1 hN1)
    refine leaves_cons (f := 16) (args := #[.pointer (some ⟨w.heap.size + 1, 0, none⟩)]) (by simp) (by simp [go_sem]) ?_
    refine (catch_idle _ _).mono ?_
    rintro r u' w2 ⟨rfl, rfl, rfl⟩
    have k0 : (w1.setCell ⟨w.heap.size + 1, 0, none⟩ .nilIface).cell? ⟨w.heap.size + 1, 0, none⟩ = some .nilIface := by rw [cell_of_row _ _ _ _ _ _ (heap_setCell_same w1 _ 0 _ _ .nilIface HN1.out)]; rfl
    have hb : Below w.heap.size w (w1.setCell ⟨w.heap.size + 1, 0, none⟩ .nilIface) := (HBW.out.trans (HO1.out.below (by have := HSW.out; omega) (fun i h => by omega))).setCell (p := ⟨w.heap.size + 1, 0, none⟩) (by simp) _
    clear c1 f1 HN1 HO1
    change Leaves _ _ _ _ _ _ (w1.setCell ⟨w.heap.size + 1, 0, none⟩ .nilIface)
    generalize w1.setCell ⟨w.heap.size + 1, 0, none⟩ .nilIface = w3 at *
    simp [Leaves, settle, results, Tryd.results10, go_sem, k0, hb, errC]
end Go.Proofs.YthfnaalbgjeaeaaDoor
namespace Go.Proofs.YthfnaalbgjeaeaaDoor
/-- A unit: its class, its point. -/
abbrev Kd := ByteArray × Int
/-- What an expression matches. -/
inductive Mt : Ex → List Kd → Prop
  | none (nt : Bool) (N : List ByteArray) (P : List (Int × Int)) (L : List Ex) : Mt (.mk 1 nt N P L) []
  | set (nt : Bool) (N : List ByteArray) (P : List (Int × Int)) (L : List Ex) (u : Kd) : holdsF nt N P u.1 u.2 = true → Mt (.mk 2 nt N P L) [u]
  | seq0 (nt : Bool) (N : List ByteArray) (P : List (Int × Int)) : Mt (.mk 3 nt N P []) []
  | seq1 (nt : Bool) (N : List ByteArray) (P : List (Int × Int)) (e : Ex) (L : List Ex) (u v : List Kd) : Mt e u → Mt (.mk 3 nt N P L) v → Mt (.mk 3 nt N P (e :: L)) (u ++ v)
  | alt (nt : Bool) (N : List ByteArray) (P : List (Int × Int)) (e : Ex) (L : List Ex) (u : List Kd) : e ∈ L → Mt e u → Mt (.mk 4 nt N P L) u
  | star0 (nt : Bool) (N : List ByteArray) (P : List (Int × Int)) (L : List Ex) : Mt (.mk 5 nt N P L) []
  | star1 (nt : Bool) (N : List ByteArray) (P : List (Int × Int)) (e : Ex) (u v : List Kd) : Mt e u → Mt (.mk 5 nt N P [e]) v → Mt (.mk 5 nt N P [e]) (u ++ v)
  | plus (nt : Bool) (N : List ByteArray) (P : List (Int × Int)) (e : Ex) (u v : List Kd) : Mt e u → Mt (.mk 5 nt N P [e]) v → Mt (.mk 6 nt N P [e]) (u ++ v)
  | opt0 (nt : Bool) (N : List ByteArray) (P : List (Int × Int)) (L : List Ex) : Mt (.mk 7 nt N P L) []
  | opt1 (nt : Bool) (N : List ByteArray) (P : List (Int × Int)) (e : Ex) (u : List Kd) : Mt e u → Mt (.mk 7 nt N P [e]) u
/-- A node: the end; a set that waits, and where it goes on; several ways; a way that is known later; one that is not known yet. -/
inductive Nd where
  | fin : Nd
  | set (nt : Bool) (N : List ByteArray) (P : List (Int × Int)) (nx : Nat) : Nd
  | fork (ys : List Nat) : Nd
  | tramp (y : Nat) : Nd
  | hole : Nd
/-- From a node a word leads to the end, in so many steps at most. -/
inductive AccN (G : List Nd) : Nat → Nat → List Kd → Prop
  | fin (n x : Nat) : G[x]? = some .fin → AccN G n x []
  | set (n x : Nat) (nt : Bool) (N : List ByteArray) (P : List (Int × Int)) (nx : Nat) (u : Kd) (w : List Kd) : G[x]? = some (.set nt N P nx) → holdsF nt N P u.1 u.2 = true → AccN G n nx w → AccN G (n + 1) x (u :: w)
  | fork (n x : Nat) (ys : List Nat) (y : Nat) (w : List Kd) : G[x]? = some (.fork ys) → y ∈ ys → AccN G n y w → AccN G (n + 1) x w
  | tramp (n x y : Nat) (w : List Kd) : G[x]? = some (.tramp y) → AccN G n y w → AccN G (n + 1) x w
def Acc (G : List Nd) (x : Nat) (w : List Kd) : Prop := ∃ n, AccN G n x w
theorem AccN.up {G : List Nd} {n x : Nat} {w : List Kd} (h : AccN G n x w) : ∀ m, n ≤ m → AccN G m x w := by
  induction h with
  | fin n x hx => exact fun m _ => .fin m x hx
  | set n x nt N P nx u w hx hh _ ih =>
    intro m hm
    obtain ⟨k, rfl⟩ : ∃ k, m = k + 1 := ⟨m - 1, by omega⟩
    exact .set k x nt N P nx u w hx hh (ih k (by omega))
  | fork n x ys y w hx hy _ ih =>
    intro m hm
    obtain ⟨k, rfl⟩ : ∃ k, m = k + 1 := ⟨m - 1, by omega⟩
    exact .fork k x ys y w hx hy (ih k (by omega))
  | tramp n x y w hx _ ih =>
    intro m hm
    obtain ⟨k, rfl⟩ : ∃ k, m = k + 1 := ⟨m - 1, by omega⟩
    exact .tramp k x y w hx (ih k (by omega))
theorem Acc.set {G : List Nd} {x : Nat} {nt : Bool} {N : List ByteArray} {P : List (Int × Int)} {nx : Nat} (hx : G[x]? = some (.set nt N P nx)) (w : List Kd) : Acc G x w ↔ ∃ u v, w = u :: v ∧ holdsF nt N P u.1 u.2 = true ∧ Acc G nx v := by
  constructor
  · rintro ⟨n, h⟩
    cases h with
    | fin _ _ h => rw [hx] at h; cases h
    | set n _ nt' N' P' nx' u w h hh ha => rw [hx] at h; cases h; exact ⟨u, w, rfl, hh, n, ha⟩
    | fork _ _ _ _ _ h => rw [hx] at h; cases h
    | tramp _ _ _ _ h => rw [hx] at h; cases h
  · rintro ⟨u, v, rfl, hh, n, h⟩
    exact ⟨n + 1, .set n x nt N P nx u v hx hh h⟩
theorem Acc.fork {G : List Nd} {x : Nat} {ys : List Nat} (hx : G[x]? = some (.fork ys)) (w : List Kd) : Acc G x w ↔ ∃ y, y ∈ ys ∧ Acc G y w := by
  constructor
  · rintro ⟨n, h⟩
    cases h with
    | fin _ _ h => rw [hx] at h; cases h
    | set _ _ _ _ _ _ _ _ h => rw [hx] at h; cases h
    | fork n _ ys' y w h hy ha => rw [hx] at h; cases h; exact ⟨y, hy, n, ha⟩
    | tramp _ _ _ _ h => rw [hx] at h; cases h
  · rintro ⟨y, hy, n, h⟩
    exact ⟨n + 1, .fork n x ys y w hx hy h⟩
theorem Acc.tramp {G : List Nd} {x y : Nat} (hx : G[x]? = some (.tramp y)) (w : List Kd) : Acc G x w ↔ Acc G y w := by
  constructor
  · rintro ⟨n, h⟩
    cases h with
    | fin _ _ h => rw [hx] at h; cases h
    | set _ _ _ _ _ _ _ _ h => rw [hx] at h; cases h
    | fork _ _ _ _ _ h => rw [hx] at h; cases h
    | tramp n _ y' w h ha => rw [hx] at h; cases h; exact ⟨n, ha⟩
  · rintro ⟨n, h⟩
    exact ⟨n + 1, .tramp n x y w hx h⟩
theorem Acc.fin {G : List Nd} {x : Nat} (hx : G[x]? = some .fin) (w : List Kd) : Acc G x w ↔ w = [] := by
  constructor
  · rintro ⟨n, h⟩
    cases h with
    | fin _ _ h => rfl
    | set _ _ _ _ _ _ _ _ h => rw [hx] at h; cases h
    | fork _ _ _ _ _ h => rw [hx] at h; cases h
    | tramp _ _ _ _ h => rw [hx] at h; cases h
  · rintro rfl
    exact ⟨0, .fin 0 x hx⟩
/-- A way through an expression and on. -/
inductive Built (G : List Nd) : Ex → Nat → Nat → Prop
  | none (nt : Bool) (N : List ByteArray) (P : List (Int × Int)) (L : List Ex) (nx : Nat) : Built G (.mk 1 nt N P L) nx nx
  | set (nt : Bool) (N : List ByteArray) (P : List (Int × Int)) (L : List Ex) (nx x : Nat) : G[x]? = some (.set nt N P nx) → Built G (.mk 2 nt N P L) nx x
  | seq0 (nt : Bool) (N : List ByteArray) (P : List (Int × Int)) (nx : Nat) : Built G (.mk 3 nt N P []) nx nx
  | seq1 (nt : Bool) (N : List ByteArray) (P : List (Int × Int)) (e : Ex) (L : List Ex) (nx x y : Nat) : Built G (.mk 3 nt N P L) nx y → Built G e y x → Built G (.mk 3 nt N P (e :: L)) nx x
  | alt (nt : Bool) (N : List ByteArray) (P : List (Int × Int)) (L : List Ex) (nx x : Nat) (ys : List Nat) : G[x]? = some (.fork ys) → (hl : ys.length = L.length) → (∀ i (h : i < L.length), Built G L[i] nx (ys[i]'(by omega))) → Built G (.mk 4 nt N P L) nx x
  | star (nt : Bool) (N : List ByteArray) (P : List (Int × Int)) (e : Ex) (nx t f b : Nat) : G[t]? = some (.tramp f) → G[f]? = some (.fork [nx, b]) → Built G e t b → Built G (.mk 5 nt N P [e]) nx f
  | plus (nt : Bool) (N : List ByteArray) (P : List (Int × Int)) (e : Ex) (nx t f b : Nat) : G[t]? = some (.tramp f) → G[f]? = some (.fork [nx, b]) → Built G e t b → Built G (.mk 6 nt N P [e]) nx b
  | opt (nt : Bool) (N : List ByteArray) (P : List (Int × Int)) (e : Ex) (nx x y : Nat) : G[x]? = some (.fork [nx, y]) → Built G e nx y → Built G (.mk 7 nt N P [e]) nx x
theorem loop_to {G : List Nd} {nt : Bool} {N : List ByteArray} {P : List (Int × Int)} {e : Ex} {nx t f b : Nat} (ht : G[t]? = some (.tramp f)) (hf : G[f]? = some (.fork [nx, b]))
    (ih : ∀ n w, AccN G n b w → ∃ u v m, m ≤ n ∧ w = u ++ v ∧ Mt e u ∧ AccN G m t v) : ∀ n w, AccN G n f w → ∃ u v m, m ≤ n ∧ w = u ++ v ∧ Mt (.mk 5 nt N P [e]) u ∧ AccN G m nx v := by
  intro n
  induction n using Nat.strongRecOn with
  | ind n rec =>
    intro w h
    cases h with
    | fin _ _ h => rw [hf] at h; cases h
    | set _ _ _ _ _ _ _ _ h => rw [hf] at h; cases h
    | tramp _ _ _ _ h => rw [hf] at h; cases h
    | fork n _ ys y w h hy ha =>
      rw [hf] at h
      cases h
      simp only [List.mem_cons, List.not_mem_nil, or_false] at hy
      rcases hy with rfl | rfl
      · exact ⟨[], w, n, by omega, rfl, .star0 nt N P [e], ha⟩
      · obtain ⟨u, v, m, hm, rfl, hu, hv⟩ := ih n w ha
        cases hv with
        | fin _ _ hq => rw [ht] at hq; cases hq
        | set _ _ _ _ _ _ _ _ hq => rw [ht] at hq; cases hq
        | fork _ _ _ _ _ hq => rw [ht] at hq; cases hq
        | tramp m _ y' v hq hv =>
          rw [ht] at hq
          cases hq
          obtain ⟨u2, v2, m2, hm2, rfl, hu2, hv2⟩ := rec m (by omega) v hv
          exact ⟨u ++ u2, v2, m2, by omega, by simp, .star1 nt N P e u u2 hu hu2, hv2⟩
theorem Built.to {G : List Nd} {e : Ex} {nx x : Nat} (h : Built G e nx x) : ∀ n w, AccN G n x w → ∃ u v m, m ≤ n ∧ w = u ++ v ∧ Mt e u ∧ AccN G m nx v := by
  induction h with
  | none nt N P L nx => exact fun n w h => ⟨[], w, n, Nat.le_refl _, rfl, .none nt N P L, h⟩
  | set nt N P L nx x hx =>
    intro n w h
    cases h with
    | fin _ _ h => rw [hx] at h; cases h
    | fork _ _ _ _ _ h => rw [hx] at h; cases h
    | tramp _ _ _ _ h => rw [hx] at h; cases h
    | set n _ nt' N' P' nx' u w h hh ha => rw [hx] at h; cases h; exact ⟨[u], w, n, by omega, rfl, .set nt N P L u hh, ha⟩
  | seq0 nt N P nx => exact fun n w h => ⟨[], w, n, Nat.le_refl _, rfl, .seq0 nt N P, h⟩
  | seq1 nt N P e L nx x y _ _ ih1 ih2 =>
    intro n w h
    obtain ⟨u, v, m, hm, rfl, hu, hv⟩ := ih2 n w h
    obtain ⟨u2, v2, m2, hm2, rfl, hu2, hv2⟩ := ih1 m v hv
    exact ⟨u ++ u2, v2, m2, by omega, by simp, .seq1 nt N P e L u u2 hu hu2, hv2⟩
  | alt nt N P L nx x ys hx hl _ ih =>
    intro n w h
    cases h with
    | fin _ _ h => rw [hx] at h; cases h
    | set _ _ _ _ _ _ _ _ h => rw [hx] at h; cases h
    | tramp _ _ _ _ h => rw [hx] at h; cases h
    | fork n _ ys' y w h hy ha =>
      rw [hx] at h
      cases h
      obtain ⟨i, hi, rfl⟩ := List.getElem_of_mem hy
      obtain ⟨u, v, m, hm, rfl, hu, hv⟩ := ih i (by omega) n w ha
      exact ⟨u, v, m, by omega, rfl, .alt nt N P L[i] L u (List.getElem_mem _) hu, hv⟩
  | star nt N P e nx t f b ht hf _ ih => exact loop_to ht hf ih
  | plus nt N P e nx t f b ht hf _ ih =>
    intro n w h
    obtain ⟨u, v, m, hm, rfl, hu, hv⟩ := ih n w h
    cases hv with
    | fin _ _ hq => rw [ht] at hq; cases hq
    | set _ _ _ _ _ _ _ _ hq => rw [ht] at hq; cases hq
    | fork _ _ _ _ _ hq => rw [ht] at hq; cases hq
    | tramp m _ y' v hq hv =>
      rw [ht] at hq
      cases hq
      obtain ⟨u2, v2, m2, hm2, rfl, hu2, hv2⟩ := loop_to (nt := nt) (N := N) (P := P) ht hf ih m v hv
      exact ⟨u ++ u2, v2, m2, by omega, by simp, .plus nt N P e u u2 hu hu2, hv2⟩
  | opt nt N P e nx x y hx _ ih =>
    intro n w h
    cases h with
    | fin _ _ h => rw [hx] at h; cases h
    | set _ _ _ _ _ _ _ _ h => rw [hx] at h; cases h
    | tramp _ _ _ _ h => rw [hx] at h; cases h
    | fork n _ ys y' w h hy ha =>
      rw [hx] at h
      cases h
      simp only [List.mem_cons, List.not_mem_nil, or_false] at hy
      rcases hy with rfl | rfl
      · exact ⟨[], w, n, by omega, rfl, .opt0 nt N P [e], ha⟩
      · obtain ⟨u, v, m, hm, rfl, hu, hv⟩ := ih n w ha
        exact ⟨u, v, m, by omega, rfl, .opt1 nt N P e u hu, hv⟩
theorem loop_from {G : List Nd} {nt : Bool} {N : List ByteArray} {P : List (Int × Int)} {e : Ex} {nx t f b : Nat} (ht : G[t]? = some (.tramp f)) (hf : G[f]? = some (.fork [nx, b]))
    (ih : ∀ u v, Mt e u → Acc G t v → Acc G b (u ++ v)) (x : Ex) (u v : List Kd) (h : Mt x u) : x = .mk 5 nt N P [e] → Acc G nx v → Acc G f (u ++ v) := by
  induction h with
  | star0 nt N P L => exact fun _ hv => (Acc.fork hf _).2 ⟨nx, by simp, hv⟩
  | star1 nt' N' P' e' u u2 he _ _ ih2 =>
    intro hx hv
    cases hx
    have h2 := ih2 rfl hv
    rw [List.append_assoc]
    exact (Acc.fork hf _).2 ⟨b, by simp, ih u _ he ((Acc.tramp ht _).2 h2)⟩
  | _ => intro hx; cases hx
theorem Built.from {G : List Nd} {e : Ex} {nx x : Nat} (h : Built G e nx x) : ∀ u v, Mt e u → Acc G nx v → Acc G x (u ++ v) := by
  induction h with
  | none nt N P L nx => intro u v h hv; cases h; exact hv
  | set nt N P L nx x hx =>
    intro u v h hv
    cases h with
    | set _ _ _ _ u hh => exact (Acc.set hx _).2 ⟨u, v, rfl, hh, hv⟩
  | seq0 nt N P nx => intro u v h hv; cases h; exact hv
  | seq1 nt N P e L nx x y _ _ ih1 ih2 =>
    intro u v h hv
    cases h with
    | seq1 _ _ _ _ _ u u2 h1 h2 =>
      rw [List.append_assoc]
      exact ih2 u _ h1 (ih1 u2 v h2 hv)
  | alt nt N P L nx x ys hx hl _ ih =>
    intro u v h hv
    cases h with
    | alt _ _ _ e _ _ he h1 =>
      obtain ⟨i, hi, rfl⟩ := List.getElem_of_mem he
      exact (Acc.fork hx _).2 ⟨ys[i], List.getElem_mem _, ih i hi u v h1 hv⟩
  | star nt N P e nx t f b ht hf _ ih => exact fun u v h hv => loop_from ht hf ih _ u v h rfl hv
  | plus nt N P e nx t f b ht hf _ ih =>
    intro u v h hv
    cases h with
    | plus _ _ _ _ u u2 h1 h2 =>
      rw [List.append_assoc]
      exact ih u _ h1 ((Acc.tramp ht _).2 (loop_from ht hf ih _ u2 v h2 rfl hv))
  | opt nt N P e nx x y hx _ ih =>
    intro u v h hv
    cases h with
    | opt0 => exact (Acc.fork hx _).2 ⟨nx, by simp, hv⟩
    | opt1 _ _ _ _ u h1 => exact (Acc.fork hx _).2 ⟨y, by simp, ih u v h1 hv⟩
theorem Built.acc {G : List Nd} {e : Ex} {nx x : Nat} (h : Built G e nx x) (w : List Kd) : Acc G x w ↔ ∃ u v, w = u ++ v ∧ Mt e u ∧ Acc G nx v := by
  constructor
  · rintro ⟨n, hn⟩
    obtain ⟨u, v, m, _, e1, hu, hv⟩ := h.to n w hn
    exact ⟨u, v, e1, hu, m, hv⟩
  · rintro ⟨u, v, rfl, hu, hv⟩
    exact h.from u v hu hv
theorem Built.whole {G : List Nd} {e : Ex} {z x : Nat} (h : Built G e z x) (hz : G[z]? = some .fin) (w : List Kd) : Acc G x w ↔ Mt e w := by
  rw [h.acc]
  constructor
  · rintro ⟨u, v, rfl, hu, hv⟩
    rw [(Acc.fin hz v).1 hv, List.append_nil]
    exact hu
  · exact fun hw => ⟨w, [], by simp, hw, (Acc.fin hz []).2 rfl⟩
/-- What is built stays built where nodes are added. -/
theorem Built.more {G H : List Nd} {e : Ex} {nx x : Nat} (hk : ∀ (i : Nat) (d : Nd), G[i]? = some d → d ≠ Nd.hole → H[i]? = some d) (h : Built G e nx x) : Built H e nx x := by
  induction h with
  | none nt N P L nx => exact .none nt N P L nx
  | set nt N P L nx x hx => exact .set nt N P L nx x (hk _ _ hx (by simp))
  | seq0 nt N P nx => exact .seq0 nt N P nx
  | seq1 nt N P e L nx x y _ _ ih1 ih2 => exact .seq1 nt N P e L nx x y ih1 ih2
  | alt nt N P L nx x ys hx hl _ ih => exact .alt nt N P L nx x ys (hk _ _ hx (by simp)) hl ih
  | star nt N P e nx t f b ht hf _ ih => exact .star nt N P e nx t f b (hk _ _ ht (by simp)) (hk _ _ hf (by simp)) ih
  | plus nt N P e nx t f b ht hf _ ih => exact .plus nt N P e nx t f b (hk _ _ ht (by simp)) (hk _ _ hf (by simp)) ih
  | opt nt N P e nx x y hx _ ih => exact .opt nt N P e nx x y (hk _ _ hx (by simp)) ih
end Go.Proofs.YthfnaalbgjeaeaaDoor
namespace Go.Proofs.YthfnaalbgjeaeaaDoor
/-- How far each node was gone on from, which sets wait, where the end was met last. -/
structure St where
  last : Nat → Int
  wait : List Nat
  ended : Int
def St.mark (s : St) (x : Nat) (p : Int) : St := { s with last := fun y => if y = x then p else s.last y }
def St.push (s : St) (x : Nat) : St := { s with wait := s.wait ++ [x] }
mutual
def vis (G : List Nd) (p : Int) : Nat → Nat → St → Option St
  | 0, _, _ => none
  | f + 1, x, s => match G[x]? with
    | some .fin => some { s with ended := p }
    | some (.tramp y) => vis G p f y s
    | some (.set _ _ _ _) => if s.last x = p then some s else some ((s.mark x p).push x)
    | some (.fork ys) => if s.last x = p then some s else visL G p f ys (s.mark x p)
    | _ => none
def visL (G : List Nd) (p : Int) : Nat → List Nat → St → Option St
  | _, [], s => some s
  | f, y :: ys, s => match vis G p f y s with
    | some s' => visL G p f ys s'
    | none => none
end
/-- No node leads nowhere. -/
structure WF (G : List Nd) : Prop where
  fork : ∀ (x : Nat) (ys : List Nat), G[x]? = some (Nd.fork ys) → ∀ y, y ∈ ys → y < G.length
  set : ∀ (x : Nat) (nt : Bool) (N : List ByteArray) (P : List (Int × Int)) (nx : Nat), G[x]? = some (Nd.set nt N P nx) → nx < G.length
  tramp : ∀ (x y : Nat), G[x]? = some (Nd.tramp y) → ∃ ys, G[y]? = some (Nd.fork ys)
  hole : ∀ (x : Nat), G[x]? ≠ some Nd.hole
/-- How many nodes were not gone on from at the place. -/
def left (G : List Nd) (p : Int) (s : St) : Nat := ((List.range G.length).filter fun x => !decide (s.last x = p)).length
theorem left_mono (G : List Nd) (p : Int) (s s' : St) (h : ∀ x, s.last x = p → s'.last x = p) : left G p s' ≤ left G p s := by
  unfold left
  generalize List.range G.length = R
  induction R with
  | nil => simp
  | cons x R ih =>
    simp only [List.filter_cons]
    by_cases h1 : s.last x = p
    · simp [h1, h x h1, ih]
    · by_cases h2 : s'.last x = p
      · simp [h1, h2]; omega
      · simp [h1, h2, ih]
theorem left_mark (G : List Nd) (p : Int) (s : St) (x : Nat) (hx : x < G.length) (h : s.last x ≠ p) : left G p (s.mark x p) < left G p s := by
  unfold left
  have hm : x ∈ List.range G.length := List.mem_range.2 hx
  generalize List.range G.length = R at *
  induction R with
  | nil => cases hm
  | cons y R ih =>
    simp only [List.filter_cons]
    by_cases e : y = x
    · subst e
      have h0 : (s.mark y p).last y = p := by simp [St.mark]
      have h1 : (R.filter fun z => !decide ((s.mark y p).last z = p)).length ≤ (R.filter fun z => !decide (s.last z = p)).length := by
        clear ih hm
        induction R with
        | nil => simp
        | cons z R ih =>
          simp only [List.filter_cons]
          by_cases e1 : s.last z = p
          · have e2 : (s.mark y p).last z = p := by simp [St.mark]; intro _; exact e1
            simp [e1, e2, ih]
          · by_cases e2 : (s.mark y p).last z = p
            · simp [e1, e2]; omega
            · simp [e1, e2, ih]
      simp [h, h0]
      simpa using Nat.lt_succ_of_le h1
    · have hm2 : x ∈ R := by
        rcases List.mem_cons.1 hm with r | r
        · exact absurd r.symm e
        · exact r
      have e2 : (s.mark x p).last y = s.last y := by simp [St.mark, e]
      rw [e2]
      by_cases e1 : s.last y = p
      · simpa [e1] using ih hm2
      · simpa [e1] using ih hm2
/-- What a visit leaves: marks stay; waiting sets are those that were marked; the end stays met. -/
structure More (p : Int) (s s' : St) : Prop where
  last : ∀ x, s.last x = p → s'.last x = p
  ended : s.ended = p → s'.ended = p
  old : ∀ x, s'.last x ≠ p → s'.last x = s.last x
  wait : ∃ l, s'.wait = s.wait ++ l
  was : s'.ended = p ∨ s'.ended = s.ended
theorem More.refl (p : Int) (s : St) : More p s s := ⟨fun _ h => h, fun h => h, fun _ _ => rfl, ⟨[], by simp⟩, .inr rfl⟩
theorem More.trans {p : Int} {s s' s'' : St} (h : More p s s') (k : More p s' s'') : More p s s'' :=
  ⟨fun x e => k.last x (h.last x e), fun e => k.ended (h.ended e), fun x e => by
    have e1 := k.old x e
    rw [e1]
    exact h.old x (fun e2 => e (k.last x e2)), by
    obtain ⟨l, e1⟩ := h.wait
    obtain ⟨m, e2⟩ := k.wait
    exact ⟨l ++ m, by rw [e2, e1, List.append_assoc]⟩, by
    rcases k.was with e | e
    · exact .inl e
    · rcases h.was with e2 | e2
      · exact .inl (by rw [e, e2])
      · exact .inr (by rw [e, e2])⟩
theorem More.mark (p : Int) (s : St) (x : Nat) : More p s (s.mark x p) :=
  ⟨fun y e => by simp only [St.mark]; split <;> simp_all, fun e => e, fun y e => by simp only [St.mark] at e ⊢; split <;> simp_all, ⟨[], by simp [St.mark]⟩, .inr rfl⟩
theorem More.push (p : Int) (s : St) (x : Nat) : More p s (s.push x) := ⟨fun _ e => e, fun e => e, fun _ _ => rfl, ⟨[x], rfl⟩, .inr rfl⟩
theorem vis_more (G : List Nd) (p : Int) : ∀ (f : Nat), (∀ x s s', vis G p f x s = some s' → More p s s') ∧ (∀ ys s s', visL G p f ys s = some s' → More p s s') := by
  have lift : ∀ f, (∀ x s s', vis G p f x s = some s' → More p s s') → ∀ ys s s', visL G p f ys s = some s' → More p s s' := by
    intro f hf ys
    induction ys with
    | nil => intro s s' h; simp only [visL, Option.some.injEq] at h; subst h; exact More.refl p s
    | cons y ys ih =>
      intro s s' h
      simp only [visL] at h
      cases hv : vis G p f y s with
      | none => rw [hv] at h; cases h
      | some s1 => rw [hv] at h; exact (hf y s s1 hv).trans (ih s1 s' h)
  intro f
  induction f with
  | zero => exact ⟨fun x s s' h => by simp [vis] at h, lift 0 (fun x s s' h => by simp [vis] at h)⟩
  | succ f ih =>
    have h1 : ∀ x s s', vis G p (f + 1) x s = some s' → More p s s' := by
      intro x s s' h
      simp only [vis] at h
      split at h
      · cases h; exact ⟨fun _ e => e, fun _ => rfl, fun _ _ => rfl, ⟨[], by simp⟩, .inl rfl⟩
      · exact ih.1 _ _ _ h
      · split at h
        · cases h; exact More.refl p s
        · cases h; exact (More.mark p s x).trans (More.push p _ x)
      · split at h
        · cases h; exact More.refl p s
        · exact (More.mark p s x).trans (ih.2 _ _ _ h)
      · cases h
    exact ⟨h1, lift (f + 1) h1⟩
/-- With steps enough a visit ends. -/
theorem vis_ends {G : List Nd} (hG : WF G) (p : Int) : ∀ (k : Nat) (s : St), left G p s ≤ k → ∀ f, (∀ x, x < G.length → 2 * k + 2 ≤ f → ∃ s', vis G p f x s = some s') ∧ (∀ x, x < G.length → (∀ y, G[x]? ≠ some (Nd.tramp y)) → 2 * k + 1 ≤ f → ∃ s', vis G p f x s = some s') := by
  intro k
  induction k with
  | zero =>
    intro s hs
    have hall : ∀ x, x < G.length → s.last x = p := by
      intro x hx
      by_cases h : s.last x = p
      · exact h
      · exact absurd (left_mark G p s x hx h) (by omega)
    have h1 : ∀ f x, x < G.length → (∀ y, G[x]? ≠ some (Nd.tramp y)) → 1 ≤ f → ∃ s', vis G p f x s = some s' := by
      intro f x hx ht hf
      obtain ⟨f, rfl⟩ : ∃ k, f = k + 1 := ⟨f - 1, by omega⟩
      have hg : G[x]? = some G[x] := List.getElem?_eq_getElem hx
      simp only [vis]
      cases hc : G[x] with
      | fin => rw [hg, hc]; exact ⟨_, rfl⟩
      | tramp y => exact absurd (hg.trans (by rw [hc])) (ht y)
      | set nt N P nx => rw [hg, hc]; simp [hall x hx]
      | fork ys => rw [hg, hc]; simp [hall x hx]
      | hole => exact absurd (hg.trans (by rw [hc])) (hG.hole x)
    intro f
    refine ⟨fun x hx hf => ?_, fun x hx ht hf => h1 f x hx ht (by omega)⟩
    by_cases ht : ∃ y, G[x]? = some (Nd.tramp y)
    · obtain ⟨y, hy⟩ := ht
      obtain ⟨ys, hys⟩ := hG.tramp x y hy
      obtain ⟨f, rfl⟩ : ∃ k, f = k + 1 := ⟨f - 1, by omega⟩
      simp only [vis, hy]
      exact h1 f y (List.getElem?_eq_some_iff.1 hys).1 (fun z hz => by rw [hys] at hz; cases hz) (by omega)
    · exact h1 f x hx (fun y hy => ht ⟨y, hy⟩) (by omega)
  | succ k ih =>
    intro s hs
    have hL : ∀ f, 2 * k + 2 ≤ f → ∀ ys, (∀ y, y ∈ ys → y < G.length) → ∀ s, left G p s ≤ k → ∃ s', visL G p f ys s = some s' := by
      intro f hf ys
      induction ys with
      | nil => exact fun _ s _ => ⟨s, by simp [visL]⟩
      | cons y ys ihy =>
        intro hy s hs
        obtain ⟨s1, e1⟩ := (ih s hs f).1 y (hy y (by simp)) hf
        have hm := (vis_more G p f).1 y s s1 e1
        obtain ⟨s2, e2⟩ := ihy (fun z hz => hy z (by simp [hz])) s1 (Nat.le_trans (left_mono G p s s1 hm.last) hs)
        exact ⟨s2, by simp only [visL, e1]; exact e2⟩
    have h1 : ∀ f x, x < G.length → (∀ y, G[x]? ≠ some (Nd.tramp y)) → 2 * (k + 1) + 1 ≤ f → ∃ s', vis G p f x s = some s' := by
      intro f x hx ht hf
      obtain ⟨f, rfl⟩ : ∃ k, f = k + 1 := ⟨f - 1, by omega⟩
      have hg : G[x]? = some G[x] := List.getElem?_eq_getElem hx
      simp only [vis]
      cases hc : G[x] with
      | fin => rw [hg, hc]; exact ⟨_, rfl⟩
      | tramp y => exact absurd (hg.trans (by rw [hc])) (ht y)
      | set nt N P nx =>
        rw [hg, hc]
        by_cases e : s.last x = p
        · simp [e]
        · simp [e]
      | fork ys =>
        rw [hg, hc]
        by_cases e : s.last x = p
        · simp [e]
        · have := left_mark G p s x hx e
          obtain ⟨s2, e2⟩ := hL f (by omega) ys (hG.fork x ys (hg.trans (by rw [hc]))) (s.mark x p) (by omega)
          simp only [e, if_false]
          exact ⟨s2, e2⟩
      | hole => exact absurd (hg.trans (by rw [hc])) (hG.hole x)
    intro f
    refine ⟨fun x hx hf => ?_, fun x hx ht hf => h1 f x hx ht (by omega)⟩
    by_cases ht : ∃ y, G[x]? = some (Nd.tramp y)
    · obtain ⟨y, hy⟩ := ht
      obtain ⟨ys, hys⟩ := hG.tramp x y hy
      obtain ⟨f, rfl⟩ : ∃ k, f = k + 1 := ⟨f - 1, by omega⟩
      simp only [vis, hy]
      exact h1 f y (List.getElem?_eq_some_iff.1 hys).1 (fun z hz => by rw [hys] at hz; cases hz) (by omega)
    · exact h1 f x hx (fun y hy => ht ⟨y, hy⟩) (by omega)
theorem left_le (G : List Nd) (p : Int) (s : St) : left G p s ≤ G.length := by
  unfold left
  exact Nat.le_trans (List.length_filter_le _ _) (by simp)
theorem vis_total {G : List Nd} (hG : WF G) (p : Int) (s : St) (x : Nat) (hx : x < G.length) : ∃ s', vis G p (2 * G.length + 2) x s = some s' :=
  (vis_ends hG p G.length s (left_le G p s) _).1 x hx (Nat.le_refl _)
end Go.Proofs.YthfnaalbgjeaeaaDoor
namespace Go.Proofs.YthfnaalbgjeaeaaDoor
open Go.RowKit Go.Shelf
def ptr (b : Nat) : Value := .pointer (some ⟨b, 0, none⟩)
def row (w : World) (b : Nat) (v : Value) (t : TypeId) : Prop := w.heap[b]? = some (.cells #[v] t (0, 0))
/-- What a graph of ways is made of: each node's value, where it writes how far it came, the lists of its set. -/
structure Lay where
  val : Nat → Value
  last : Nat → Nat
  nm : Nat → Value
  pt : Nat → Value
def finV (R : Nat) : Value := .func (.func 26) #[] #[ptr R]
def onceV (l o : Nat) : Value := .func (.func 43) #[] #[ptr l, ptr o]
def trampV (b : Nat) : Value := .func (.func 46) #[] #[ptr b]
def setF (r e n : Nat) : Value := .func (.func 32) #[] #[ptr r, ptr e, ptr n]
def forkF (b : Nat) : Value := .func (.func 45) #[] #[ptr b]
/-- A list of ways. -/
structure WA (w : World) (F : Nat → Prop) (v : Value) (l : List Value) : Prop where
  form : ∃ a cap, v = .slice a l.length cap ∧ ∀ k (h : k < l.length), ∃ b off cur, a = some ⟨b, off, none⟩ ∧ F b ∧ w.heap[b]? = some (.cells cur 63 (0, 0)) ∧ cur[off + k]? = some l[k]
/-- A node in memory. -/
inductive NodeIn (w : World) (base R : Nat) (Y : Lay) (F : Nat → Prop) (i : Nat) (l : Int) : Nd → Prop
  | fin : Y.val i = finV R → NodeIn w base R Y F i l .fin
  | set (nt : Bool) (N : List ByteArray) (P : List (Int × Int)) (nx o r e n : Nat) (k z : Value) : Y.val i = onceV (Y.last i) o → base ≤ Y.last i → row w (Y.last i) (.int .i64 l) 3 → row w o (setF r e n) 63 →
      row w r (ptr R) 68 → w.heap[e]? = some (.cells #[k, .bool nt, Y.nm i, Y.pt i, z] 30 (0, 0)) → row w n (Y.val nx) 63 → F o ∧ F r ∧ F e ∧ F n → NodeIn w base R Y F i l (.set nt N P nx)
  | fork (ys : List Nat) (o b : Nat) (v : Value) : Y.val i = onceV (Y.last i) o → base ≤ Y.last i → row w (Y.last i) (.int .i64 l) 3 → row w o (forkF b) 63 →
      row w b v 76 → WA w F v (ys.map Y.val) → F o ∧ F b → NodeIn w base R Y F i l (.fork ys)
  | tramp (y b : Nat) : Y.val i = trampV b → base ≤ b → row w b (Y.val y) 63 → F b → NodeIn w base R Y F i l (.tramp y)
  | hole (b : Nat) : Y.val i = trampV b → base ≤ b → row w b .nilFunc 63 → F b → NodeIn w base R Y F i l .hole
def Nd.once : Nd → Bool | .set _ _ _ _ => true | .fork _ => true | _ => false
/-- What is written while ways are gone: numbers, the reading, lists of steps. -/
structure Kp (base : Nat) (w w' : World) : Prop where
  bel : Below base w w'
  rows : ∀ (b : Nat) c t z, w.heap[b]? = some (.cells c t z) → t ≠ 3 → t ≠ 61 → t ≠ 71 → w'.heap[b]? = some (.cells c t z)
theorem Kp.refl (base : Nat) (w : World) : Kp base w w := ⟨Below.refl _ _, fun _ _ _ _ h _ _ _ => h⟩
theorem Kp.trans {base : Nat} {a b c : World} (h : Kp base a b) (k : Kp base b c) : Kp base a c := ⟨h.bel.trans k.bel, fun i x t z e h1 h2 h3 => k.rows i x t z (h.rows i x t z e h1 h2 h3) h1 h2 h3⟩
theorem Kp.ofBelow {base : Nat} {w w' : World} (h : Below w.heap.size w w') (hb : base ≤ w.heap.size) : Kp base w w' :=
  ⟨h.mono hb, fun b _ _ _ e _ _ _ => (h.block b (Array.getElem?_eq_some_iff.1 e).1).trans e⟩
theorem WA.kp {w w' : World} {F : Nat → Prop} {v : Value} {l : List Value} (h : WA w F v l) (k : ∀ (b : Nat) c z, F b → w.heap[b]? = some (.cells c 63 z) → w'.heap[b]? = some (.cells c 63 z)) : WA w' F v l := by
  obtain ⟨a, cap, e, h⟩ := h.form
  exact ⟨a, cap, e, fun i hi => by
    obtain ⟨b, off, cur, e1, e2, e3, e4⟩ := h i hi
    exact ⟨b, off, cur, e1, e2, k b _ _ e2 e3, e4⟩⟩
/-- A node stays as it is where the rows that it is made of stay, and its number is told. -/
theorem NodeIn.kp {w w' : World} {base R : Nat} {Y : Lay} {F : Nat → Prop} {i : Nat} {l l' : Int} {d : Nd} (h : NodeIn w base R Y F i l d) (k : ∀ (b : Nat) c t z, F b → w.heap[b]? = some (.cells c t z) → t ≠ 3 → t ≠ 61 → t ≠ 71 → w'.heap[b]? = some (.cells c t z))
    (hl : d.once = true → row w' (Y.last i) (.int .i64 l') 3) : NodeIn w' base R Y F i l' d := by
  cases h with
  | fin h => exact .fin h
  | set nt N P nx o r e n k' z h1 h2 h3 h4 h5 h6 h7 hF =>
    exact .set nt N P nx o r e n k' z h1 h2 (hl rfl) (k _ _ _ _ hF.1 h4 (by decide) (by decide) (by decide)) (k _ _ _ _ hF.2.1 h5 (by decide) (by decide) (by decide)) (k _ _ _ _ hF.2.2.1 h6 (by decide) (by decide) (by decide)) (k _ _ _ _ hF.2.2.2 h7 (by decide) (by decide) (by decide)) hF
  | fork ys o b v h1 h2 h3 h4 h5 h6 hF =>
    exact .fork ys o b v h1 h2 (hl rfl) (k _ _ _ _ hF.1 h4 (by decide) (by decide) (by decide)) (k _ _ _ _ hF.2 h5 (by decide) (by decide) (by decide)) (h6.kp (fun b c z hb e => k b c _ z hb e (by decide) (by decide) (by decide))) hF
  | tramp y b h1 h2 h3 hF => exact .tramp y b h1 h2 (k _ _ _ _ hF h3 (by decide) (by decide) (by decide)) hF
  | hole b h1 h2 h3 hF => exact .hole b h1 h2 (k _ _ _ _ hF h3 (by decide) (by decide) (by decide)) hF
theorem NodeIn.mono {w : World} {base R : Nat} {Y : Lay} {F F' : Nat → Prop} {i : Nat} {l : Int} {d : Nd} (h : NodeIn w base R Y F i l d) (hm : ∀ b, b < w.heap.size → F b → F' b) : NodeIn w base R Y F' i l d := by
  have lt : ∀ {b : Nat} {o : Obj}, w.heap[b]? = some o → b < w.heap.size := fun {b} {_} e => (Array.getElem?_eq_some_iff.1 e).1
  cases h with
  | fin h => exact .fin h
  | set nt N P nx o r e n k' z h1 h2 h3 h4 h5 h6 h7 hF => exact .set nt N P nx o r e n k' z h1 h2 h3 h4 h5 h6 h7 ⟨hm _ (lt h4) hF.1, hm _ (lt h5) hF.2.1, hm _ (lt h6) hF.2.2.1, hm _ (lt h7) hF.2.2.2⟩
  | fork ys o b v h1 h2 h3 h4 h5 h6 hF =>
    refine .fork ys o b v h1 h2 h3 h4 h5 ?_ ⟨hm _ (lt h4) hF.1, hm _ (lt h5) hF.2⟩
    obtain ⟨a, cap, e, h⟩ := h6.form
    exact ⟨a, cap, e, fun i hi => by
      obtain ⟨b, off, cur, e1, e2, e3, e4⟩ := h i hi
      exact ⟨b, off, cur, e1, hm _ (lt e3) e2, e3, e4⟩⟩
  | tramp y b h1 h2 h3 hF => exact .tramp y b h1 h2 h3 (hm _ (lt h3) hF)
  | hole b h1 h2 h3 hF => exact .hole b h1 h2 h3 (hm _ (lt h3) hF)
theorem NodeIn.lastRow {w : World} {base R : Nat} {Y : Lay} {F : Nat → Prop} {i : Nat} {l : Int} {d : Nd} (h : NodeIn w base R Y F i l d) (hd : d.once = true) : base ≤ Y.last i ∧ row w (Y.last i) (.int .i64 l) 3 := by
  cases h with
  | set nt N P nx o r e n k' z h1 h2 h3 => exact ⟨h2, h3⟩
  | fork ys o b v h1 h2 h3 => exact ⟨h2, h3⟩
  | fin => cases hd
  | tramp => cases hd
  | hole => cases hd
/-- A set's lists in memory, below the base. -/
structure SetIn (w : World) (base : Nat) (Y : Lay) (i : Nat) (N : List ByteArray) (P : List (Int × Int)) : Prop where
  is : ∃ a ca b cb, Y.nm i = .slice a N.length ca ∧ Y.pt i = .slice b P.length cb ∧ SQ w (fun g => g < base) a N ∧ RQ w (fun g => g < base) b P
  lN : N.length ≤ 1000000000
  lP : P.length ≤ 1000000000
theorem SetIn.below {w w' : World} {base : Nat} {Y : Lay} {i : Nat} {N : List ByteArray} {P : List (Int × Int)} (h : SetIn w base Y i N P) (k : Below base w w') : SetIn w' base Y i N P := by
  obtain ⟨a, ca, b, cb, e1, e2, h1, h2⟩ := h.is
  exact ⟨⟨a, ca, b, cb, e1, e2, h1.keeps (Keeps.ofBelow k), h2.keeps (Keeps.ofBelow k)⟩, h.lN, h.lP⟩
theorem NodeIn.func {w : World} {base R : Nat} {Y : Lay} {F : Nat → Prop} {i : Nat} {l : Int} {d : Nd} (h : NodeIn w base R Y F i l d) : ∃ f x y, Y.val i = .func f x y := by
  cases h with
  | fin h => exact ⟨_, _, _, h⟩
  | set nt N P nx o r e n k' z h1 => exact ⟨_, _, _, h1⟩
  | fork ys o b v h1 => exact ⟨_, _, _, h1⟩
  | tramp y b h1 => exact ⟨_, _, _, h1⟩
  | hole b h1 => exact ⟨_, _, _, h1⟩
/-- All nodes in memory, each with a number of its own. -/
structure GIn (w : World) (base R : Nat) (Y : Lay) (F : Nat → Nat → Prop) (G : List Nd) (last : Nat → Int) : Prop where
  node : ∀ (i : Nat) (d : Nd), G[i]? = some d → NodeIn w base R Y (F i) i (last i) d
  inj : ∀ (i j : Nat) (d e : Nd), G[i]? = some d → G[j]? = some e → d.once = true → e.once = true → Y.last i = Y.last j → i = j
  sets : ∀ (i : Nat) (nt : Bool) (N : List ByteArray) (P : List (Int × Int)) (nx : Nat), G[i]? = some (Nd.set nt N P nx) → SetIn w base Y i N P
theorem GIn.kp {w w' : World} {base R : Nat} {Y : Lay} {F : Nat → Nat → Prop} {G : List Nd} {last last' : Nat → Int} (h : GIn w base R Y F G last) (k : Kp base w w')
    (hl : ∀ (i : Nat) (d : Nd), G[i]? = some d → d.once = true → row w' (Y.last i) (.int .i64 (last' i)) 3) : GIn w' base R Y F G last' :=
  ⟨fun i d hi => (h.node i d hi).kp (fun b c t z _ => k.rows b c t z) (fun hd => hl i d hi hd), h.inj, fun i nt N P nx hi => (h.sets i nt N P nx hi).below k.bel⟩
/-- The four cells of a step that waits for a set. -/
def stepC (Y : Lay) (G : List Nd) (i : Nat) : List Value := match G[i]? with
  | some (.set nt _ _ nx) => [.bool nt, Y.nm i, Y.pt i, Y.val nx]
  | _ => []
/-- The reading in memory: what waits, what waited, where the end was met. -/
structure RIn (w : World) (base R : Nat) (Y : Lay) (G : List Nd) (wait waited : List Nat) (u : Value) (ended : Int) : Prop where
  is : ∃ v, w.heap[R]? = some (.cells #[v, u, .int .i64 ended] 61 (0, 0)) ∧ w.ownsRow base 71 4 v wait.length (wait.flatMap (stepC Y G)) ∧ w.ownsRow base 71 4 u waited.length (waited.flatMap (stepC Y G)) ∧ (∀ g, v.ownBlock = some g → u.ownBlock ≠ some g)
  low : base ≤ R
end Go.Proofs.YthfnaalbgjeaeaaDoor
namespace Go.Proofs.YthfnaalbgjeaeaaDoor
open Go.RowKit Go.Shelf
theorem lt_of_row {W : World} {k : Nat} {o : Obj} (h : W.heap[k]? = some o) : k < W.heap.size := (Array.getElem?_eq_some_iff.1 h).1
theorem own_blk {W W' : World} {lo t s n : Nat} {v : Value} {xs : List Value} (h : W.ownsRow lo t s v n xs) (hb : ∀ k, v.ownBlock = some k → W'.heap[k]? = W.heap[k]?) : W'.ownsRow lo t s v n xs := by
  refine ⟨h.1, ?_⟩
  rcases h.2 with h2 | ⟨g, cap, cur0, hv, hg, hr, r⟩
  · exact .inl h2
  · exact .inr ⟨g, cap, cur0, hv, hg, (hb g (by rw [hv]; rfl)).trans hr, r⟩
theorem own_type {W : World} {lo t s n : Nat} {v : Value} {xs : List Value} (h : W.ownsRow lo t s v n xs) (k : Nat) (hk : v.ownBlock = some k) : ∃ c, W.heap[k]? = some (.cells c t (0, 0)) ∧ lo ≤ k := by
  rcases h.2 with ⟨rfl, _⟩ | ⟨g, cap, cur0, rfl, hg, hr, _⟩
  · cases hk
  · cases hk; exact ⟨cur0, hr, hg⟩
/-- The nodes and the reading, as a state says. -/
structure SIn (w : World) (base R : Nat) (Y : Lay) (G : List Nd) (waited : List Nat) (u : Value) (s : St) : Prop where
  g : GIn w base R Y (fun _ _ => True) G s.last
  r : RIn w base R Y G s.wait waited u s.ended
def Vp (base R : Nat) (Y : Lay) (G : List Nd) (waited : List Nat) (u : Value) (w : World) (s' : St) (e : Ending) (w' : World) : Prop := e = .returned (.tuple #[]) ∧ SIn w' base R Y G waited u s' ∧ Kp base w w'
/-- A way is gone from a place. -/
def CallV (v : Value) (p : Int) (w : World) (Q : Ending → World → Prop) : Prop :=
  (∃ b, v = finV b ∧ Calls Tryd.prog 26 #[.int .i64 p, .pointer (some ⟨b, 0, none⟩)] w Q) ∨
  (∃ l o, v = onceV l o ∧ Calls Tryd.prog 43 #[.int .i64 p, .pointer (some ⟨l, 0, none⟩), .pointer (some ⟨o, 0, none⟩)] w Q) ∨
  (∃ b, v = trampV b ∧ Calls Tryd.prog 46 #[.int .i64 p, .pointer (some ⟨b, 0, none⟩)] w Q)
theorem CallV.mono {v : Value} {p : Int} {w : World} {Q Q' : Ending → World → Prop} (h : CallV v p w Q) (k : ∀ e w', Q e w' → Q' e w') : CallV v p w Q' := by
  rcases h with ⟨b, e, h⟩ | ⟨l, o, e, h⟩ | ⟨b, e, h⟩
  · exact .inl ⟨b, e, h.mono k⟩
  · exact .inr (.inl ⟨l, o, e, h.mono k⟩)
  · exact .inr (.inr ⟨b, e, h.mono k⟩)
set_option maxRecDepth 10000 in
theorem fin1 (p : Int) (R : Nat) (v u : Value) (n : Int) (w : World) (hR : w.heap[R]? = some (.cells #[v, u, .int .i64 n] 61 (0, 0))) :
    Calls Tryd.prog 26 #[.int .i64 p, .pointer (some ⟨R, 0, none⟩)] w fun e w' => e = .returned (.tuple #[]) ∧ w' = w.setCell ⟨R, 2, none⟩ (.int .i64 p) := by
  have c2 : w.cell? ⟨R, 2, none⟩ = some (.int .i64 n) := by rw [cell_of_row _ _ _ _ _ _ hR]; rfl
  have f2 : w.frozen? ⟨R, 2, none⟩ = false := frozen_of_row _ _ _ _ _ hR
  clear hR
  go_enter Tryd.func26, Tryd.ntmps26
  go_wp2
  go_end0
  exact ⟨rfl, rfl⟩
theorem kp_setR {base R : Nat} {w : World} {c : Array Value} (hR : w.heap[R]? = some (.cells c 61 (0, 0))) (hb : base ≤ R) (j : Nat) (x : Value) : Kp base w (w.setCell ⟨R, j, none⟩ x) :=
  ⟨(Below.refl base w).setCell (p := ⟨R, j, none⟩) hb _, fun b c' t z e h1 h2 h3 => (Below.heap_setCell w _ x b (by
    intro hb
    simp only at hb
    subst hb
    rw [hR] at e
    cases e
    exact h2 rfl)).trans e⟩
theorem row_setR {R b : Nat} {w : World} {c c' : Array Value} {t : TypeId} {z : Nat × Nat} (hR : w.heap[R]? = some (.cells c 61 (0, 0))) (j : Nat) (x : Value) (e : w.heap[b]? = some (.cells c' t z)) (ht : t ≠ 61) : (w.setCell ⟨R, j, none⟩ x).heap[b]? = some (.cells c' t z) :=
  (Below.heap_setCell w _ x b (by
    intro hb
    simp only at hb
    subst hb
    rw [hR] at e
    cases e
    exact ht rfl)).trans e
theorem own_setR {R lo s n : Nat} {w : World} {c : Array Value} {v : Value} {xs : List Value} (hR : w.heap[R]? = some (.cells c 61 (0, 0))) (j : Nat) (x : Value) (h : w.ownsRow lo 71 s v n xs) : (w.setCell ⟨R, j, none⟩ x).ownsRow lo 71 s v n xs :=
  own_blk h (fun k hk => by
    obtain ⟨c', e, _⟩ := own_type h k hk
    rw [row_setR hR j x e (by decide), e])
/-- The end is met. -/
theorem fin_any {base R : Nat} {Y : Lay} {G : List Nd} {waited : List Nat} {u : Value} {s : St} (p : Int) (w : World) (h : SIn w base R Y G waited u s) :
    Calls Tryd.prog 26 #[.int .i64 p, .pointer (some ⟨R, 0, none⟩)] w (Vp base R Y G waited u w { s with ended := p }) := by
  obtain ⟨v, hR, hv, hu, hd⟩ := h.r.is
  refine (fin1 p R v u s.ended w hR).mono ?_
  rintro e w' ⟨rfl, rfl⟩
  have k := kp_setR (base := base) hR h.r.low 2 (.int .i64 p)
  exact ⟨rfl, ⟨h.g.kp k (fun i d hi hd' => row_setR hR 2 _ (NodeIn.lastRow (h.g.node i d hi) hd').2 (by decide)), ⟨⟨v, heap_setCell_same _ R 2 _ _ _ hR, own_setR hR 2 _ hv, own_setR hR 2 _ hu, hd⟩, h.r.low⟩⟩, k⟩
theorem infoStep : (Tryd.prog.info? 71).map (fun i => (i.zero, i.size, i.bytes)) = some (some (.agg #[.bool false, .slice none 0 0, .slice none 0 0, .nilFunc]), 4, 64) := by kernel_rfl
theorem cell4_new (w : World) (a b c d : Value) (t : TypeId) : ∀ j u, [a, b, c, d][j]? = some u → (w.alloc (.cells #[a, b, c, d] t)).cell? ((⟨w.heap.size, 0, none⟩ : Addr).add j) = some u := by
  intro j u h
  rw [Addr.add_mid, cell_of_row _ _ _ _ _ _ (heap_alloc_new w _)]
  simpa using h
theorem step_append_own_at {P : Program} {ops : Array Oper} {o : Oper} {a : Act} {w : World} {K : Act → World → Prop} {Q : Exit → Act → World → Prop} {E : Prop} (hg : o.guard = none) (s x : Operand) (t : TypeId)
    (ho : o.op = .call { callee := .builtin .append, args := #[s, x], argTypes := #[t, t] })
    (base : Nat) (e : TypeId) (i : TypeInfo) (z : Value) (size bytes : Nat) (ht : P.underlying t = some (.slice e)) (hi : P.info? e = some i) (hz : i.zero = some z)
    (hsize : i.size = size) (hby : i.bytes = bytes) (hzs : z.cells.size = size) (hsz : 0 < size)
    (v : Value) (n : Nat) (xs : List Value) (hs : a.eval s = v) (hown : w.ownsRow base e size v n xs)
    (ad : Addr) (m c : Nat) (news : List Value) (hx : a.eval x = .slice (some ad) m c) (hl : news.length = m * size) (hnews : ∀ j u, news[j]? = some u → w.cell? (ad.add j) = some u) (h1 : ∀ u ∈ news, u.oneCell' = true)
    (h63 : n + m ≤ maxLen) (hbytes : (n + m) * bytes ≤ 140737488355328) (hbase : base ≤ w.heap.size)
    (h : ∀ v' w', w'.ownsRow base e size v' (n + m) (xs ++ news) → w.grownBy w' v.ownBlock → (v'.ownBlock = v.ownBlock ∨ v'.ownBlock = some w.heap.size) → K (a.put o.dst v') w') :
    if Region.wanted o (yielded ops a.tmps) = true then Oper.wp P o a w K Q else E := by
  have hw : Region.wanted o (yielded ops a.tmps) = true := by simp [Region.wanted, hg]
  rw [if_pos hw]
  obtain ⟨v', w', hr, h2, h3, _, h5⟩ := run_append_own_at (P := P) w base t o.type e i z size bytes ht hi hz hsize hby hzs hsz v n xs hown ad m c news hl hnews h1 h63 hbytes hbase
  unfold Oper.wp execOp
  simp only [ho, resolve, invoke, builtin, Sem.run_bind, Sem.run_pure, Result.andThen_ok, List.map_toArray, List.map_cons, List.map_nil, hs, hx, hr]
  exact h v' w' h2 h3 h5
/-- What a set that waits leaves. -/
structure Waits (base R : Nat) (w w' : World) (n : Nat) (xs ys : List Value) (u : Value) (en : Int) : Prop where
  is : ∃ v', w'.heap[R]? = some (.cells #[v', u, .int .i64 en] 61 (0, 0)) ∧ w'.ownsRow base 71 4 v' (n + 1) (xs ++ ys) ∧ (∀ g, v'.ownBlock = some g → u.ownBlock ≠ some g)
  bel : Below base w w'
  rows : ∀ (b : Nat) c t z, w.heap[b]? = some (.cells c t z) → t ≠ 61 → (t = 71 → u.ownBlock = some b) → w'.heap[b]? = some (.cells c t z)
theorem waits_of {base R n : Nat} {w w0 w1 : World} {v u v' : Value} {xs ys : List Value} {en : Int} (hb : base ≤ R) (hR : w.heap[R]? = some (.cells #[v, u, .int .i64 en] 61 (0, 0))) (hv : w.ownsRow base 71 4 v n xs) (hu : ∀ g, v.ownBlock = some g → u.ownBlock ≠ some g) (hul : ∀ g, u.ownBlock = some g → g < w.heap.size)
    (h0 : Below w.heap.size w w0) (hs : w0.heap.size = w.heap.size + 1) (hown : w1.ownsRow base 71 4 v' (n + 1) (xs ++ ys)) (hg : w0.grownBy w1 v.ownBlock) (hat : v'.ownBlock = v.ownBlock ∨ v'.ownBlock = some w0.heap.size) : Waits base R w (w1.setCell ⟨R, 0, none⟩ v') n xs ys u en := by
  have hRl := lt_of_row hR
  have hne : ∀ (b : Nat) c t z, w.heap[b]? = some (.cells c t z) → t ≠ 71 → some b ≠ v.ownBlock := fun b c t z e ht hq => by
    obtain ⟨c', e', _⟩ := own_type hv b hq.symm
    rw [e] at e'
    cases e'
    exact ht rfl
  have hk : ∀ (b : Nat), b < w.heap.size → some b ≠ v.ownBlock → w1.heap[b]? = w.heap[b]? := fun b hl hn => (hg.block b (by omega) hn).trans (h0.block b hl)
  have hR1 : w1.heap[R]? = some (.cells #[v, u, .int .i64 en] 61 (0, 0)) := (hk R hRl (hne R _ _ _ hR (by decide))).trans hR
  have hb1 : Below base w w1 := ⟨hg.os.trans h0.os, hg.tape.trans h0.tape, hg.output.trans h0.output, by have := hg.size; omega, fun b hl => hk b (by omega) (fun hq => by
    obtain ⟨_, _, hlo⟩ := own_type hv b hq.symm
    omega)⟩
  refine ⟨⟨v', heap_setCell_same _ R 0 _ _ _ hR1, own_setR hR1 0 _ hown, fun g e1 e2 => ?_⟩, hb1.setCell (p := ⟨R, 0, none⟩) hb _, fun b c t z e h1 h2 => ?_⟩
  · rcases hat with h | h
    · exact hu g (h.symm.trans e1) e2
    · rw [h] at e1
      cases e1
      have := hul _ e2
      omega
  · refine row_setR hR1 0 _ ((hk b (lt_of_row e) (fun hq => ?_)).trans e) h1
    obtain ⟨c', e', _⟩ := own_type hv b hq.symm
    rw [e] at e'
    cases e'
    exact hu b hq.symm (h2 rfl)
theorem rowR_grown {base R n : Nat} {w w0 w1 : World} {v : Value} {xs : List Value} {c : Array Value} (hR : w.heap[R]? = some (.cells c 61 (0, 0))) (hv : w.ownsRow base 71 4 v n xs)
    (h0 : Below w.heap.size w w0) (hg : w0.grownBy w1 v.ownBlock) : w1.heap[R]? = some (.cells c 61 (0, 0)) :=
  (hg.block R (Nat.lt_of_lt_of_le (lt_of_row hR) h0.size) (fun hq => by
    obtain ⟨c', e', _⟩ := own_type hv R hq.symm
    rw [hR] at e'
    cases e')).trans ((h0.block R (lt_of_row hR)).trans hR)
theorem rows_grown {base n : Nat} {w w0 w1 : World} {v : Value} {xs : List Value} (hv : w.ownsRow base 71 4 v n xs) (h0 : Below w.heap.size w w0) (hg : w0.grownBy w1 v.ownBlock) :
    ∀ (b : Nat) c t z, w.heap[b]? = some (.cells c t z) → t ≠ 61 → t ≠ 71 → w1.heap[b]? = some (.cells c t z) := fun b c t z e _ h2 =>
  (hg.block b (Nat.lt_of_lt_of_le (lt_of_row e) h0.size) (fun hq => by
    obtain ⟨c', e', _⟩ := own_type hv b hq.symm
    rw [e] at e'
    cases e'
    exact h2 rfl)).trans ((h0.block b (lt_of_row e)).trans e)
set_option maxRecDepth 10000 in
set_option maxHeartbeats 1600000 in
theorem set1 (p : Int) (base R r e n cn : Nat) (a1 a2 : Option Addr) (n1 c1 n2 c2 : Nat) (nt : Bool) (k z : Value) (fn : Fn) (fx fy : Array Value) (v u : Value) (en : Int) (xs : List Value) (w : World) (hcn : cn ≤ 1000000)
    (hb : base ≤ R) (hR : w.heap[R]? = some (.cells #[v, u, .int .i64 en] 61 (0, 0))) (hv : w.ownsRow base 71 4 v cn xs) (hu : ∀ g, v.ownBlock = some g → u.ownBlock ≠ some g) (hul : ∀ g, u.ownBlock = some g → g < w.heap.size)
    (hr : row w r (ptr R) 68) (he : w.heap[e]? = some (.cells #[k, .bool nt, .slice a1 n1 c1, .slice a2 n2 c2, z] 30 (0, 0))) (hn : row w n (.func fn fx fy) 63) :
    Calls Tryd.prog 32 #[.int .i64 p, .pointer (some ⟨r, 0, none⟩), .pointer (some ⟨e, 0, none⟩), .pointer (some ⟨n, 0, none⟩)] w fun e w' => e = .returned (.tuple #[]) ∧ Waits base R w w' cn xs [.bool nt, .slice a1 n1 c1, .slice a2 n2 c2, .func fn fx fy] u en := by
  obtain ⟨i0, hi, hz0, hz1, hz2⟩ := info_parts infoStep
  have hRl := lt_of_row hR
  unfold row ptr at hr
  unfold row at hn
  have c_r : w.cell? ⟨r, 0, none⟩ = some (.pointer (some ⟨R, 0, none⟩)) := by rw [cell_of_row _ _ _ _ _ _ hr]; rfl
  have c_1 : w.cell? ⟨e, 1, none⟩ = some (.bool nt) := by rw [cell_of_row _ _ _ _ _ _ he]; rfl
  have c_2 : w.cell? ⟨e, 2, none⟩ = some (.slice a1 n1 c1) := by rw [cell_of_row _ _ _ _ _ _ he]; rfl
  have c_3 : w.cell? ⟨e, 3, none⟩ = some (.slice a2 n2 c2) := by rw [cell_of_row _ _ _ _ _ _ he]; rfl
  have c_n : w.cell? ⟨n, 0, none⟩ = some (.func fn fx fy) := by rw [cell_of_row _ _ _ _ _ _ hn]; rfl
  have c_R : w.cell? ⟨R, 0, none⟩ = some v := by rw [cell_of_row _ _ _ _ _ _ hR]; rfl
  have f_R : w.frozen? ⟨R, 0, none⟩ = false := frozen_of_row _ _ _ _ _ hR
  have hvs : ∃ av cv, v = .slice av cn cv := by
    rcases hv.2 with ⟨rfl, rfl⟩ | ⟨g, cap, cur, rfl, _⟩
    · exact ⟨none, 0, rfl⟩
    · exact ⟨_, _, rfl⟩
  obtain ⟨av, cv, rfl⟩ := hvs
  have HSo : Hid (∀ (W : World), (∀ (b : Nat) c t z, w.heap[b]? = some (.cells c t z) → t ≠ 61 → t ≠ 71 → W.heap[b]? = some (.cells c t z)) →
      W.cell? ⟨r, 0, none⟩ = some (.pointer (some ⟨R, 0, none⟩)) ∧ W.cell? ⟨e, 1, none⟩ = some (.bool nt) ∧ W.cell? ⟨e, 2, none⟩ = some (.slice a1 n1 c1) ∧ W.cell? ⟨e, 3, none⟩ = some (.slice a2 n2 c2) ∧ W.cell? ⟨n, 0, none⟩ = some (.func fn fx fy)) := hid0 (fun W hW =>
    ⟨by rw [cell_of_row _ _ _ _ _ _ (hW _ _ _ _ hr (by decide) (by decide))]; rfl, by rw [cell_of_row _ _ _ _ _ _ (hW _ _ _ _ he (by decide) (by decide))]; rfl, by rw [cell_of_row _ _ _ _ _ _ (hW _ _ _ _ he (by decide) (by decide))]; rfl, by rw [cell_of_row _ _ _ _ _ _ (hW _ _ _ _ he (by decide) (by decide))]; rfl, by rw [cell_of_row _ _ _ _ _ _ (hW _ _ _ _ hn (by decide) (by decide))]; rfl⟩)
  have HK0 : Hid (∀ (b : Nat) c t z, w.heap[b]? = some (.cells c t z) → t ≠ 61 → t ≠ 71 → w.drew.heap[b]? = some (.cells c t z)) := hid0 (fun b c t z h _ _ => h)
  have HKa : Hid (∀ (o : Obj), ∀ (b : Nat) c t z, w.heap[b]? = some (.cells c t z) → t ≠ 61 → t ≠ 71 → (w.drew.alloc o).heap[b]? = some (.cells c t z)) := hid0 (fun o b c t z h _ _ => (Below.heap_alloc _ _ b (lt_of_row h)).trans h)
  have c_RA : ∀ (o : Obj), (w.drew.alloc o).cell? ⟨R, 0, none⟩ = some (.slice av cn cv) := fun o => by rw [cell_of_row (w.drew.alloc o) _ _ _ _ _ ((Below.heap_alloc w.drew o R hRl).trans hR)]; rfl
  have HV := hid0 hv
  have HR := hid0 hR
  have HU := hid0 hu
  have HUL := hid0 hul
  have HRL := hid0 hRl
  clear hv hR hu hul hr he hn c_r c_1 c_2 c_3 c_n
  go_enter Tryd.func32, Tryd.ntmps32
  refine wp_region_held_drew (S := (fun W => W.cell? ⟨r, 0, none⟩ = some (.pointer (some ⟨R, 0, none⟩)) ∧ W.cell? ⟨e, 1, none⟩ = some (.bool nt) ∧ W.cell? ⟨e, 2, none⟩ = some (.slice a1 n1 c1) ∧ W.cell? ⟨e, 3, none⟩ = some (.slice a2 n2 c2) ∧ W.cell? ⟨n, 0, none⟩ = some (.func fn fx fy))) (by kernel_rfl) ?_ (fun hHeld => ?_)
  · exact HSo.out _ HK0.out
  refine tkV (i := 0) (d := some 5) (v := ?_) rfl (by kernel_rfl) (by kernel_rfl) (by kernel_rfl) rfl (fun _ _ _ h => h) (by rfl) ?_ (by assumption) ?_
  rotate_left
  · (intro w hSw; (try dsimp only at hSw); (try simp only [List.getElem_toArray, List.getElem_cons_zero]); go_simp; try with_reducible rfl)
  simp only [Act.put, List.setIfInBounds_toArray, List.set_cons_zero, List.set_cons_succ]
  refine tkV (i := 1) (d := some 6) (v := ?_) rfl (by kernel_rfl) (by kernel_rfl) (by kernel_rfl) rfl (fun _ _ _ h => h) (by rfl) ?_ (by assumption) ?_
  rotate_left
  · (intro w hSw; (try dsimp only at hSw); (try simp only [List.getElem_toArray, List.getElem_cons_zero, List.getElem_cons_succ]); go_simp; try with_reducible rfl)
  simp only [Act.put, List.setIfInBounds_toArray, List.set_cons_zero, List.set_cons_succ]
  refine tkV (i := 2) (d := some 7) (v := ?_) rfl (by kernel_rfl) (by kernel_rfl) (by kernel_rfl) rfl (fun _ _ _ h => h) (by rfl) ?_ (by assumption) ?_
  rotate_left
  · (intro w hSw; (try dsimp only at hSw); (try simp only [List.getElem_toArray, List.getElem_cons_zero, List.getElem_cons_succ]); go_simp; try with_reducible rfl)
  simp only [Act.put, List.setIfInBounds_toArray, List.set_cons_zero, List.set_cons_succ]
  refine tkV (i := 3) (d := some 8) (v := ?_) rfl (by kernel_rfl) (by kernel_rfl) (by kernel_rfl) rfl (fun _ _ _ h => h) (by rfl) ?_ (by assumption) ?_
  rotate_left
  · (intro w hSw; (try dsimp only at hSw); (try simp only [List.getElem_toArray, List.getElem_cons_zero, List.getElem_cons_succ]); go_simp; try with_reducible rfl)
  simp only [Act.put, List.setIfInBounds_toArray, List.set_cons_zero, List.set_cons_succ]
  refine tkV (i := 5) (d := some 10) (v := ?_) rfl (by kernel_rfl) (by kernel_rfl) (by kernel_rfl) rfl (fun _ _ _ h => h) (by rfl) ?_ (by assumption) ?_
  rotate_left
  · (intro w hSw; (try dsimp only at hSw); (try simp only [List.getElem_toArray, List.getElem_cons_zero, List.getElem_cons_succ]); go_simp; try with_reducible rfl)
  simp only [Act.put, List.setIfInBounds_toArray, List.set_cons_zero, List.set_cons_succ]
  refine tkV (i := 6) (d := some 11) (v := ?_) rfl (by kernel_rfl) (by kernel_rfl) (by kernel_rfl) rfl (fun _ _ _ h => h) (by rfl) ?_ (by assumption) ?_
  rotate_left
  · (intro w hSw; (try dsimp only at hSw); (try simp only [List.getElem_toArray, List.getElem_cons_zero, List.getElem_cons_succ]); go_simp; try with_reducible rfl)
  simp only [Act.put, List.setIfInBounds_toArray, List.set_cons_zero, List.set_cons_succ]
  refine tkV (i := 7) (d := some 12) (v := ?_) rfl (by kernel_rfl) (by kernel_rfl) (by kernel_rfl) rfl (fun _ _ _ h => h) (by rfl) ?_ (by assumption) ?_
  rotate_left
  · (intro w hSw; (try dsimp only at hSw); (try simp only [List.getElem_toArray, List.getElem_cons_zero, List.getElem_cons_succ]); go_simp; try with_reducible rfl)
  simp only [Act.put, List.setIfInBounds_toArray, List.set_cons_zero, List.set_cons_succ]
  refine tkV (i := 8) (d := some 13) (v := ?_) rfl (by kernel_rfl) (by kernel_rfl) (by kernel_rfl) rfl (fun _ _ _ h => h) (by rfl) ?_ (by assumption) ?_
  rotate_left
  · (intro w hSw; (try dsimp only at hSw); (try simp only [List.getElem_toArray, List.getElem_cons_zero, List.getElem_cons_succ]); go_simp; try with_reducible rfl)
  simp only [Act.put, List.setIfInBounds_toArray, List.set_cons_zero, List.set_cons_succ]
  refine wpAnyH_ready (rs := [4, 9]) (by kernel_rfl) (by simp) (AllReadyH.cons rfl (fun K hK => ?_) (AllReadyH.cons rfl (fun K hK => ?_) AllReadyH.nil))
  · try simp only [List.getElem_toArray, List.getElem_cons_zero, List.getElem_cons_succ]
    go_simp
    refine hK.out _ _ ?_ (fun hHeld3 => ?_)
    · first | exact HSo.out _ HK0.out | exact HSo.out _ (HKa.out _) | exact HSo.out _ HK2.out | exact HSo.out _ HK3.out
    clear hK K
    try simp only [Act.put, List.setIfInBounds_toArray, List.set_cons_zero, List.set_cons_succ]
    refine wpAnyH_ready (rs := [9]) (by kernel_rfl) (by simp) (AllReadyH.cons rfl (fun K hK => ?_) AllReadyH.nil)
    try simp only [List.getElem_toArray, List.getElem_cons_zero, List.getElem_cons_succ]
    go_simp
    refine hK.out _ _ ?_ (fun hHeld4 => ?_)
    · first | exact HSo.out _ HK0.out | exact HSo.out _ (HKa.out _) | exact HSo.out _ HK2.out | exact HSo.out _ HK3.out
    clear hK K
    try simp only [Act.put, List.setIfInBounds_toArray, List.set_cons_zero, List.set_cons_succ]
    refine wpAnyH_ready (rs := [10]) (by kernel_rfl) (by simp) (AllReadyH.cons rfl (fun K hK => ?_) AllReadyH.nil)
    refine step_append_own_at (by rfl) _ _ 59 (by rfl) base 71 i0 (.agg #[.bool false, .slice none 0 0, .slice none 0 0, .nilFunc]) 4 64 Tryd.underlying59 hi hz0 hz1 hz2 rfl (by decide) (.slice av cn cv) cn xs (by rfl) (World.ownsRow.alloc (w := w.drew) HV.out _) ⟨_, 0, none⟩ 1 1 [.bool nt, .slice a1 n1 c1, .slice a2 n2 c2, .func fn fx fy] (by rfl) (by rfl) (cell4_new w.drew _ _ _ _ _) (fun u hu => by simp only [List.mem_cons, List.not_mem_nil, or_false] at hu; rcases hu with rfl | rfl | rfl | rfl <;> rfl) (by unfold maxLen; omega) (by omega) (by simp; have := HRL.out; omega) ?_
    intro v2 w2 hown2 hgrow2 hat2
    have HW := hid0 (waits_of (w0 := _) hb HR.out HV.out HU.out HUL.out (((Below.refl _ _).drew).alloc (Nat.le_refl _) _) (by simp) hown2 hgrow2 hat2)
    have hR2 := rowR_grown (w0 := _) HR.out HV.out (((Below.refl _ _).drew).alloc (Nat.le_refl _) _) hgrow2
    obtain ⟨g2, cap2, rfl, hju1, hju2⟩ := own_form hown2 (Nat.succ_pos _)
    have c_R2 : w2.cell? ⟨R, 0, none⟩ = some (.slice av cn cv) := by rw [cell_of_row _ _ _ _ _ _ hR2]; rfl
    have f_R2 : w2.frozen? ⟨R, 0, none⟩ = false := frozen_of_row _ _ _ _ _ hR2
    have HK2 := hid0 (rows_grown HV.out (((Below.refl _ _).drew).alloc (Nat.le_refl _) _) hgrow2)
    have HK3 : Hid (∀ (b : Nat) c t z, w.heap[b]? = some (.cells c t z) → t ≠ 61 → t ≠ 71 → (w2.setCell ⟨R, 0, none⟩ (.slice (some ⟨g2, 0, none⟩) (cn + 1) cap2)).heap[b]? = some (.cells c t z)) := hid0 (fun b c t z e h1 h2 => row_setR hR2 0 _ (HK2.out b c t z e h1 h2) h1)
    clear hown2 hgrow2 hat2 hR2 hju1 hju2
    refine hK.out _ _ ?_ (fun hHeld5 => ?_)
    · first | exact HSo.out _ HK0.out | exact HSo.out _ (HKa.out _) | exact HSo.out _ HK2.out | exact HSo.out _ HK3.out
    clear hK K
    (try simp only [Act.put]); (try simp only [List.setIfInBounds_toArray]); (try simp only [List.set_cons_succ]); (try simp only [List.set_cons_zero])
    refine tkV (i := 11) (d := some 16) (v := ?_) rfl (by kernel_rfl) (by kernel_rfl) (by kernel_rfl) rfl (fun _ _ _ h => h) (by rfl) ?_ (by assumption) ?_
    rotate_left
    · (intro w hSw; (try dsimp only at hSw); (try simp only [List.getElem_toArray, List.getElem_cons_zero, List.getElem_cons_succ]); go_simp; try with_reducible rfl)
    (try simp only [Act.put]); (try simp only [List.setIfInBounds_toArray]); (try simp only [List.set_cons_succ]); (try simp only [List.set_cons_zero])
    refine tkV (i := 12) (d := some 17) (v := ?_) rfl (by kernel_rfl) (by kernel_rfl) (by kernel_rfl) rfl (fun _ _ _ h => h) (by rfl) ?_ (by assumption) ?_
    rotate_left
    · (intro w hSw; (try dsimp only at hSw); (try simp only [List.getElem_toArray, List.getElem_cons_zero, List.getElem_cons_succ]); go_simp; try with_reducible rfl)
    (try simp only [Act.put]); (try simp only [List.setIfInBounds_toArray]); (try simp only [List.set_cons_succ]); (try simp only [List.set_cons_zero])
    refine wpAnyH_ready (rs := [13]) (by kernel_rfl) (by simp) (AllReadyH.cons rfl (fun K hK => ?_) AllReadyH.nil)
    try simp only [List.getElem_toArray, List.getElem_cons_zero, List.getElem_cons_succ]
    go_simp
    refine hK.out _ _ ?_ (fun hHeld6 => ?_)
    · first | exact HSo.out _ HK0.out | exact HSo.out _ (HKa.out _) | exact HSo.out _ HK2.out | exact HSo.out _ HK3.out
    clear hK K
    try simp only [Act.put]
    refine wpAnyH_done (by kernel_rfl) ?_ _
    go_end0
    exact ⟨rfl, HW.out⟩
  · try simp only [List.getElem_toArray, List.getElem_cons_zero, List.getElem_cons_succ]
    go_simp
    refine hK.out _ _ ?_ (fun hHeld3 => ?_)
    · first | exact HSo.out _ HK0.out | exact HSo.out _ (HKa.out _) | exact HSo.out _ HK2.out | exact HSo.out _ HK3.out
    clear hK K
    try simp only [Act.put, List.setIfInBounds_toArray, List.set_cons_zero, List.set_cons_succ]
    refine wpAnyH_ready (rs := [4]) (by kernel_rfl) (by simp) (AllReadyH.cons rfl (fun K hK => ?_) AllReadyH.nil)
    try simp only [List.getElem_toArray, List.getElem_cons_zero, List.getElem_cons_succ]
    go_simp
    refine hK.out _ _ ?_ (fun hHeld4 => ?_)
    · first | exact HSo.out _ HK0.out | exact HSo.out _ (HKa.out _) | exact HSo.out _ HK2.out | exact HSo.out _ HK3.out
    clear hK K
    try simp only [Act.put, List.setIfInBounds_toArray, List.set_cons_zero, List.set_cons_succ]
    refine wpAnyH_ready (rs := [10]) (by kernel_rfl) (by simp) (AllReadyH.cons rfl (fun K hK => ?_) AllReadyH.nil)
    refine step_append_own_at (by rfl) _ _ 59 (by rfl) base 71 i0 (.agg #[.bool false, .slice none 0 0, .slice none 0 0, .nilFunc]) 4 64 Tryd.underlying59 hi hz0 hz1 hz2 rfl (by decide) (.slice av cn cv) cn xs (by rfl) (World.ownsRow.alloc (w := w.drew) HV.out _) ⟨_, 0, none⟩ 1 1 [.bool nt, .slice a1 n1 c1, .slice a2 n2 c2, .func fn fx fy] (by rfl) (by rfl) (cell4_new w.drew _ _ _ _ _) (fun u hu => by simp only [List.mem_cons, List.not_mem_nil, or_false] at hu; rcases hu with rfl | rfl | rfl | rfl <;> rfl) (by unfold maxLen; omega) (by omega) (by simp; have := HRL.out; omega) ?_
    intro v2 w2 hown2 hgrow2 hat2
    have HW := hid0 (waits_of (w0 := _) hb HR.out HV.out HU.out HUL.out (((Below.refl _ _).drew).alloc (Nat.le_refl _) _) (by simp) hown2 hgrow2 hat2)
    have hR2 := rowR_grown (w0 := _) HR.out HV.out (((Below.refl _ _).drew).alloc (Nat.le_refl _) _) hgrow2
    obtain ⟨g2, cap2, rfl, hju1, hju2⟩ := own_form hown2 (Nat.succ_pos _)
    have c_R2 : w2.cell? ⟨R, 0, none⟩ = some (.slice av cn cv) := by rw [cell_of_row _ _ _ _ _ _ hR2]; rfl
    have f_R2 : w2.frozen? ⟨R, 0, none⟩ = false := frozen_of_row _ _ _ _ _ hR2
    have HK2 := hid0 (rows_grown HV.out (((Below.refl _ _).drew).alloc (Nat.le_refl _) _) hgrow2)
    have HK3 : Hid (∀ (b : Nat) c t z, w.heap[b]? = some (.cells c t z) → t ≠ 61 → t ≠ 71 → (w2.setCell ⟨R, 0, none⟩ (.slice (some ⟨g2, 0, none⟩) (cn + 1) cap2)).heap[b]? = some (.cells c t z)) := hid0 (fun b c t z e h1 h2 => row_setR hR2 0 _ (HK2.out b c t z e h1 h2) h1)
    clear hown2 hgrow2 hat2 hR2 hju1 hju2
    refine hK.out _ _ ?_ (fun hHeld5 => ?_)
    · first | exact HSo.out _ HK0.out | exact HSo.out _ (HKa.out _) | exact HSo.out _ HK2.out | exact HSo.out _ HK3.out
    clear hK K
    (try simp only [Act.put]); (try simp only [List.setIfInBounds_toArray]); (try simp only [List.set_cons_succ]); (try simp only [List.set_cons_zero])
    refine tkV (i := 11) (d := some 16) (v := ?_) rfl (by kernel_rfl) (by kernel_rfl) (by kernel_rfl) rfl (fun _ _ _ h => h) (by rfl) ?_ (by assumption) ?_
    rotate_left
    · (intro w hSw; (try dsimp only at hSw); (try simp only [List.getElem_toArray, List.getElem_cons_zero, List.getElem_cons_succ]); go_simp; try with_reducible rfl)
    (try simp only [Act.put]); (try simp only [List.setIfInBounds_toArray]); (try simp only [List.set_cons_succ]); (try simp only [List.set_cons_zero])
    refine tkV (i := 12) (d := some 17) (v := ?_) rfl (by kernel_rfl) (by kernel_rfl) (by kernel_rfl) rfl (fun _ _ _ h => h) (by rfl) ?_ (by assumption) ?_
    rotate_left
    · (intro w hSw; (try dsimp only at hSw); (try simp only [List.getElem_toArray, List.getElem_cons_zero, List.getElem_cons_succ]); go_simp; try with_reducible rfl)
    (try simp only [Act.put]); (try simp only [List.setIfInBounds_toArray]); (try simp only [List.set_cons_succ]); (try simp only [List.set_cons_zero])
    refine wpAnyH_ready (rs := [13]) (by kernel_rfl) (by simp) (AllReadyH.cons rfl (fun K hK => ?_) AllReadyH.nil)
    try simp only [List.getElem_toArray, List.getElem_cons_zero, List.getElem_cons_succ]
    go_simp
    refine hK.out _ _ ?_ (fun hHeld6 => ?_)
    · first | exact HSo.out _ HK0.out | exact HSo.out _ (HKa.out _) | exact HSo.out _ HK2.out | exact HSo.out _ HK3.out
    clear hK K
    try simp only [Act.put]
    refine wpAnyH_done (by kernel_rfl) ?_ _
    go_end0
    exact ⟨rfl, HW.out⟩
end Go.Proofs.YthfnaalbgjeaeaaDoor
