/-
  The walk of what At asks by.
-/
import Derived.Test.YtlmbbohhdgeedaaDoorOzDW
namespace Go.Proofs.YtlmbbohhdgeedaaDoor
open Go.RowKit
set_option maxRecDepth 10000 in
set_option maxHeartbeats 1600000 in
theorem askL_any (p : Pl) (x y : Int) (B C : Nat) (w : World) (h : w.cell? ⟨B, 0, none⟩ = some (.int .i64 x)) (h2 : w.cell? ⟨C, 0, none⟩ = some (.int .i64 y)) :
    Calls Tryd.prog 30 #[plV p, .pointer (some ⟨B, 0, none⟩), .pointer (some ⟨C, 0, none⟩)] w fun e w' => e = .returned (.int .i64 (sgL x y p)) ∧ Below w.heap.size w w' := by
  obtain ⟨pb, pu, pw, pl, pc⟩ := p
  have hBl : B < w.heap.size := World.block_lt_of_cell? w _ h
  have hCl : C < w.heap.size := World.block_lt_of_cell? w _ h2
  have HC := hid (fun a b W => compare_any a b W)
  have HO := hid (fun a b g c W => or_any a b g c W)
  have hsg : sgL x y ⟨pb, pu, pw, pl, pc⟩ = orI (cmpI (pl : Int) x) (cmpI (pc : Int) y) := rfl
  rw [hsg]
  unfold plV
  simp only
  clear hsg
  obtain ⟨w0, hw0⟩ : ∃ w0, w0 = w.alloc (.cells #[.int .i64 (pb : Int), .int .i64 (pu : Int), .int .i64 (pw : Int), .int .i64 (pl : Int), .int .i64 (pc : Int)] 62) := ⟨_, rfl⟩
  have hb0 : Below w.heap.size w w0 := by rw [hw0]; exact (Below.refl _ w).alloc (Nat.le_refl _) _
  have hr0 : w0.heap[w.heap.size]? = some (.cells #[.int .i64 (pb : Int), .int .i64 (pu : Int), .int .i64 (pw : Int), .int .i64 (pl : Int), .int .i64 (pc : Int)] 62 (0, 0)) := by
    rw [hw0]; exact heap_alloc_new w _
  have hz0 : w.heap.size < w0.heap.size := by rw [hw0]; simp
  have HSo : Hid (∀ V, Below w0.heap.size w0 V → V.cell? ⟨w.heap.size, 3, none⟩ = some (.int .i64 (pl : Int)) ∧ V.cell? ⟨w.heap.size, 4, none⟩ = some (.int .i64 (pc : Int)) ∧ V.cell? ⟨B, 0, none⟩ = some (.int .i64 x) ∧ V.cell? ⟨C, 0, none⟩ = some (.int .i64 y) ∧ Below w0.heap.size w0 V) := hid (fun V hV => by
    obtain ⟨⟨_, _, _, c3, c4⟩, _⟩ := row5 ((hV.block _ hz0).trans hr0)
    exact ⟨c3, c4, (hV.cell (p := ⟨B, 0, none⟩) (by show B < _; omega)).trans ((hb0.cell (p := ⟨B, 0, none⟩) hBl).trans h), (hV.cell (p := ⟨C, 0, none⟩) (by show C < _; omega)).trans ((hb0.cell (p := ⟨C, 0, none⟩) hCl).trans h2), hV⟩)
  obtain ⟨c3, c4, c5, c6, b1⟩ := HSo.out w0 (Below.refl _ _)
  have HB0 := hid hb0
  have hfold := hw0.symm
  clear hw0 hb0 hr0 h h2
  go_enter Tryd.func30, Tryd.ntmps30
  go_upto_region 1 with (fail)
  clear hfold
  go_region_held3 (fun V => V.cell? ⟨w.heap.size, 3, none⟩ = some (.int .i64 (pl : Int)) ∧ V.cell? ⟨w.heap.size, 4, none⟩ = some (.int .i64 (pc : Int)) ∧ V.cell? ⟨B, 0, none⟩ = some (.int .i64 x) ∧ V.cell? ⟨C, 0, none⟩ = some (.int .i64 y) ∧ Below w0.heap.size w0 V) (first | exact HSo.out _ (by first | (go_grown; done) | (go_grown; omega)) | (go_split_ands; exact HSo.out _ (by first | (go_grown; done) | (go_grown; omega))) | (go_split_ands; exact HSo.out _ (by assumption)))
    (first
      | (go_at_call 28; refine (HC.out _ _ _).mono ?_; rintro e w1 ⟨rfl, hw1⟩; subst hw1)
      | (go_at_call 31; refine (HO.out (cmpI (pl : Int) x) (cmpI (pc : Int) y) w0.heap.size _ _ (by simp) (by simp)).mono ?_; rintro e w1 ⟨rfl, hw1⟩; subst hw1))
  all_goals go_wp2
  all_goals
    go_ret
    have hb := HB0.out
    exact ⟨rfl, by go_grown⟩
end Go.Proofs.YtlmbbohhdgeedaaDoor
