/-
  The walk of offsets.behind.
-/
import Derived.Test.YtlmbbohhdgeedaaDoorOzAW
namespace Go.Proofs.YtlmbbohhdgeedaaDoor
open Go.RowKit
theorem i64_wrap_small (x : Int) (h0 : 0 ≤ x) (h1 : x < 9223372036854775807) : IntKind.i64.wrap x = x := by simp [IntKind.wrap, IntKind.bits, IntKind.signed]; omega
theorem set5n {w : World} {g : Nat} {a b c d e : Value} {t : TypeId} (a' b' c' d' e' : Value) (h : w.heap[g]? = some (.cells #[a, b, c, d, e] t (0, 0))) :
    (((((w.setCell ⟨g, 0, none⟩ a').setCell ⟨g, 1, none⟩ b').setCell ⟨g, 2, none⟩ c').setCell ⟨g, 3, none⟩ d').setCell ⟨g, 4, none⟩ e').heap[g]? = some (.cells #[a', b', c', d', e'] t (0, 0)) :=
  heap_setCell_same _ _ 4 _ _ e' (heap_setCell_same _ _ 3 _ _ d' (heap_setCell_same _ _ 2 _ _ c' (heap_setCell_same _ _ 1 _ _ b' (heap_setCell_same _ _ 0 _ _ a' h))))
set_option maxRecDepth 10000 in
set_option maxHeartbeats 1600000 in
theorem behind_any (pb pu pw pl pc a b : Nat) (pt : Int) (h1 : pu ≤ 100000000) (h2 : pw ≤ 200000000) (h3 : pl ≤ 100000000) (h4 : pc ≤ 100000000) (_h5 : b ≤ 100000000) (w : World) :
    Calls Tryd.prog 43 #[plV ⟨pb, pu, pw, pl, pc⟩, .agg #[.int .i64 pt, .int .i64 (a : Int), .int .i64 (b : Int)]] w fun e w' => e = .returned (plV (stP ⟨pb, pu, pw, pl, pc⟩ (pt, a, b))) ∧ Below w.heap.size w w' := by
  have hwd := wid_pos pt
  have HW := hid (fun W => width_any pt (a : Int) (b : Int) W)
  have hst : stP ⟨pb, pu, pw, pl, pc⟩ (pt, a, b) = ⟨b, pu + 1, pw + widP pt, if pt = 10 then pl + 1 else pl, if pt = 10 then 1 else pc + 1⟩ := rfl
  unfold plV
  simp only
  rw [hst]
  clear hst
  generalize widP pt = wd at *
  have hw1 : IntKind.i64.wrap ((pu : Int) + 1) = (pu : Int) + 1 := i64_wrap_small _ (by omega) (by omega)
  have hw2 : IntKind.i64.wrap ((pw : Int) + (wd : Int)) = (pw : Int) + (wd : Int) := i64_wrap_small _ (by omega) (by omega)
  have hw3 : IntKind.i64.wrap ((pc : Int) + 1) = (pc : Int) + 1 := i64_wrap_small _ (by omega) (by omega)
  have hw4 : IntKind.i64.wrap ((pl : Int) + 1) = (pl : Int) + 1 := i64_wrap_small _ (by omega) (by omega)
  obtain ⟨w0, hw0⟩ : ∃ w0, w0 = ((w.alloc (.cells #[.int .i64 (pb : Int), .int .i64 (pu : Int), .int .i64 (pw : Int), .int .i64 (pl : Int), .int .i64 (pc : Int)] 62)).alloc (.cells #[.int .i64 pt, .int .i64 (a : Int), .int .i64 (b : Int)] 28)).alloc (.cells #[.int .i64 0, .int .i64 0, .int .i64 0, .int .i64 0, .int .i64 0] 62) := ⟨_, rfl⟩
  have hb0 : Below w.heap.size w w0 := by rw [hw0]; exact (((Below.refl _ w).alloc (Nat.le_refl _) _).alloc (by simp) _).alloc (by simp; omega) _
  have hz0 : w0.heap.size = w.heap.size + 3 := by rw [hw0]; simp
  have hr2 : w0.heap[w.heap.size + 2]? = some (.cells #[.int .i64 0, .int .i64 0, .int .i64 0, .int .i64 0, .int .i64 0] 62 (0, 0)) := by
    rw [hw0]
    have h := heap_alloc_new ((w.alloc (.cells #[.int .i64 (pb : Int), .int .i64 (pu : Int), .int .i64 (pw : Int), .int .i64 (pl : Int), .int .i64 (pc : Int)] 62)).alloc (.cells #[.int .i64 pt, .int .i64 (a : Int), .int .i64 (b : Int)] 28)) (.cells #[.int .i64 0, .int .i64 0, .int .i64 0, .int .i64 0, .int .i64 0] 62)
    simpa using h
  have hr1 : w0.heap[w.heap.size + 1]? = some (.cells #[.int .i64 pt, .int .i64 (a : Int), .int .i64 (b : Int)] 28 (0, 0)) := by
    rw [hw0]
    have h := heap_alloc_new (w.alloc (.cells #[.int .i64 (pb : Int), .int .i64 (pu : Int), .int .i64 (pw : Int), .int .i64 (pl : Int), .int .i64 (pc : Int)] 62)) (.cells #[.int .i64 pt, .int .i64 (a : Int), .int .i64 (b : Int)] 28)
    refine (Below.heap_alloc _ _ _ (by simp)).trans ?_
    simpa using h
  have hr0 : w0.heap[w.heap.size]? = some (.cells #[.int .i64 (pb : Int), .int .i64 (pu : Int), .int .i64 (pw : Int), .int .i64 (pl : Int), .int .i64 (pc : Int)] 62 (0, 0)) := by
    rw [hw0]
    exact (Below.heap_alloc _ _ _ (by simp; omega)).trans ((Below.heap_alloc _ _ _ (by simp)).trans (heap_alloc_new w _))
  have HSo : Hid (∀ V, Below w0.heap.size w0 V → V.cell? ⟨w.heap.size, 1, none⟩ = some (.int .i64 (pu : Int)) ∧ V.cell? ⟨w.heap.size, 2, none⟩ = some (.int .i64 (pw : Int)) ∧ V.cell? ⟨w.heap.size, 3, none⟩ = some (.int .i64 (pl : Int)) ∧ V.cell? ⟨w.heap.size, 4, none⟩ = some (.int .i64 (pc : Int)) ∧ V.cell? ⟨w.heap.size + 1, 0, none⟩ = some (.int .i64 pt) ∧ V.cell? ⟨w.heap.size + 1, 1, none⟩ = some (.int .i64 (a : Int)) ∧ V.cell? ⟨w.heap.size + 1, 2, none⟩ = some (.int .i64 (b : Int)) ∧ Below w0.heap.size w0 V) := hid (fun V hV => by
    obtain ⟨⟨_, c1, c2, c3, c4⟩, _⟩ := row5 ((hV.block _ (Array.getElem?_eq_some_iff.1 hr0).1).trans hr0)
    obtain ⟨⟨d0, d1, d2⟩, _⟩ := row3 ((hV.block _ (Array.getElem?_eq_some_iff.1 hr1).1).trans hr1)
    exact ⟨c1, c2, c3, c4, d0, d1, d2, hV⟩)
  obtain ⟨c1, c2, c3, c4, d0, d1, d2, b1⟩ := HSo.out w0 (Below.refl _ _)
  have HR2 := hid hr2
  have HB0 := hid hb0
  have hfold := hw0.symm
  clear hw0 hr0 hr1 hr2 hb0
  go_enter Tryd.func43, Tryd.ntmps43
  go_upto_region 1 with (fail)
  clear hfold
  go_region_held3 (fun V => V.cell? ⟨w.heap.size, 1, none⟩ = some (.int .i64 (pu : Int)) ∧ V.cell? ⟨w.heap.size, 2, none⟩ = some (.int .i64 (pw : Int)) ∧ V.cell? ⟨w.heap.size, 3, none⟩ = some (.int .i64 (pl : Int)) ∧ V.cell? ⟨w.heap.size, 4, none⟩ = some (.int .i64 (pc : Int)) ∧ V.cell? ⟨w.heap.size + 1, 0, none⟩ = some (.int .i64 pt) ∧ V.cell? ⟨w.heap.size + 1, 1, none⟩ = some (.int .i64 (a : Int)) ∧ V.cell? ⟨w.heap.size + 1, 2, none⟩ = some (.int .i64 (b : Int)) ∧ Below w0.heap.size w0 V) (first | exact HSo.out _ (by first | (go_grown; done) | (go_grown; omega)) | (go_split_ands; exact HSo.out _ (by first | (go_grown; done) | (go_grown; omega))) | (go_split_ands; exact HSo.out _ (by assumption)))
    (first
      | (go_at_call 54; refine (HW.out _).mono ?_; rintro e w1 ⟨rfl, hw1⟩; subst hw1))
  · have hB1 : Below w0.heap.size w0 (((w0.alloc (.cells #[.int .i64 pt, .int .i64 (a : Int), .int .i64 (b : Int)] 28)).alloc (.cells #[.int .i64 (b : Int), .int .i64 ((pu : Int) + 1), .int .i64 ((pw : Int) + (wd : Int)), .int .i64 (pl : Int), .int .i64 ((pc : Int) + 1)] 62)).drew) := (((Below.refl _ w0).alloc (Nat.le_refl _) _).alloc (by simp) _).drew
    have hQ : (((w0.alloc (.cells #[.int .i64 pt, .int .i64 (a : Int), .int .i64 (b : Int)] 28)).alloc (.cells #[.int .i64 (b : Int), .int .i64 ((pu : Int) + 1), .int .i64 ((pw : Int) + (wd : Int)), .int .i64 (pl : Int), .int .i64 ((pc : Int) + 1)] 62)).drew).heap[w.heap.size + 3 + 1]? = some (.cells #[.int .i64 (b : Int), .int .i64 ((pu : Int) + 1), .int .i64 ((pw : Int) + (wd : Int)), .int .i64 (pl : Int), .int .i64 ((pc : Int) + 1)] 62 (0, 0)) := by
      show ((w0.alloc (.cells #[.int .i64 pt, .int .i64 (a : Int), .int .i64 (b : Int)] 28)).alloc (.cells #[.int .i64 (b : Int), .int .i64 ((pu : Int) + 1), .int .i64 ((pw : Int) + (wd : Int)), .int .i64 (pl : Int), .int .i64 ((pc : Int) + 1)] 62)).heap[w.heap.size + 3 + 1]? = _
      simpa [hz0] using heap_alloc_new (w0.alloc (.cells #[.int .i64 pt, .int .i64 (a : Int), .int .i64 (b : Int)] 28)) (.cells #[.int .i64 (b : Int), .int .i64 ((pu : Int) + 1), .int .i64 ((pw : Int) + (wd : Int)), .int .i64 (pl : Int), .int .i64 ((pc : Int) + 1)] 62)
    generalize ((w0.alloc (.cells #[.int .i64 pt, .int .i64 (a : Int), .int .i64 (b : Int)] 28)).alloc (.cells #[.int .i64 (b : Int), .int .i64 ((pu : Int) + 1), .int .i64 ((pw : Int) + (wd : Int)), .int .i64 (pl : Int), .int .i64 ((pc : Int) + 1)] 62)).drew = w5 at *
    obtain ⟨⟨q0, q1, q2, q3, q4⟩, q5, q6, q7, q8, q9⟩ := row5 hQ
    obtain ⟨e1, e2, e3, e4, f0, f1, f2, _⟩ := HSo.out w5 hB1
    have HR5 : Hid (w5.heap[w.heap.size + 2]? = _) := (hB1.block _ (Array.getElem?_eq_some_iff.1 HR2.out).1).trans HR2.out
    obtain ⟨⟨r0, r1, r2, r3, r4⟩, s0, s1, s2, s3, s4⟩ := row5 HR5.out
    have HBE : Hid (Below w.heap.size w w5) := HB0.out.trans (hB1.mono HB0.out.size)
    clear c1 c2 c3 c4 d0 d1 d2 b1 hB1 HW HSo HB0 HR2
    by_cases h10 : pt = 10
    · subst h10
      go_wp2
      (try simp only [Exit.inBlock, Exit.then])
      refine bodyPost_ret (results_cell_row rfl _ _ (w.heap.size + 2) 62 _ (0, 0) _ rfl (set5n _ _ _ _ _ ((Below.heap_setCell _ _ _ _ (by simp)).trans ((Below.heap_setCell _ _ _ _ (by simp)).trans HR5.out))) Tryd.underlying62 rfl (by kernel_rfl)) rfl ?_
      exact ⟨rfl, ((((((HBE.out.setCell (p := ⟨_, 3, none⟩) (by first | (simp; done) | (simp; omega)) _).setCell (p := ⟨_, 4, none⟩) (by first | (simp; done) | (simp; omega)) _).setCell (p := ⟨_, 0, none⟩) (by first | (simp; done) | (simp; omega)) _).setCell (p := ⟨_, 1, none⟩) (by first | (simp; done) | (simp; omega)) _).setCell (p := ⟨_, 2, none⟩) (by first | (simp; done) | (simp; omega)) _).setCell (p := ⟨_, 3, none⟩) (by first | (simp; done) | (simp; omega)) _).setCell (p := ⟨_, 4, none⟩) (by first | (simp; done) | (simp; omega)) _⟩
    · have h10b : (pt == 10) = false := by simpa using h10
      go_wp2
      (try simp only [Exit.inBlock, Exit.then])
      refine bodyPost_ret (results_cell_row rfl _ _ (w.heap.size + 2) 62 _ (0, 0) _ rfl (set5n _ _ _ _ _ HR5.out) Tryd.underlying62 rfl (by kernel_rfl)) rfl ?_
      exact ⟨rfl, ((((HBE.out.setCell (p := ⟨_, 0, none⟩) (by first | (simp; done) | (simp; omega)) _).setCell (p := ⟨_, 1, none⟩) (by first | (simp; done) | (simp; omega)) _).setCell (p := ⟨_, 2, none⟩) (by first | (simp; done) | (simp; omega)) _).setCell (p := ⟨_, 3, none⟩) (by first | (simp; done) | (simp; omega)) _).setCell (p := ⟨_, 4, none⟩) (by first | (simp; done) | (simp; omega)) _⟩
  · have hB1 : Below w0.heap.size w0 (((w0.alloc (.cells #[.int .i64 (b : Int), .int .i64 ((pu : Int) + 1), .int .i64 ((pw : Int) + (wd : Int)), .int .i64 (pl : Int), .int .i64 ((pc : Int) + 1)] 62)).alloc (.cells #[.int .i64 pt, .int .i64 (a : Int), .int .i64 (b : Int)] 28)).drew) := (((Below.refl _ w0).alloc (Nat.le_refl _) _).alloc (by simp) _).drew
    have hQ : (((w0.alloc (.cells #[.int .i64 (b : Int), .int .i64 ((pu : Int) + 1), .int .i64 ((pw : Int) + (wd : Int)), .int .i64 (pl : Int), .int .i64 ((pc : Int) + 1)] 62)).alloc (.cells #[.int .i64 pt, .int .i64 (a : Int), .int .i64 (b : Int)] 28)).drew).heap[w.heap.size + 3]? = some (.cells #[.int .i64 (b : Int), .int .i64 ((pu : Int) + 1), .int .i64 ((pw : Int) + (wd : Int)), .int .i64 (pl : Int), .int .i64 ((pc : Int) + 1)] 62 (0, 0)) := by
      show ((w0.alloc (.cells #[.int .i64 (b : Int), .int .i64 ((pu : Int) + 1), .int .i64 ((pw : Int) + (wd : Int)), .int .i64 (pl : Int), .int .i64 ((pc : Int) + 1)] 62)).alloc (.cells #[.int .i64 pt, .int .i64 (a : Int), .int .i64 (b : Int)] 28)).heap[w.heap.size + 3]? = _
      exact (Below.heap_alloc _ _ _ (by simp [hz0])).trans (by simpa [hz0] using heap_alloc_new w0 (.cells #[.int .i64 (b : Int), .int .i64 ((pu : Int) + 1), .int .i64 ((pw : Int) + (wd : Int)), .int .i64 (pl : Int), .int .i64 ((pc : Int) + 1)] 62))
    generalize ((w0.alloc (.cells #[.int .i64 (b : Int), .int .i64 ((pu : Int) + 1), .int .i64 ((pw : Int) + (wd : Int)), .int .i64 (pl : Int), .int .i64 ((pc : Int) + 1)] 62)).alloc (.cells #[.int .i64 pt, .int .i64 (a : Int), .int .i64 (b : Int)] 28)).drew = w5 at *
    obtain ⟨⟨q0, q1, q2, q3, q4⟩, q5, q6, q7, q8, q9⟩ := row5 hQ
    obtain ⟨e1, e2, e3, e4, f0, f1, f2, _⟩ := HSo.out w5 hB1
    have HR5 : Hid (w5.heap[w.heap.size + 2]? = _) := (hB1.block _ (Array.getElem?_eq_some_iff.1 HR2.out).1).trans HR2.out
    obtain ⟨⟨r0, r1, r2, r3, r4⟩, s0, s1, s2, s3, s4⟩ := row5 HR5.out
    have HBE : Hid (Below w.heap.size w w5) := HB0.out.trans (hB1.mono HB0.out.size)
    clear c1 c2 c3 c4 d0 d1 d2 b1 hB1 HW HSo HB0 HR2
    by_cases h10 : pt = 10
    · subst h10
      go_wp2
      (try simp only [Exit.inBlock, Exit.then])
      refine bodyPost_ret (results_cell_row rfl _ _ (w.heap.size + 2) 62 _ (0, 0) _ rfl (set5n _ _ _ _ _ ((Below.heap_setCell _ _ _ _ (by simp)).trans ((Below.heap_setCell _ _ _ _ (by simp)).trans HR5.out))) Tryd.underlying62 rfl (by kernel_rfl)) rfl ?_
      exact ⟨rfl, ((((((HBE.out.setCell (p := ⟨_, 3, none⟩) (by first | (simp; done) | (simp; omega)) _).setCell (p := ⟨_, 4, none⟩) (by first | (simp; done) | (simp; omega)) _).setCell (p := ⟨_, 0, none⟩) (by first | (simp; done) | (simp; omega)) _).setCell (p := ⟨_, 1, none⟩) (by first | (simp; done) | (simp; omega)) _).setCell (p := ⟨_, 2, none⟩) (by first | (simp; done) | (simp; omega)) _).setCell (p := ⟨_, 3, none⟩) (by first | (simp; done) | (simp; omega)) _).setCell (p := ⟨_, 4, none⟩) (by first | (simp; done) | (simp; omega)) _⟩
    · have h10b : (pt == 10) = false := by simpa using h10
      go_wp2
      (try simp only [Exit.inBlock, Exit.then])
      refine bodyPost_ret (results_cell_row rfl _ _ (w.heap.size + 2) 62 _ (0, 0) _ rfl (set5n _ _ _ _ _ HR5.out) Tryd.underlying62 rfl (by kernel_rfl)) rfl ?_
      exact ⟨rfl, ((((HBE.out.setCell (p := ⟨_, 0, none⟩) (by first | (simp; done) | (simp; omega)) _).setCell (p := ⟨_, 1, none⟩) (by first | (simp; done) | (simp; omega)) _).setCell (p := ⟨_, 2, none⟩) (by first | (simp; done) | (simp; omega)) _).setCell (p := ⟨_, 3, none⟩) (by first | (simp; done) | (simp; omega)) _).setCell (p := ⟨_, 4, none⟩) (by first | (simp; done) | (simp; omega)) _⟩
end Go.Proofs.YtlmbbohhdgeedaaDoor
