/-
  The walk of (*propfile.reading).add.
-/
import Derived.Test.YthdmhelgmejicaaGreatDoorPfFrM
import Derived.Test.YthdmhelgmejicaaGreatDoorPfSmW
import Derived.Deep.RegionLaw
import Derived.Deep.AppendLies
import Derived.Deep.RegionHeldLaw
namespace Go.Proofs.YthdmhelgmejicaaGreatDoor
open Go.RowKit Go.Shelf
theorem index_q (L : List ByteArray) (a : Option Addr) (cap : Nat) (x : ByteArray) (w : World) (hl : L.length ≤ 4194401) (ha : SA w a L) (k : Nat) :
    Calls Tryz.prog 84 #[.slice a L.length cap, .string x] (w.drewN k) fun e w' => e = .returned (.int .i64 (Lib.idxOfS L x)) ∧ w' = w.drewN k := index_any L a cap x (w.drewN k) hl ⟨ha.at'⟩
set_option maxRecDepth 10000 in
set_option maxHeartbeats 800000 in
theorem add_many (names : List ByteArray) (F : Nat → List (Int × Int)) (f : Nat → Bool) (n lo hi : Nat) (nm : ByteArray) (base R G N cap : Nat) (vN vP : Value) (vs : List Value) (A : Nat → Addr) (w : World)
    (h : RS w base R G N cap n names F f vN vP vs) (hE2 : w.cell? ⟨0, 0, none⟩ = some (errAt A 2)) (hE4 : w.cell? ⟨4, 0, none⟩ = some (errAt A 4)) (hg2 : 0 < base) (_hg4 : 4 < base)
    (hn : n ≤ 65536) (hnl : names.length ≤ 62) (hbs : base ≤ w.heap.size) (_hNm : nm.size ≤ 4194400) (_hlo : lo ≤ hi) (hh : hi < 64 * N) (hN : N ≤ 1000000)
    (hm : 65536 < n + 1 ∨ (Lib.idxOfS names nm < 0 ∧ 62 ≤ names.length)) :
    Calls Tryz.prog 48 #[.pointer (some ⟨R, 0, none⟩), .agg #[.int .i64 (lo : Int), .int .i64 (hi : Int), .string nm]] w fun e w' => Frm base R G w w' ∧ e = .returned (errAt A 2) := by
  obtain ⟨aN, cN, rfl, hsaN⟩ := h.names.sa
  have hR2 : ¬ 0 = R := fun e => by have h0 := h.cell.1; rw [← e] at h0; rw [h0] at hE2; simp [errAt] at hE2
  have hR4 : ¬ 4 = R := fun e => by have h0 := h.cell.1; rw [← e] at h0; rw [h0] at hE4; simp [errAt] at hE4
  have hG2 : ¬ 0 = G := fun e => by have h0 := (h.bit.cell 0 (by omega)).1; rw [← e] at h0; rw [h0] at hE2; simp [errAt] at hE2
  have hG4 : ¬ 4 = G := fun e => by have h0 := (h.bit.cell 0 (by omega)).1; rw [← e] at h0; rw [h0] at hE4; simp [errAt] at hE4
  obtain ⟨nc, hnc⟩ : ∃ nc : Nat, n + 1 = nc := ⟨_, rfl⟩
  have hcn : (n : Int) + 1 = (nc : Int) := by omega
  have hn0 : (0 : Int) ≤ (n : Int) := by omega
  have hn1 : (n : Int) ≤ 65536 := by omega
  have h1 := h.later ((Below.refl _ w).alloc (Nat.le_refl _) (.cells #[.int .i64 (lo : Int), .int .i64 (hi : Int), .string nm] 88))
  obtain ⟨q0, q1, q2, q3, qf⟩ := h1.cell
  have HR1 := hid0 (h1.count nc)
  have HF1 : Hid (Frm base R G w ((w.alloc (.cells #[.int .i64 (lo : Int), .int .i64 (hi : Int), .string nm] 88)).setCell ⟨R, 0, none⟩ (.int .i64 (nc : Int)))) := hid0 ((Frm.alloc w _).trans (Frm.setCell _ R 0 _ (.inl rfl)))
  have HX1 : Hid (∀ j v, (#[.int .i64 (lo : Int), .int .i64 (hi : Int), .string nm] : Array Value)[j]? = some v → ((w.alloc (.cells #[.int .i64 (lo : Int), .int .i64 (hi : Int), .string nm] 88)).setCell ⟨R, 0, none⟩ (.int .i64 (nc : Int))).cell? ⟨w.heap.size, j, none⟩ = some v) := hid0 (fun j v hv => by
    have hne : w.heap.size ≠ R := fun e => by have := h.ltR; omega
    rw [World.cell?_of_block (w := w.alloc (.cells #[.int .i64 (lo : Int), .int .i64 (hi : Int), .string nm] 88)) (a := ⟨w.heap.size, j, none⟩) (Below.heap_setCell _ _ _ w.heap.size hne), cell_of_row _ _ _ _ _ _ (heap_alloc_new w _)]
    exact hv)
  have HSz : Hid (((w.alloc (.cells #[.int .i64 (lo : Int), .int .i64 (hi : Int), .string nm] 88)).setCell ⟨R, 0, none⟩ (.int .i64 (nc : Int))).heap.size = w.heap.size + 1) := hid0 (by simp [World.setCell])
  have HBk1 : Hid (((w.alloc (.cells #[.int .i64 (lo : Int), .int .i64 (hi : Int), .string nm] 88)).setCell ⟨R, 0, none⟩ (.int .i64 (nc : Int))).heap[w.heap.size]? = some (.cells #[.int .i64 (lo : Int), .int .i64 (hi : Int), .string nm] 88 (0, 0))) := hid0 ((Below.heap_setCell _ _ _ w.heap.size (fun e => by have := h.ltR; simp at e; omega)).trans (heap_alloc_new w _))
  have HE2 := hid0 hE2
  have HE4 := hid0 hE4
  have H0 := hid0 h
  clear h h1 hE2 hE4
  go_enter Tryz.func48, Tryz.ntmps48
  go_wp2
  clear q0 q1 q2 q3 qf hsaN
  generalize (w.alloc (.cells #[.int .i64 (lo : Int), .int .i64 (hi : Int), .string nm] 88)).setCell ⟨R, 0, none⟩ (.int .i64 (nc : Int)) = W1 at HR1 HF1 HX1 HSz HBk1 ⊢
  obtain ⟨q0, q1, q2, q3, qf⟩ := HR1.out.cell
  have x0 := HX1.out 0 _ rfl
  have x1 := HX1.out 1 _ rfl
  have x2 := HX1.out 2 _ rfl
  have hsa1 : SA W1 aN names := by
    obtain ⟨a', c', e, hs⟩ := HR1.out.names.sa
    simp only [Value.slice.injEq, true_and] at e
    obtain ⟨rfl, rfl⟩ := e
    exact hs
  have HIx := hid0 (fun k => index_q names aN cN nm W1 (by omega) hsa1 k)
  have y2 : ∀ k, (W1.drewN k).cell? ⟨0, 0, none⟩ = some (errAt A 2) := fun k => (World.cell?_of_block (w := w) (w' := W1.drewN k) (a := ⟨0, 0, none⟩) (HF1.out.kept _ hg2 (World.block_lt_of_cell? w _ HE2.out) hR2 hG2)).trans HE2.out
  clear hsa1 HX1
  obtain ⟨ix, hix⟩ : ∃ ix, Lib.idxOfS names nm = ix := ⟨_, rfl⟩
  rw [hix] at HIx
  rw [hix] at hm
  unfold errAt at y2
  by_cases m1 : 65536 < nc
  · have m1I : (65536 : Int) < (nc : Int) := by omega
    go_big_quiet (first | (go_at_call 84; with_reducible exact Calls.quiet_of_same (HIx.out _)) | fail)
    go_wp2
    go_ret
    exact ⟨HF1.out.trans (Frm.drewN _ _), rfl⟩
  · have m1I : ¬ (65536 : Int) < (nc : Int) := by omega
    have m2 : ix < 0 := by omega
    have m3 : (names.length : Int) = 62 := by omega
    have m3B : ((names.length : Int) == 62) = true := by rw [m3]; rfl
    clear hm m3
    go_big_quiet (first | (go_at_call 84; with_reducible exact Calls.quiet_of_same (HIx.out _)) | fail)
    go_wp2
    go_ret
    exact ⟨HF1.out.trans (Frm.drewN _ _), rfl⟩
set_option maxRecDepth 10000 in
set_option maxHeartbeats 800000 in
theorem add_twice (names : List ByteArray) (F : Nat → List (Int × Int)) (f : Nat → Bool) (n lo hi : Nat) (nm : ByteArray) (base R G N cap : Nat) (vN vP : Value) (vs : List Value) (A : Nat → Addr) (w : World)
    (h : RS w base R G N cap n names F f vN vP vs) (hE2 : w.cell? ⟨0, 0, none⟩ = some (errAt A 2)) (hE4 : w.cell? ⟨4, 0, none⟩ = some (errAt A 4)) (hg2 : 0 < base) (hg4 : 4 < base)
    (hn : n ≤ 65536) (hnl : names.length ≤ 62) (hbs : base ≤ w.heap.size) (_hNm : nm.size ≤ 4194400) (_hlo : lo ≤ hi) (hh : hi < 64 * N) (hN : N ≤ 1000000)
    (hm : ¬ 65536 < n + 1) (hm2 : Lib.idxOfS names nm < 0 → names.length < 62) (hq : ∃ q, lo ≤ q ∧ q ≤ hi ∧ f q = true) :
    Calls Tryz.prog 48 #[.pointer (some ⟨R, 0, none⟩), .agg #[.int .i64 (lo : Int), .int .i64 (hi : Int), .string nm]] w fun e w' => Frm base R G w w' ∧ e = .returned (errAt A 4) := by
  obtain ⟨aN, cN, rfl, hsaN⟩ := h.names.sa
  have hR2 : ¬ 0 = R := fun e => by have h0 := h.cell.1; rw [← e] at h0; rw [h0] at hE2; simp [errAt] at hE2
  have hR4 : ¬ 4 = R := fun e => by have h0 := h.cell.1; rw [← e] at h0; rw [h0] at hE4; simp [errAt] at hE4
  have hG2 : ¬ 0 = G := fun e => by have h0 := (h.bit.cell 0 (by omega)).1; rw [← e] at h0; rw [h0] at hE2; simp [errAt] at hE2
  have hG4 : ¬ 4 = G := fun e => by have h0 := (h.bit.cell 0 (by omega)).1; rw [← e] at h0; rw [h0] at hE4; simp [errAt] at hE4
  obtain ⟨nc, hnc⟩ : ∃ nc : Nat, n + 1 = nc := ⟨_, rfl⟩
  have hcn : (n : Int) + 1 = (nc : Int) := by omega
  have hn0 : (0 : Int) ≤ (n : Int) := by omega
  have hn1 : (n : Int) ≤ 65536 := by omega
  have h1 := h.later ((Below.refl _ w).alloc (Nat.le_refl _) (.cells #[.int .i64 (lo : Int), .int .i64 (hi : Int), .string nm] 88))
  obtain ⟨q0, q1, q2, q3, qf⟩ := h1.cell
  have HR1 := hid0 (h1.count nc)
  have HF1 : Hid (Frm base R G w ((w.alloc (.cells #[.int .i64 (lo : Int), .int .i64 (hi : Int), .string nm] 88)).setCell ⟨R, 0, none⟩ (.int .i64 (nc : Int)))) := hid0 ((Frm.alloc w _).trans (Frm.setCell _ R 0 _ (.inl rfl)))
  have HX1 : Hid (∀ j v, (#[.int .i64 (lo : Int), .int .i64 (hi : Int), .string nm] : Array Value)[j]? = some v → ((w.alloc (.cells #[.int .i64 (lo : Int), .int .i64 (hi : Int), .string nm] 88)).setCell ⟨R, 0, none⟩ (.int .i64 (nc : Int))).cell? ⟨w.heap.size, j, none⟩ = some v) := hid0 (fun j v hv => by
    have hne : w.heap.size ≠ R := fun e => by have := h.ltR; omega
    rw [World.cell?_of_block (w := w.alloc (.cells #[.int .i64 (lo : Int), .int .i64 (hi : Int), .string nm] 88)) (a := ⟨w.heap.size, j, none⟩) (Below.heap_setCell _ _ _ w.heap.size hne), cell_of_row _ _ _ _ _ _ (heap_alloc_new w _)]
    exact hv)
  have HSz : Hid (((w.alloc (.cells #[.int .i64 (lo : Int), .int .i64 (hi : Int), .string nm] 88)).setCell ⟨R, 0, none⟩ (.int .i64 (nc : Int))).heap.size = w.heap.size + 1) := hid0 (by simp [World.setCell])
  have HBk1 : Hid (((w.alloc (.cells #[.int .i64 (lo : Int), .int .i64 (hi : Int), .string nm] 88)).setCell ⟨R, 0, none⟩ (.int .i64 (nc : Int))).heap[w.heap.size]? = some (.cells #[.int .i64 (lo : Int), .int .i64 (hi : Int), .string nm] 88 (0, 0))) := hid0 ((Below.heap_setCell _ _ _ w.heap.size (fun e => by have := h.ltR; simp at e; omega)).trans (heap_alloc_new w _))
  have HE2 := hid0 hE2
  have HE4 := hid0 hE4
  have H0 := hid0 h
  clear h h1 hE2 hE4
  go_enter Tryz.func48, Tryz.ntmps48
  go_wp2
  clear q0 q1 q2 q3 qf hsaN
  generalize (w.alloc (.cells #[.int .i64 (lo : Int), .int .i64 (hi : Int), .string nm] 88)).setCell ⟨R, 0, none⟩ (.int .i64 (nc : Int)) = W1 at HR1 HF1 HX1 HSz HBk1 ⊢
  obtain ⟨q0, q1, q2, q3, qf⟩ := HR1.out.cell
  have x0 := HX1.out 0 _ rfl
  have x1 := HX1.out 1 _ rfl
  have x2 := HX1.out 2 _ rfl
  have hsa1 : SA W1 aN names := by
    obtain ⟨a', c', e, hs⟩ := HR1.out.names.sa
    simp only [Value.slice.injEq, true_and] at e
    obtain ⟨rfl, rfl⟩ := e
    exact hs
  have HIx := hid0 (fun k => index_q names aN cN nm W1 (by omega) hsa1 k)
  have y2 : ∀ k, (W1.drewN k).cell? ⟨0, 0, none⟩ = some (errAt A 2) := fun k => (World.cell?_of_block (w := w) (w' := W1.drewN k) (a := ⟨0, 0, none⟩) (HF1.out.kept _ hg2 (World.block_lt_of_cell? w _ HE2.out) hR2 hG2)).trans HE2.out
  clear hsa1 HX1
  obtain ⟨ix, hix⟩ : ∃ ix, Lib.idxOfS names nm = ix := ⟨_, rfl⟩
  rw [hix] at HIx
  have HGc : Hid (∃ c t z, W1.heap[G]? = some (.cells c t z)) := hid0 HR1.out.bit.cells
  have m1I : ¬ (65536 : Int) < (nc : Int) := by omega
  rw [hix] at hm2
  have HMk : Hid (∀ k, Calls Tryz.prog 85 #[.pointer (some ⟨R, 0, none⟩), .agg #[.int .i64 (lo : Int), .int .i64 (hi : Int)]] (W1.drewN k) fun e w' => e = .returned (.bool false) ∧ Only (W1.drewN k) w' (fun i => i = G)) := hid0 (fun k => (mark_any lo hi R G N cap hh hN f (W1.drewN k) (HR1.out.drewN k).bit).mono (by
    rintro e w' ⟨h1, ⟨_, h2, _⟩ | ⟨h2, _⟩⟩
    · obtain ⟨q, a1, a2, a3⟩ := hq
      rw [h2 q a1 a2] at a3
      cases a3
    · exact ⟨h2, h1⟩))
  clear hq y2
  by_cases m2 : ix < 0
  · have m3B : ((names.length : Int) == 62) = false := by
      have := hm2 m2
      simp only [beq_eq_false_iff_ne, ne_eq]; omega
    clear hm2 hnl hm
    go_big_quiet (first | (go_at_call 84; with_reducible exact Calls.quiet_of_same (HIx.out _)) | fail)
    go_wp2_with (go_at_call 85; refine (HMk.out _).mono ?_; rintro e W2 ⟨rfl, hon⟩; have HF2 := hid0 (HF1.out.trans ((Frm.drewN _ _).trans (Frm.ofOnly hon HGc.out))); have y4 : W2.cell? ⟨4, 0, none⟩ = some (errAt A 4) := (World.cell?_of_block (HF2.out.kept _ hg4 (World.block_lt_of_cell? w _ HE4.out) hR4 hG4)).trans HE4.out; unfold errAt at y4; clear hon)
    go_ret
    exact ⟨HF2.out, rfl⟩
  · clear hm2 hnl hm
    go_big_quiet (first | (go_at_call 84; with_reducible exact Calls.quiet_of_same (HIx.out _)) | fail)
    go_wp2_with (go_at_call 85; refine (HMk.out _).mono ?_; rintro e W2 ⟨rfl, hon⟩; have HF2 := hid0 (HF1.out.trans ((Frm.drewN _ _).trans (Frm.ofOnly hon HGc.out))); have y4 : W2.cell? ⟨4, 0, none⟩ = some (errAt A 4) := (World.cell?_of_block (HF2.out.kept _ hg4 (World.block_lt_of_cell? w _ HE4.out) hR4 hG4)).trans HE4.out; unfold errAt at y4; clear hon)
    go_ret
    exact ⟨HF2.out, rfl⟩
end Go.Proofs.YthdmhelgmejicaaGreatDoor
