/-
  The walks of what the program's maps are asked.
-/
import Derived.Test.YtlmbbohhdgeedaaDoorOzGW
import Derived.Test.YtlmbbohhdgeedaaDoorOzEW
namespace Go.Proofs.YtlmbbohhdgeedaaDoor
open Go.RowKit
/-- What a map's questions want of the world. -/
structure AskI (w : World) (B : Nat) (L : List Pl) (pe : Addr) : Prop where
  map : MapAt w B L
  err : w.cell? ⟨0, 0, none⟩ = some (.iface 107 (.pointer (some pe)))
theorem AskI.later {w w' : World} {B : Nat} {L : List Pl} {pe : Addr} (h : AskI w B L pe) (hb : Below w.heap.size w w') : AskI w' B L pe :=
  ⟨h.map.later hb, (hb.cell (p := ⟨0, 0, none⟩) (World.block_lt_of_cell? w _ h.err)).trans h.err⟩
theorem entedge : ∀ args w, (callFunc 46 args).run Tryd.prog w = .ok (.enter 46 args) w := enters_of Tryd.func46 (by kernel_rfl) rfl
theorem entByte : ∀ args w, (callFunc 27 args).run Tryd.prog w = .ok (.enter 27 args) w := enters_of Tryd.func27 (by kernel_rfl) rfl
theorem entNarrow : ∀ args w, (callFunc 29 args).run Tryd.prog w = .ok (.enter 29 args) w := enters_of Tryd.func29 (by kernel_rfl) rfl
theorem entAt : ∀ args w, (callFunc 30 args).run Tryd.prog w = .ok (.enter 30 args) w := enters_of Tryd.func30 (by kernel_rfl) rfl
set_option maxRecDepth 10000 in
set_option maxHeartbeats 800000 in
theorem edge_any (l : List UInt8) (hL : (allP l).length ≤ 10000000) (B : Nat) (x : Int) (pe : Addr) (w : World) (hM : AskI w B (allP l) pe) :
    Calls Tryd.prog 25 #[.pointer (some ⟨B, 0, none⟩), .int .i64 x] w fun e w' => e = .returned (.tuple #[plV (getP (hit (sgB x) (allP l))), errV pe (hit (sgB x) (allP l))]) ∧ Below w.heap.size w w' := by
  obtain ⟨w1, hw1⟩ : ∃ w1, w1 = ((w.alloc (.cells #[.int .i64 x] 3)).alloc (.cells #[.int .i64 0, .int .i64 0, .int .i64 0, .int .i64 0, .int .i64 0] 62)) := ⟨_, rfl⟩
  have hb1 : Below w.heap.size w w1 := by rw [hw1]; exact (((Below.refl _ w).alloc (Nat.le_refl _) _).alloc (by simp) _)
  have hM1 := hM.later hb1
  have hsz1 := hb1.size
  obtain ⟨⟨a, cap, hc0, _⟩, _⟩ := hM
  have hBl : B < w.heap.size := World.block_lt_of_cell? w _ hc0
  obtain ⟨⟨a', cap', hc1, hA1⟩, hE1⟩ := hM1
  have hcx : w1.cell? ⟨w.heap.size, 0, none⟩ = some (.int .i64 x) := by rw [hw1]; simp
  have hro : w1.heap[w.heap.size + 1]? = some (.cells #[.int .i64 0, .int .i64 0, .int .i64 0, .int .i64 0, .int .i64 0] 62 (0, 0)) := by
    rw [hw1]
    have h := heap_alloc_new (w.alloc (.cells #[.int .i64 x] 3)) (.cells #[.int .i64 0, .int .i64 0, .int .i64 0, .int .i64 0, .int .i64 0] 62)
    simpa using h
  have HRo := hid hro
  have HF := hid (find_any 46 #[.pointer (some ⟨w.heap.size, 0, none⟩)] (sgB x) (allP l) (risB l x) hL entedge a' cap' pe w1 hA1 hE1 (fun p W hW => askB_any p x w.heap.size W ((hW.cell (p := ⟨w.heap.size, 0, none⟩) (World.block_lt_of_cell? w1 _ hcx)).trans hcx)))
  have HB := hid hb1
  have hfold := hw1.symm
  clear hw1 hb1 hA1 hE1
  generalize allP l = L at *
  generalize hit (sgB x) L = o at *
  generalize errV pe o = ev at *
  generalize getP o = P at *
  obtain ⟨pb, pu, pw, pl, pc⟩ := P
  unfold plV at HF ⊢
  simp only at HF
  simp only
  go_enter Tryd.func25, Tryd.ntmps25
  go_wp2_with (first
    | (go_at_call 26; (try rw [hfold]); refine HF.out.mono ?_; rintro e w2 ⟨rfl, hb2⟩; have hsz2 := hb2.size; have HB2 := hid hb2; clear hb2; have HR2 : Hid (w2.heap[w.heap.size + 1]? = _) := hid ((HB2.out.block _ (Array.getElem?_eq_some_iff.1 HRo.out).1).trans HRo.out); obtain ⟨⟨z0, z1, z2, z3, z4⟩, f0, f1, f2, f3, f4⟩ := row5 HR2.out)
    | fail)
  (try simp only [Exit.inBlock, Exit.then])
  refine bodyPost_ret (ret_row rfl _ _ (w.heap.size + 1) 62 _ _ _ rfl (set5n _ _ _ _ _ HR2.out) Tryd.underlying62 rfl (by kernel_rfl) rfl) rfl ?_
  have hb := HB.out.trans (HB2.out.mono hsz1)
  exact ⟨rfl, by go_grown⟩

set_option maxRecDepth 10000 in
set_option maxHeartbeats 800000 in
theorem byte_any (l : List UInt8) (hL : (allP l).length ≤ 10000000) (B : Nat) (x : Int) (pe : Addr) (w : World) (hM : AskI w B (allP l) pe) :
    Calls Tryd.prog 12 #[.pointer (some ⟨B, 0, none⟩), .int .i64 x] w fun e w' => e = .returned (.tuple #[.int .i64 ((getP (hit (sgU x) (allP l))).b : Int), errV pe (hit (sgU x) (allP l))]) ∧ Below w.heap.size w w' := by
  obtain ⟨w1, hw1⟩ : ∃ w1, w1 = (w.alloc (.cells #[.int .i64 x] 3)) := ⟨_, rfl⟩
  have hb1 : Below w.heap.size w w1 := by rw [hw1]; exact ((Below.refl _ w).alloc (Nat.le_refl _) _)
  have hM1 := hM.later hb1
  have hsz1 := hb1.size
  obtain ⟨⟨a, cap, hc0, _⟩, _⟩ := hM
  have hBl : B < w.heap.size := World.block_lt_of_cell? w _ hc0
  obtain ⟨⟨a', cap', hc1, hA1⟩, hE1⟩ := hM1
  have hcx : w1.cell? ⟨w.heap.size, 0, none⟩ = some (.int .i64 x) := by rw [hw1]; simp
  have HF := hid (find_any 27 #[.pointer (some ⟨w.heap.size, 0, none⟩)] (sgU x) (allP l) (risU l x) hL entByte a' cap' pe w1 hA1 hE1 (fun p W hW => askU_any p x w.heap.size W ((hW.cell (p := ⟨w.heap.size, 0, none⟩) (World.block_lt_of_cell? w1 _ hcx)).trans hcx)))
  have HB := hid hb1
  have hfold := hw1.symm
  clear hw1 hb1 hA1 hE1
  generalize allP l = L at *
  generalize hit (sgU x) L = o at *
  generalize errV pe o = ev at *
  generalize getP o = P at *
  obtain ⟨pb, pu, pw, pl, pc⟩ := P
  unfold plV at HF
  simp only at HF
  go_enter Tryd.func12, Tryd.ntmps12
  go_wp2_with (first
    | (go_at_call 26; (try rw [hfold]); refine HF.out.mono ?_; rintro e w2 ⟨rfl, hb2⟩; have hsz2 := hb2.size; have HB2 := hid hb2; clear hb2)
    | fail)
  go_ret2
  have hb := HB.out.trans (HB2.out.mono hsz1)
  exact ⟨rfl, hb.alloc (by omega) _⟩

set_option maxRecDepth 10000 in
set_option maxHeartbeats 800000 in
theorem narrow_any (l : List UInt8) (hL : (allP l).length ≤ 10000000) (B : Nat) (x : Int) (pe : Addr) (w : World) (hM : AskI w B (allP l) pe) :
    Calls Tryd.prog 13 #[.pointer (some ⟨B, 0, none⟩), .int .i64 x] w fun e w' => e = .returned (.tuple #[.int .i64 ((getP (hit (sgW x) (allP l))).b : Int), errV pe (hit (sgW x) (allP l))]) ∧ Below w.heap.size w w' := by
  obtain ⟨w1, hw1⟩ : ∃ w1, w1 = (w.alloc (.cells #[.int .i64 x] 3)) := ⟨_, rfl⟩
  have hb1 : Below w.heap.size w w1 := by rw [hw1]; exact ((Below.refl _ w).alloc (Nat.le_refl _) _)
  have hM1 := hM.later hb1
  have hsz1 := hb1.size
  obtain ⟨⟨a, cap, hc0, _⟩, _⟩ := hM
  have hBl : B < w.heap.size := World.block_lt_of_cell? w _ hc0
  obtain ⟨⟨a', cap', hc1, hA1⟩, hE1⟩ := hM1
  have hcx : w1.cell? ⟨w.heap.size, 0, none⟩ = some (.int .i64 x) := by rw [hw1]; simp
  have HF := hid (find_any 29 #[.pointer (some ⟨w.heap.size, 0, none⟩)] (sgW x) (allP l) (risW l x) hL entNarrow a' cap' pe w1 hA1 hE1 (fun p W hW => askW_any p x w.heap.size W ((hW.cell (p := ⟨w.heap.size, 0, none⟩) (World.block_lt_of_cell? w1 _ hcx)).trans hcx)))
  have HB := hid hb1
  have hfold := hw1.symm
  clear hw1 hb1 hA1 hE1
  generalize allP l = L at *
  generalize hit (sgW x) L = o at *
  generalize errV pe o = ev at *
  generalize getP o = P at *
  obtain ⟨pb, pu, pw, pl, pc⟩ := P
  unfold plV at HF
  simp only at HF
  go_enter Tryd.func13, Tryd.ntmps13
  go_wp2_with (first
    | (go_at_call 26; (try rw [hfold]); refine HF.out.mono ?_; rintro e w2 ⟨rfl, hb2⟩; have hsz2 := hb2.size; have HB2 := hid hb2; clear hb2)
    | fail)
  go_ret2
  have hb := HB.out.trans (HB2.out.mono hsz1)
  exact ⟨rfl, hb.alloc (by omega) _⟩

set_option maxRecDepth 10000 in
set_option maxHeartbeats 800000 in
theorem at_any (l : List UInt8) (hL : (allP l).length ≤ 10000000) (B : Nat) (x y : Int) (pe : Addr) (w : World) (hM : AskI w B (allP l) pe) :
    Calls Tryd.prog 14 #[.pointer (some ⟨B, 0, none⟩), .int .i64 x, .int .i64 y] w fun e w' => e = .returned (.tuple #[.int .i64 ((getP (hit (sgL x y) (allP l))).b : Int), errV pe (hit (sgL x y) (allP l))]) ∧ Below w.heap.size w w' := by
  obtain ⟨w1, hw1⟩ : ∃ w1, w1 = ((w.alloc (.cells #[.int .i64 x] 3)).alloc (.cells #[.int .i64 y] 3)) := ⟨_, rfl⟩
  have hb1 : Below w.heap.size w w1 := by rw [hw1]; exact (((Below.refl _ w).alloc (Nat.le_refl _) _).alloc (by simp) _)
  have hM1 := hM.later hb1
  have hsz1 := hb1.size
  obtain ⟨⟨a, cap, hc0, _⟩, _⟩ := hM
  have hBl : B < w.heap.size := World.block_lt_of_cell? w _ hc0
  obtain ⟨⟨a', cap', hc1, hA1⟩, hE1⟩ := hM1
  have hcx : w1.cell? ⟨w.heap.size, 0, none⟩ = some (.int .i64 x) := by rw [hw1]; simp
  have hcy : w1.cell? ⟨w.heap.size + 1, 0, none⟩ = some (.int .i64 y) := by rw [hw1]; simp
  have HF := hid (find_any 30 #[.pointer (some ⟨w.heap.size, 0, none⟩), .pointer (some ⟨w.heap.size + 1, 0, none⟩)] (sgL x y) (allP l) (risL l x y) hL entAt a' cap' pe w1 hA1 hE1 (fun p W hW => askL_any p x y w.heap.size (w.heap.size + 1) W ((hW.cell (p := ⟨w.heap.size, 0, none⟩) (World.block_lt_of_cell? w1 _ hcx)).trans hcx) ((hW.cell (p := ⟨w.heap.size + 1, 0, none⟩) (World.block_lt_of_cell? w1 _ hcy)).trans hcy)))
  have HB := hid hb1
  have hfold := hw1.symm
  clear hw1 hb1 hA1 hE1
  generalize allP l = L at *
  generalize hit (sgL x y) L = o at *
  generalize errV pe o = ev at *
  generalize getP o = P at *
  obtain ⟨pb, pu, pw, pl, pc⟩ := P
  unfold plV at HF
  simp only at HF
  go_enter Tryd.func14, Tryd.ntmps14
  go_wp2_with (first
    | (go_at_call 26; (try rw [hfold]); refine HF.out.mono ?_; rintro e w2 ⟨rfl, hb2⟩; have hsz2 := hb2.size; have HB2 := hid hb2; clear hb2)
    | fail)
  go_ret2
  have hb := HB.out.trans (HB2.out.mono hsz1)
  exact ⟨rfl, hb.alloc (by omega) _⟩

set_option maxRecDepth 10000 in
set_option maxHeartbeats 400000 in
theorem unitM_any (l : List UInt8) (hL : (allP l).length ≤ 10000000) (B : Nat) (x : Int) (pe : Addr) (w : World) (hM : AskI w B (allP l) pe) :
    Calls Tryd.prog 9 #[.pointer (some ⟨B, 0, none⟩), .int .i64 x] w fun e w' => e = .returned (.tuple #[.int .i64 ((getP (hit (sgB x) (allP l))).u : Int), errV pe (hit (sgB x) (allP l))]) ∧ Below w.heap.size w w' := by
  have HE := hid (edge_any l hL B x pe w hM)
  clear hM
  generalize hit (sgB x) (allP l) = o at *
  generalize errV pe o = n at *
  generalize getP o = P at *
  obtain ⟨pb, pu, pw, pl, pc⟩ := P
  unfold plV at HE
  simp only at HE
  go_enter Tryd.func9, Tryd.ntmps9
  go_wp2_with (first
    | (go_at_call 25; refine HE.out.mono ?_; rintro e w1 ⟨rfl, hb⟩; have hsz := hb.size)
    | fail)
  go_ret2
  exact ⟨rfl, by go_grown⟩

set_option maxRecDepth 10000 in
set_option maxHeartbeats 400000 in
theorem wideM_any (l : List UInt8) (hL : (allP l).length ≤ 10000000) (B : Nat) (x : Int) (pe : Addr) (w : World) (hM : AskI w B (allP l) pe) :
    Calls Tryd.prog 10 #[.pointer (some ⟨B, 0, none⟩), .int .i64 x] w fun e w' => e = .returned (.tuple #[.int .i64 ((getP (hit (sgB x) (allP l))).w : Int), errV pe (hit (sgB x) (allP l))]) ∧ Below w.heap.size w w' := by
  have HE := hid (edge_any l hL B x pe w hM)
  clear hM
  generalize hit (sgB x) (allP l) = o at *
  generalize errV pe o = n at *
  generalize getP o = P at *
  obtain ⟨pb, pu, pw, pl, pc⟩ := P
  unfold plV at HE
  simp only at HE
  go_enter Tryd.func10, Tryd.ntmps10
  go_wp2_with (first
    | (go_at_call 25; refine HE.out.mono ?_; rintro e w1 ⟨rfl, hb⟩; have hsz := hb.size)
    | fail)
  go_ret2
  exact ⟨rfl, by go_grown⟩

set_option maxRecDepth 10000 in
set_option maxHeartbeats 400000 in
theorem lineM_any (l : List UInt8) (hL : (allP l).length ≤ 10000000) (B : Nat) (x : Int) (pe : Addr) (w : World) (hM : AskI w B (allP l) pe) :
    Calls Tryd.prog 11 #[.pointer (some ⟨B, 0, none⟩), .int .i64 x] w fun e w' => e = .returned (.tuple #[.int .i64 ((getP (hit (sgB x) (allP l))).l : Int), .int .i64 ((getP (hit (sgB x) (allP l))).c : Int), errV pe (hit (sgB x) (allP l))]) ∧ Below w.heap.size w w' := by
  have HE := hid (edge_any l hL B x pe w hM)
  clear hM
  generalize hit (sgB x) (allP l) = o at *
  generalize errV pe o = n at *
  generalize getP o = P at *
  obtain ⟨pb, pu, pw, pl, pc⟩ := P
  unfold plV at HE
  simp only at HE
  go_enter Tryd.func11, Tryd.ntmps11
  go_wp2_with (first
    | (go_at_call 25; refine HE.out.mono ?_; rintro e w1 ⟨rfl, hb⟩; have hsz := hb.size)
    | fail)
  go_quiet (fail)
  all_goals go_wp2
  all_goals
    go_ret3
    exact ⟨rfl, belowDN (hb.alloc hsz _) _⟩
end Go.Proofs.YtlmbbohhdgeedaaDoor
