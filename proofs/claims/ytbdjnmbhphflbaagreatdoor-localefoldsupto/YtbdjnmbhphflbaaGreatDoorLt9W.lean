/-
  The walks of bundle's hasSection, countEdits, checkSection, Check at one bare section; locale's isTag.
-/
import Derived.Test.YtbdjnmbhphflbaaGreatDoorLt8W
namespace Go.Proofs.YtbdjnmbhphflbaaGreatDoor
open Go.RowKit Go.Shelf Go.Lib
set_option maxRecDepth 10000 in
set_option maxHeartbeats 400000 in
theorem indexNone (a : Option Addr) (c : Nat) (f : Value) (w : World) : Calls Tryz.prog 49 #[.slice a 0 c, f] w fun e w' => e = .returned (.int .i64 (-1)) ∧ w' = w := by
  go_enter Tryz.func49, Tryz.ntmps49
  go_wp2
  go_loopw [8] (fun i wr => i = .int .i64 0 ∧ wr = w) (fun _ _ => 0)
  case atStart => exact ⟨rfl, rfl⟩
  case round =>
    obtain ⟨rfl, rfl⟩ := hrel
    go_wp2
    go_ret
    exact ⟨rfl, rfl⟩
set_option maxRecDepth 10000 in
set_option maxHeartbeats 400000 in
theorem containsNone (a : Option Addr) (c : Nat) (f : Value) (w : World) : Calls Tryz.prog 69 #[.slice a 0 c, f] w fun e w' => e = .returned (.bool false) ∧ w' = w := by
  have H := hid0 (indexNone a c f w)
  go_enter Tryz.func69, Tryz.ntmps69
  go_wp2_with (go_at_call 49; refine H.out.mono ?_; rintro e w1 ⟨rfl, rfl⟩)
  go_ret
  exact ⟨rfl, rfl⟩
set_option maxRecDepth 10000 in
set_option maxHeartbeats 400000 in
theorem hasNone (a : Option Addr) (c : Nat) (s : ByteArray) (w : World) : Calls Tryz.prog 53 #[.slice a 0 c, .string s] w fun e w' => e = .returned (.bool false) ∧ Below w.heap.size w w' := by
  have H := hid0 (containsNone a c)
  have HB : Hid (Below w.heap.size w (w.alloc (.cells #[.string s] 9))) := hid0 ((Below.refl _ _).alloc (Nat.le_refl _) _)
  go_enter Tryz.func53, Tryz.ntmps53
  go_wp2_with (go_at_call 69; refine (H.out _ _).mono ?_; rintro e w1 ⟨rfl, rfl⟩)
  go_ret
  exact ⟨rfl, HB.out⟩
set_option maxRecDepth 10000 in
set_option maxHeartbeats 800000 in
theorem countNone (g c : Nat) (s : ByteArray) (w : World) (c0 : w.cell? ⟨g, 0, none⟩ = some (.string s)) (c1 : w.cell? ⟨g, 1, none⟩ = some (.string ⟨#[]⟩)) (c2 : w.cell? ⟨g, 2, none⟩ = some (.slice none 0 0)) :
    Calls Tryz.prog 32 #[.slice (some ⟨g, 0, none⟩) 1 c] w fun e w' => e = .returned (.int .i64 0) ∧ Below w.heap.size w w' := by
  have HB : Hid (Below w.heap.size w (w.alloc (.cells #[.string s, .string ⟨#[]⟩, .slice none 0 0] 27))) := hid0 ((Below.refl _ _).alloc (Nat.le_refl _) _)
  go_enter Tryz.func32, Tryz.ntmps32
  go_wp2
  refine wp_loop_rounds 2 ?_
  rw [rounds_succ]
  go_wp2
  rw [rounds_succ]
  go_wp2
  go_ret
  exact ⟨rfl, HB.out⟩
def errT (A : Nat → Addr) (i : Nat) : Value := .iface 192 (.pointer (some (A i)))
def isTagB (s : ByteArray) : Bool := decide (tagF s.data.toList = some s.data.toList)
set_option maxRecDepth 10000 in
set_option maxHeartbeats 800000 in
theorem checkSec_one (A : Nat → Addr) (s : ByteArray) (a : Option Addr) (c : Nat) (w : World) (hm : Mx w) (he : Sents w A) :
    Calls Tryz.prog 33 #[.agg #[.string s, .string ⟨#[]⟩, .slice none 0 0], .slice a 0 c] w fun e w' => e = .returned (if isTagB s then .nilIface else .iface 192 (.pointer (some (A 1)))) ∧ Below w.heap.size w w' := by
  obtain ⟨w0, hw0⟩ : ∃ w0, w0 = w.alloc (.cells #[.string s, .string ⟨#[]⟩, .slice none 0 0] 27) := ⟨_, rfl⟩
  have hB0 : Below w.heap.size w w0 := by rw [hw0]; exact (Below.refl _ _).alloc (Nat.le_refl _) _
  have hX0 : w0.heap[w.heap.size]? = some (.cells #[.string s, .string ⟨#[]⟩, .slice none 0 0] 27 (0, 0)) := by rw [hw0]; exact heap_alloc_new w _
  have hs0 : w0.heap.size = w.heap.size + 1 := by rw [hw0]; simp
  have HXW : Hid (∀ W, Below w0.heap.size w0 W → W.cell? ⟨w.heap.size, 0, none⟩ = some (.string s) ∧ W.cell? ⟨w.heap.size, 1, none⟩ = some (.string ⟨#[]⟩) ∧ W.cell? ⟨w.heap.size, 2, none⟩ = some (.slice none 0 0) ∧ W.cell? ⟨2, 0, none⟩ = some (.iface 192 (.pointer (some (A 1))))) := hid0 (fun W hW => by
    have hr := (hW.block w.heap.size (by omega)).trans hX0
    exact ⟨by rw [cell_of_row _ _ _ _ _ _ hr]; rfl, by rw [cell_of_row _ _ _ _ _ _ hr]; rfl, by rw [cell_of_row _ _ _ _ _ _ hr]; rfl, ((he.below hB0).below hW).c1⟩)
  have HO := hid0 (isOneForm_any s w0 (hm.below hB0))
  have HH := hid0 (hasNone a c s)
  have HB0 := hid0 hB0
  obtain ⟨x0, x1, x2, x3⟩ := HXW.out w0 (Below.refl _ _)
  have hfold := hw0.symm
  clear hw0 hB0 hX0 hs0 hm he
  unfold isTagB
  cases hq : decide (tagF s.data.toList = some s.data.toList) with
  | false =>
    rw [hq] at HO
    simp only [Bool.false_eq_true, if_false]
    clear hq
    go_enter Tryz.func33, Tryz.ntmps33
    go_wp2_with (first | (go_at_call 52; refine HO.out.mono ?_; rintro e w1 ⟨rfl, hb1⟩; obtain ⟨x0, x1, x2, x3⟩ := HXW.out w1 hb1; have HB1 := hid0 (Below.later HB0.out hb1); clear hb1) | fail)
    go_ret
    exact ⟨rfl, HB1.out⟩
  | true =>
    rw [hq] at HO
    simp only [if_true]
    clear hq
    have hem : ((⟨#[]⟩ : ByteArray).toList == []) = true := (empty_beq []).trans (by simp)
    go_enter Tryz.func33, Tryz.ntmps33
    go_wp2_with (first
      | (go_at_call 52; refine HO.out.mono ?_; rintro e w1 ⟨rfl, hb1⟩; obtain ⟨x0, x1, x2, x3⟩ := HXW.out w1 hb1; have HB1 := hid0 hb1; clear hb1)
      | (go_at_call 53; refine (HH.out w1).mono ?_; rintro e w2 ⟨rfl, hb2⟩; obtain ⟨y0, y1, y2, y3⟩ := HXW.out w2 (Below.later HB1.out hb2); have HB2 := hid0 (Below.later HB1.out hb2); clear hb2))
    refine wp_loop_rounds 1 ?_
    rw [rounds_succ]
    go_wp2
    go_ret
    exact ⟨rfl, Below.later HB0.out HB2.out⟩
set_option maxRecDepth 10000 in
set_option maxHeartbeats 1600000 in
theorem check_one (A : Nat → Addr) (s : ByteArray) (g c : Nat) (w : World) (hc : 1 ≤ c) (hm : Mx w) (he : Sents w A) (c0 : w.cell? ⟨g, 0, none⟩ = some (.string s)) (c1 : w.cell? ⟨g, 1, none⟩ = some (.string ⟨#[]⟩)) (c2 : w.cell? ⟨g, 2, none⟩ = some (.slice none 0 0)) :
    Calls Tryz.prog 11 #[.agg #[.slice (some ⟨g, 0, none⟩) 1 c]] w fun e w' => e = .returned (if isTagB s then .nilIface else .iface 192 (.pointer (some (A 1)))) ∧ Below w.heap.size w w' := by
  obtain ⟨w0, hw0⟩ : ∃ w0, w0 = w.alloc (.cells #[.slice (some ⟨g, 0, none⟩) 1 c] 24) := ⟨_, rfl⟩
  have hB0 : Below w.heap.size w w0 := by rw [hw0]; exact (Below.refl _ _).alloc (Nat.le_refl _) _
  have hX0 : w0.heap[w.heap.size]? = some (.cells #[.slice (some ⟨g, 0, none⟩) 1 c] 24 (0, 0)) := by rw [hw0]; exact heap_alloc_new w _
  have hs0 : w0.heap.size = w.heap.size + 1 := by rw [hw0]; simp
  have HXW : Hid (∀ W, Below w0.heap.size w0 W → W.cell? ⟨w.heap.size, 0, none⟩ = some (.slice (some ⟨g, 0, none⟩) 1 c) ∧ W.cell? ⟨g, 0, none⟩ = some (.string s) ∧ W.cell? ⟨g, 1, none⟩ = some (.string ⟨#[]⟩) ∧ W.cell? ⟨g, 2, none⟩ = some (.slice none 0 0)) := hid0 (fun W hW => by
    have hr := (hW.block w.heap.size (by omega)).trans hX0
    have hb := Below.later hB0 hW
    exact ⟨by rw [cell_of_row _ _ _ _ _ _ hr]; rfl, (hb.cell (World.block_lt_of_cell? _ _ c0)).trans c0, (hb.cell (World.block_lt_of_cell? _ _ c1)).trans c1, (hb.cell (World.block_lt_of_cell? _ _ c2)).trans c2⟩)
  obtain ⟨x0, x1, x2, x3⟩ := HXW.out w0 (Below.refl _ _)
  have HN := hid0 (countNone g c s w0 x1 x2 x3)
  have HCS : Hid (∀ W, Below w0.heap.size w0 W → Calls Tryz.prog 33 #[.agg #[.string s, .string ⟨#[]⟩, .slice none 0 0], .slice (some ⟨g, 0, none⟩) 0 c] W fun e w' => e = .returned (if isTagB s then .nilIface else .iface 192 (.pointer (some (A 1)))) ∧ Below W.heap.size W w') := hid0 (fun W hW => checkSec_one A s (some ⟨g, 0, none⟩) c W ((hm.below hB0).below hW) ((he.below hB0).below hW))
  have HB0 := hid0 hB0
  have hfold := hw0.symm
  have hcI : (0 : Int) ≤ (c : Int) := by omega
  clear hw0 hB0 hX0 hs0 hm he c0 c1 c2
  cases hq : isTagB s with
  | false =>
    rw [hq] at HCS
    simp only [Bool.false_eq_true, if_false] at HCS ⊢
    clear hq
    go_enter Tryz.func11, Tryz.ntmps11
    go_wp2_with (first | (go_at_call 32; refine HN.out.mono ?_; rintro e w1 ⟨rfl, hb1⟩; obtain ⟨x0, x1, x2, x3⟩ := HXW.out w1 hb1; have HB1 := hid0 hb1; clear hb1) | fail)
    obtain ⟨w2, hw2⟩ : ∃ w2, w2 = w1.alloc (.cells #[.string s, .string ⟨#[]⟩, .slice none 0 0] 27) := ⟨_, rfl⟩
    have hb12 : Below w1.heap.size w1 w2 := by rw [hw2]; exact (Below.refl _ _).alloc (Nat.le_refl _) _
    have hs2 : w2.heap.size = w1.heap.size + 1 := by rw [hw2]; simp
    have hr2 : w2.heap[w1.heap.size]? = some (.cells #[.string s, .string ⟨#[]⟩, .slice none 0 0] 27 (0, 0)) := by rw [hw2]; exact heap_alloc_new w1 _
    have HB02 : Hid (Below w0.heap.size w0 w2) := hid0 (Below.later HB1.out hb12)
    have HSo : Hid (∀ W, Below w2.heap.size w2 W → W.cell? ⟨w.heap.size, 0, none⟩ = some (.slice (some ⟨g, 0, none⟩) 1 c) ∧ W.cell? ⟨w1.heap.size, 0, none⟩ = some (.string s) ∧ W.cell? ⟨w1.heap.size, 1, none⟩ = some (.string ⟨#[]⟩) ∧ W.cell? ⟨w1.heap.size, 2, none⟩ = some (.slice none 0 0) ∧ Below w2.heap.size w2 W) := hid0 (fun W hW => by
      have hr := (hW.block w1.heap.size (by omega)).trans hr2
      exact ⟨(HXW.out W (Below.later HB02.out hW)).1, by rw [cell_of_row _ _ _ _ _ _ hr]; rfl, by rw [cell_of_row _ _ _ _ _ _ hr]; rfl, by rw [cell_of_row _ _ _ _ _ _ hr]; rfl, hW⟩)
    have HCS2 : Hid (∀ W, Below w2.heap.size w2 W → Calls Tryz.prog 33 #[.agg #[.string s, .string ⟨#[]⟩, .slice none 0 0], .slice (some ⟨g, 0, none⟩) 0 c] W fun e w' => e = .returned (.iface 192 (.pointer (some (A 1)))) ∧ Below w2.heap.size w2 w') := hid0 (fun W hW => (HCS.out W (Below.later HB02.out hW)).mono (fun e w' h => ⟨h.1, Below.later hW h.2⟩))
    have HEND : Hid (∀ W, Below w2.heap.size w2 W → Below w.heap.size w W) := hid0 (fun W hW => Below.later HB0.out (Below.later HB02.out hW))
    have HX3 : Hid (∀ W, Below w2.heap.size w2 W → W.cell? ⟨w.heap.size, 0, none⟩ = some (.slice (some ⟨g, 0, none⟩) 1 c)) := hid0 (fun W hW => (HSo.out W hW).1)
    have HF2 := hid0 hw2
    clear hw2 hb12 hs2 hr2 HCS HN
    refine wp_loop_rounds 2 ?_
    rw [rounds_succ]
    go_wp2
    rw [← HF2.out]
    obtain ⟨z0, z1, z2, z3, hBB⟩ := HSo.out w2 (Below.refl _ _)
    go_region_held3 (fun W => W.cell? ⟨w.heap.size, 0, none⟩ = some (.slice (some ⟨g, 0, none⟩) 1 c) ∧ W.cell? ⟨w1.heap.size, 0, none⟩ = some (.string s) ∧ W.cell? ⟨w1.heap.size, 1, none⟩ = some (.string ⟨#[]⟩) ∧ W.cell? ⟨w1.heap.size, 2, none⟩ = some (.slice none 0 0) ∧ Below w2.heap.size w2 W) (first | exact HSo.out _ (by go_grown) | (go_split_ands; exact HSo.out _ (by go_grown)))
      (first | (go_at_call 33; go_split_ands; refine (HCS2.out _ (by go_grown)).mono ?_; rintro e w3 ⟨rfl, hb3⟩))
    go_wp2
    go_ret
    exact ⟨rfl, HEND.out _ (by assumption)⟩

  | true =>
    rw [hq] at HCS
    simp only [if_true] at HCS ⊢
    clear hq
    go_enter Tryz.func11, Tryz.ntmps11
    go_wp2_with (first | (go_at_call 32; refine HN.out.mono ?_; rintro e w1 ⟨rfl, hb1⟩; obtain ⟨x0, x1, x2, x3⟩ := HXW.out w1 hb1; have HB1 := hid0 hb1; clear hb1) | fail)
    obtain ⟨w2, hw2⟩ : ∃ w2, w2 = w1.alloc (.cells #[.string s, .string ⟨#[]⟩, .slice none 0 0] 27) := ⟨_, rfl⟩
    have hb12 : Below w1.heap.size w1 w2 := by rw [hw2]; exact (Below.refl _ _).alloc (Nat.le_refl _) _
    have hs2 : w2.heap.size = w1.heap.size + 1 := by rw [hw2]; simp
    have hr2 : w2.heap[w1.heap.size]? = some (.cells #[.string s, .string ⟨#[]⟩, .slice none 0 0] 27 (0, 0)) := by rw [hw2]; exact heap_alloc_new w1 _
    have HB02 : Hid (Below w0.heap.size w0 w2) := hid0 (Below.later HB1.out hb12)
    have HSo : Hid (∀ W, Below w2.heap.size w2 W → W.cell? ⟨w.heap.size, 0, none⟩ = some (.slice (some ⟨g, 0, none⟩) 1 c) ∧ W.cell? ⟨w1.heap.size, 0, none⟩ = some (.string s) ∧ W.cell? ⟨w1.heap.size, 1, none⟩ = some (.string ⟨#[]⟩) ∧ W.cell? ⟨w1.heap.size, 2, none⟩ = some (.slice none 0 0) ∧ Below w2.heap.size w2 W) := hid0 (fun W hW => by
      have hr := (hW.block w1.heap.size (by omega)).trans hr2
      exact ⟨(HXW.out W (Below.later HB02.out hW)).1, by rw [cell_of_row _ _ _ _ _ _ hr]; rfl, by rw [cell_of_row _ _ _ _ _ _ hr]; rfl, by rw [cell_of_row _ _ _ _ _ _ hr]; rfl, hW⟩)
    have HCS2 : Hid (∀ W, Below w2.heap.size w2 W → Calls Tryz.prog 33 #[.agg #[.string s, .string ⟨#[]⟩, .slice none 0 0], .slice (some ⟨g, 0, none⟩) 0 c] W fun e w' => e = .returned .nilIface ∧ Below w2.heap.size w2 w') := hid0 (fun W hW => (HCS.out W (Below.later HB02.out hW)).mono (fun e w' h => ⟨h.1, Below.later hW h.2⟩))
    have HEND : Hid (∀ W, Below w2.heap.size w2 W → Below w.heap.size w W) := hid0 (fun W hW => Below.later HB0.out (Below.later HB02.out hW))
    have HX3 : Hid (∀ W, Below w2.heap.size w2 W → W.cell? ⟨w.heap.size, 0, none⟩ = some (.slice (some ⟨g, 0, none⟩) 1 c)) := hid0 (fun W hW => (HSo.out W hW).1)
    have HF2 := hid0 hw2
    clear hw2 hb12 hs2 hr2 HCS HN
    refine wp_loop_rounds 2 ?_
    rw [rounds_succ]
    go_wp2
    rw [← HF2.out]
    obtain ⟨z0, z1, z2, z3, hBB⟩ := HSo.out w2 (Below.refl _ _)
    go_region_held3 (fun W => W.cell? ⟨w.heap.size, 0, none⟩ = some (.slice (some ⟨g, 0, none⟩) 1 c) ∧ W.cell? ⟨w1.heap.size, 0, none⟩ = some (.string s) ∧ W.cell? ⟨w1.heap.size, 1, none⟩ = some (.string ⟨#[]⟩) ∧ W.cell? ⟨w1.heap.size, 2, none⟩ = some (.slice none 0 0) ∧ Below w2.heap.size w2 W) (first | exact HSo.out _ (by go_grown) | (go_split_ands; exact HSo.out _ (by go_grown)))
      (first | (go_at_call 33; go_split_ands; refine (HCS2.out _ (by go_grown)).mono ?_; rintro e w3 ⟨rfl, hb3⟩))
    go_wp2
    rw [rounds_succ]
    go_wp2
    go_ret
    exact ⟨rfl, HEND.out _ (by assumption)⟩
set_option maxRecDepth 10000 in
set_option maxHeartbeats 800000 in
theorem isTag_any (A : Nat → Addr) (s : ByteArray) (w : World) (hm : Mx w) (he : Sents w A) : Calls Tryz.prog 35 #[.string s] w fun e w' => e = .returned (.bool (isTagB s)) ∧ Below w.heap.size w w' := by
  obtain ⟨w1, hw1⟩ : ∃ w1, w1 = w.alloc (.cells #[.string s, .string ⟨#[]⟩, .slice none 0 0] 27) := ⟨_, rfl⟩
  have hb1 : Below w.heap.size w w1 := by rw [hw1]; exact (Below.refl _ _).alloc (Nat.le_refl _) _
  have hr1 : w1.heap[w.heap.size]? = some (.cells #[.string s, .string ⟨#[]⟩, .slice none 0 0] 27 (0, 0)) := by rw [hw1]; exact heap_alloc_new w _
  obtain ⟨w2, hw2⟩ : ∃ w2, w2 = w1.alloc (.cells #[.slice (some ⟨w.heap.size, 0, none⟩) 1 1] 24) := ⟨_, rfl⟩
  have hb2 : Below w1.heap.size w1 w2 := by rw [hw2]; exact (Below.refl _ _).alloc (Nat.le_refl _) _
  have hb02 := Below.later hb1 hb2
  have hlt : w.heap.size < w1.heap.size := (Array.getElem?_eq_some_iff.1 hr1).1
  have hr2 := (hb2.block w.heap.size hlt).trans hr1
  have HC := hid0 (check_one A s w.heap.size 1 w2 (Nat.le_refl _) (hm.below hb02) (he.below hb02) (by rw [cell_of_row _ _ _ _ _ _ hr2]; rfl) (by rw [cell_of_row _ _ _ _ _ _ hr2]; rfl) (by rw [cell_of_row _ _ _ _ _ _ hr2]; rfl))
  have HB2 := hid0 hb02
  clear hm he hb1 hr1 hb2 hb02 hr2 hlt
  rw [hw2, hw1] at HC HB2
  clear hw2 hw1
  cases hq : isTagB s with
  | false =>
    rw [hq] at HC
    simp only [Bool.false_eq_true, if_false] at HC
    clear hq
    go_enter Tryz.func35, Tryz.ntmps35
    go_wp2_with (go_at_call 11; refine HC.out.mono ?_; rintro e w3 ⟨rfl, hb3⟩)
    go_ret
    exact ⟨rfl, Below.later HB2.out hb3⟩
  | true =>
    rw [hq] at HC
    simp only [if_true] at HC
    clear hq
    go_enter Tryz.func35, Tryz.ntmps35
    go_wp2_with (go_at_call 11; refine HC.out.mono ?_; rintro e w3 ⟨rfl, hb3⟩)
    go_ret
    exact ⟨rfl, Below.later HB2.out hb3⟩
end Go.Proofs.YtbdjnmbhphflbaaGreatDoor
