/-
  LqSW, LqLW, Door, SentP, LaidQ.
-/
import Derived.Test.YtlnejmmhhmmomaaGreatDoorMsf
import Derived.Test.YtlnejmmhhmmomaaGreatDoorMse
import Derived.Test.YtlnejmmhhmmomaaGreatDoorCards
import Derived.Test.YtlnejmmhhmmomaaGreatDoorTie
import Derived.WalkKit
import Derived.ProofKit
import Derived.OpenShut
import Derived.Deep.DeepHandedRow
import Derived.Lib.LaidTab
import Derived.Lib.SmallJoins
import Derived.Test.YtlnejmmhhmmomaaGreatDoorMsa
import Derived.Stop.LaidErr
import Derived.Test.YtlnejmmhhmmomaaGreatDoorMsb
namespace Go.Proofs.YtlnejmmhhmmomaaGreatDoor
open Go.RowKit Go.Shelf Go.Lib Go.Maps Go.Sort
structure Sents5 (w : World) (A : Nat → Addr) : Prop where
  c0 : w.cell? ⟨1, 0, none⟩ = some (.iface 185 (.pointer (some (A 0))))
  c1 : w.cell? ⟨2, 0, none⟩ = some (.iface 185 (.pointer (some (A 1))))
  c2 : w.cell? ⟨0, 0, none⟩ = some (.iface 185 (.pointer (some (A 2))))
  c4 : w.cell? ⟨4, 0, none⟩ = some (.iface 185 (.pointer (some (A 4))))
  c7 : w.cell? ⟨7, 0, none⟩ = some (.iface 185 (.pointer (some (A 7))))
theorem Sents5.below {w w' : World} {A : Nat → Addr} (h : Sents5 w A) (hb : Below w.heap.size w w') : Sents5 w' A where
  c0 := (hb.cell (p := ⟨1, 0, none⟩) (World.block_lt_of_cell? w _ h.c0)).trans h.c0
  c1 := (hb.cell (p := ⟨2, 0, none⟩) (World.block_lt_of_cell? w _ h.c1)).trans h.c1
  c2 := (hb.cell (p := ⟨0, 0, none⟩) (World.block_lt_of_cell? w _ h.c2)).trans h.c2
  c4 := (hb.cell (p := ⟨4, 0, none⟩) (World.block_lt_of_cell? w _ h.c4)).trans h.c4
  c7 := (hb.cell (p := ⟨7, 0, none⟩) (World.block_lt_of_cell? w _ h.c7)).trans h.c7
set_option maxRecDepth 10000 in
set_option maxHeartbeats 800000 in
theorem checkSec_one5 (A : Nat → Addr) (s : ByteArray) (a : Option Addr) (c : Nat) (w : World) (hm : Mx w) (he : Sents5 w A) :
    Calls Tryz.prog 42 #[.agg #[.string s, .string ⟨#[]⟩, .slice none 0 0], .slice a 0 c] w fun e w' => e = .returned (if isTagB s then .nilIface else .iface 185 (.pointer (some (A 1)))) ∧ Below w.heap.size w w' := by
  obtain ⟨w0, hw0⟩ : ∃ w0, w0 = w.alloc (.cells #[.string s, .string ⟨#[]⟩, .slice none 0 0] 40) := ⟨_, rfl⟩
  have hB0 : Below w.heap.size w w0 := by rw [hw0]; exact (Below.refl _ _).alloc (Nat.le_refl _) _
  have hX0 : w0.heap[w.heap.size]? = some (.cells #[.string s, .string ⟨#[]⟩, .slice none 0 0] 40 (0, 0)) := by rw [hw0]; exact heap_alloc_new w _
  have hs0 : w0.heap.size = w.heap.size + 1 := by rw [hw0]; simp
  have HXW : Hid (∀ W, Below w0.heap.size w0 W → W.cell? ⟨w.heap.size, 0, none⟩ = some (.string s) ∧ W.cell? ⟨w.heap.size, 1, none⟩ = some (.string ⟨#[]⟩) ∧ W.cell? ⟨w.heap.size, 2, none⟩ = some (.slice none 0 0) ∧ W.cell? ⟨2, 0, none⟩ = some (.iface 185 (.pointer (some (A 1))))) := hid0 (fun W hW => by
    have hr := (hW.block w.heap.size (by omega)).trans hX0
    exact ⟨by rw [cell_of_row _ _ _ _ _ _ hr]; rfl, by rw [cell_of_row _ _ _ _ _ _ hr]; rfl, by rw [cell_of_row _ _ _ _ _ _ hr]; rfl, ((he.below hB0).below hW).c1⟩)
  have HO := hid0 (isOneForm_any s w0 (hm.below hB0))
  have HH := hid0 (hasNone a c s)
  have HB0 := hid0 hB0
  obtain ⟨x0, x1, x2, x3⟩ := HXW.out w0 (Below.refl _ _)
  have hfold := hw0.symm
  clear hw0 hB0 hX0 hs0 hm he
  unfold isTagB
  cases hq : decide (tagF s.data.toList = some s.data.toList) with
  | false =>
    rw [hq] at HO
    simp only [Bool.false_eq_true, if_false]
    clear hq
    go_enter Tryz.func42, Tryz.ntmps42
    go_wp2_with (first | (go_at_call 55; refine HO.out.mono ?_; rintro e w1 ⟨rfl, hb1⟩; obtain ⟨x0, x1, x2, x3⟩ := HXW.out w1 hb1; have HB1 := hid0 (Below.later HB0.out hb1); clear hb1) | fail)
    go_ret
    exact ⟨rfl, HB1.out⟩
  | true =>
    rw [hq] at HO
    simp only [if_true]
    clear hq
    have hem : ((⟨#[]⟩ : ByteArray).toList == []) = true := (empty_beq []).trans (by simp)
    go_enter Tryz.func42, Tryz.ntmps42
    go_wp2_with (first
      | (go_at_call 55; refine HO.out.mono ?_; rintro e w1 ⟨rfl, hb1⟩; obtain ⟨x0, x1, x2, x3⟩ := HXW.out w1 hb1; have HB1 := hid0 hb1; clear hb1)
      | (go_at_call 56; refine (HH.out w1).mono ?_; rintro e w2 ⟨rfl, hb2⟩; obtain ⟨y0, y1, y2, y3⟩ := HXW.out w2 (Below.later HB1.out hb2); have HB2 := hid0 (Below.later HB1.out hb2); clear hb2))
    refine wp_loop_rounds 1 ?_
    rw [rounds_succ]
    go_wp2
    go_ret
    exact ⟨rfl, Below.later HB0.out HB2.out⟩
set_option maxRecDepth 10000 in
set_option maxHeartbeats 1600000 in
theorem check_one5 (A : Nat → Addr) (s : ByteArray) (g c : Nat) (w : World) (hc : 1 ≤ c) (hm : Mx w) (he : Sents5 w A) (c0 : w.cell? ⟨g, 0, none⟩ = some (.string s)) (c1 : w.cell? ⟨g, 1, none⟩ = some (.string ⟨#[]⟩)) (c2 : w.cell? ⟨g, 2, none⟩ = some (.slice none 0 0)) :
    Calls Tryz.prog 28 #[.agg #[.slice (some ⟨g, 0, none⟩) 1 c]] w fun e w' => e = .returned (if isTagB s then .nilIface else .iface 185 (.pointer (some (A 1)))) ∧ Below w.heap.size w w' := by
  obtain ⟨w0, hw0⟩ : ∃ w0, w0 = w.alloc (.cells #[.slice (some ⟨g, 0, none⟩) 1 c] 24) := ⟨_, rfl⟩
  have hB0 : Below w.heap.size w w0 := by rw [hw0]; exact (Below.refl _ _).alloc (Nat.le_refl _) _
  have hX0 : w0.heap[w.heap.size]? = some (.cells #[.slice (some ⟨g, 0, none⟩) 1 c] 24 (0, 0)) := by rw [hw0]; exact heap_alloc_new w _
  have hs0 : w0.heap.size = w.heap.size + 1 := by rw [hw0]; simp
  have HXW : Hid (∀ W, Below w0.heap.size w0 W → W.cell? ⟨w.heap.size, 0, none⟩ = some (.slice (some ⟨g, 0, none⟩) 1 c) ∧ W.cell? ⟨g, 0, none⟩ = some (.string s) ∧ W.cell? ⟨g, 1, none⟩ = some (.string ⟨#[]⟩) ∧ W.cell? ⟨g, 2, none⟩ = some (.slice none 0 0)) := hid0 (fun W hW => by
    have hr := (hW.block w.heap.size (by omega)).trans hX0
    have hb := Below.later hB0 hW
    exact ⟨by rw [cell_of_row _ _ _ _ _ _ hr]; rfl, (hb.cell (World.block_lt_of_cell? _ _ c0)).trans c0, (hb.cell (World.block_lt_of_cell? _ _ c1)).trans c1, (hb.cell (World.block_lt_of_cell? _ _ c2)).trans c2⟩)
  obtain ⟨x0, x1, x2, x3⟩ := HXW.out w0 (Below.refl _ _)
  have HN := hid0 (countNone g c s w0 x1 x2 x3)
  have HCS : Hid (∀ W, Below w0.heap.size w0 W → Calls Tryz.prog 42 #[.agg #[.string s, .string ⟨#[]⟩, .slice none 0 0], .slice (some ⟨g, 0, none⟩) 0 c] W fun e w' => e = .returned (if isTagB s then .nilIface else .iface 185 (.pointer (some (A 1)))) ∧ Below W.heap.size W w') := hid0 (fun W hW => checkSec_one5 A s (some ⟨g, 0, none⟩) c W ((hm.below hB0).below hW) ((he.below hB0).below hW))
  have HB0 := hid0 hB0
  have hfold := hw0.symm
  have hcI : (0 : Int) ≤ (c : Int) := by omega
  clear hw0 hB0 hX0 hs0 hm he c0 c1 c2
  cases hq : isTagB s with
  | false =>
    rw [hq] at HCS
    simp only [Bool.false_eq_true, if_false] at HCS ⊢
    clear hq
    go_enter Tryz.func28, Tryz.ntmps28
    go_wp2_with (first | (go_at_call 41; refine HN.out.mono ?_; rintro e w1 ⟨rfl, hb1⟩; obtain ⟨x0, x1, x2, x3⟩ := HXW.out w1 hb1; have HB1 := hid0 hb1; clear hb1) | fail)
    obtain ⟨w2, hw2⟩ : ∃ w2, w2 = w1.alloc (.cells #[.string s, .string ⟨#[]⟩, .slice none 0 0] 40) := ⟨_, rfl⟩
    have hb12 : Below w1.heap.size w1 w2 := by rw [hw2]; exact (Below.refl _ _).alloc (Nat.le_refl _) _
    have hs2 : w2.heap.size = w1.heap.size + 1 := by rw [hw2]; simp
    have hr2 : w2.heap[w1.heap.size]? = some (.cells #[.string s, .string ⟨#[]⟩, .slice none 0 0] 40 (0, 0)) := by rw [hw2]; exact heap_alloc_new w1 _
    have HB02 : Hid (Below w0.heap.size w0 w2) := hid0 (Below.later HB1.out hb12)
    have HSo : Hid (∀ W, Below w2.heap.size w2 W → W.cell? ⟨w.heap.size, 0, none⟩ = some (.slice (some ⟨g, 0, none⟩) 1 c) ∧ W.cell? ⟨w1.heap.size, 0, none⟩ = some (.string s) ∧ W.cell? ⟨w1.heap.size, 1, none⟩ = some (.string ⟨#[]⟩) ∧ W.cell? ⟨w1.heap.size, 2, none⟩ = some (.slice none 0 0) ∧ Below w2.heap.size w2 W) := hid0 (fun W hW => by
      have hr := (hW.block w1.heap.size (by omega)).trans hr2
      exact ⟨(HXW.out W (Below.later HB02.out hW)).1, by rw [cell_of_row _ _ _ _ _ _ hr]; rfl, by rw [cell_of_row _ _ _ _ _ _ hr]; rfl, by rw [cell_of_row _ _ _ _ _ _ hr]; rfl, hW⟩)
    have HCS2 : Hid (∀ W, Below w2.heap.size w2 W → Calls Tryz.prog 42 #[.agg #[.string s, .string ⟨#[]⟩, .slice none 0 0], .slice (some ⟨g, 0, none⟩) 0 c] W fun e w' => e = .returned (.iface 185 (.pointer (some (A 1)))) ∧ Below w2.heap.size w2 w') := hid0 (fun W hW => (HCS.out W (Below.later HB02.out hW)).mono (fun e w' h => ⟨h.1, Below.later hW h.2⟩))
    have HEND : Hid (∀ W, Below w2.heap.size w2 W → Below w.heap.size w W) := hid0 (fun W hW => Below.later HB0.out (Below.later HB02.out hW))
    have HX3 : Hid (∀ W, Below w2.heap.size w2 W → W.cell? ⟨w.heap.size, 0, none⟩ = some (.slice (some ⟨g, 0, none⟩) 1 c)) := hid0 (fun W hW => (HSo.out W hW).1)
    have HF2 := hid0 hw2
    clear hw2 hb12 hs2 hr2 HCS HN
    refine wp_loop_rounds 2 ?_
    rw [rounds_succ]
    go_wp2
    rw [← HF2.out]
    obtain ⟨z0, z1, z2, z3, hBB⟩ := HSo.out w2 (Below.refl _ _)
    go_region_held3 (fun W => W.cell? ⟨w.heap.size, 0, none⟩ = some (.slice (some ⟨g, 0, none⟩) 1 c) ∧ W.cell? ⟨w1.heap.size, 0, none⟩ = some (.string s) ∧ W.cell? ⟨w1.heap.size, 1, none⟩ = some (.string ⟨#[]⟩) ∧ W.cell? ⟨w1.heap.size, 2, none⟩ = some (.slice none 0 0) ∧ Below w2.heap.size w2 W) (first | exact HSo.out _ (by go_grown) | (go_split_ands; exact HSo.out _ (by go_grown)))
      (first | (go_at_call 42; go_split_ands; refine (HCS2.out _ (by go_grown)).mono ?_; rintro e w3 ⟨rfl, hb3⟩))
    go_wp2
    go_ret
    exact ⟨rfl, HEND.out _ (by assumption)⟩

  | true =>
    rw [hq] at HCS
    simp only [if_true] at HCS ⊢
    clear hq
    go_enter Tryz.func28, Tryz.ntmps28
    go_wp2_with (first | (go_at_call 41; refine HN.out.mono ?_; rintro e w1 ⟨rfl, hb1⟩; obtain ⟨x0, x1, x2, x3⟩ := HXW.out w1 hb1; have HB1 := hid0 hb1; clear hb1) | fail)
    obtain ⟨w2, hw2⟩ : ∃ w2, w2 = w1.alloc (.cells #[.string s, .string ⟨#[]⟩, .slice none 0 0] 40) := ⟨_, rfl⟩
    have hb12 : Below w1.heap.size w1 w2 := by rw [hw2]; exact (Below.refl _ _).alloc (Nat.le_refl _) _
    have hs2 : w2.heap.size = w1.heap.size + 1 := by rw [hw2]; simp
    have hr2 : w2.heap[w1.heap.size]? = some (.cells #[.string s, .string ⟨#[]⟩, .slice none 0 0] 40 (0, 0)) := by rw [hw2]; exact heap_alloc_new w1 _
    have HB02 : Hid (Below w0.heap.size w0 w2) := hid0 (Below.later HB1.out hb12)
    have HSo : Hid (∀ W, Below w2.heap.size w2 W → W.cell? ⟨w.heap.size, 0, none⟩ = some (.slice (some ⟨g, 0, none⟩) 1 c) ∧ W.cell? ⟨w1.heap.size, 0, none⟩ = some (.string s) ∧ W.cell? ⟨w1.heap.size, 1, none⟩ = some (.string ⟨#[]⟩) ∧ W.cell? ⟨w1.heap.size, 2, none⟩ = some (.slice none 0 0) ∧ Below w2.heap.size w2 W) := hid0 (fun W hW => by
      have hr := (hW.block w1.heap.size (by omega)).trans hr2
      exact ⟨(HXW.out W (Below.later HB02.out hW)).1, by rw [cell_of_row _ _ _ _ _ _ hr]; rfl, by rw [cell_of_row _ _ _ _ _ _ hr]; rfl, by rw [cell_of_row _ _ _ _ _ _ hr]; rfl, hW⟩)
    have HCS2 : Hid (∀ W, Below w2.heap.size w2 W → Calls Tryz.prog 42 #[.agg #[.string s, .string ⟨#[]⟩, .slice none 0 0], .slice (some ⟨g, 0, none⟩) 0 c] W fun e w' => e = .returned .nilIface ∧ Below w2.heap.size w2 w') := hid0 (fun W hW => (HCS.out W (Below.later HB02.out hW)).mono (fun e w' h => ⟨h.1, Below.later hW h.2⟩))
    have HEND : Hid (∀ W, Below w2.heap.size w2 W → Below w.heap.size w W) := hid0 (fun W hW => Below.later HB0.out (Below.later HB02.out hW))
    have HX3 : Hid (∀ W, Below w2.heap.size w2 W → W.cell? ⟨w.heap.size, 0, none⟩ = some (.slice (some ⟨g, 0, none⟩) 1 c)) := hid0 (fun W hW => (HSo.out W hW).1)
    have HF2 := hid0 hw2
    clear hw2 hb12 hs2 hr2 HCS HN
    refine wp_loop_rounds 2 ?_
    rw [rounds_succ]
    go_wp2
    rw [← HF2.out]
    obtain ⟨z0, z1, z2, z3, hBB⟩ := HSo.out w2 (Below.refl _ _)
    go_region_held3 (fun W => W.cell? ⟨w.heap.size, 0, none⟩ = some (.slice (some ⟨g, 0, none⟩) 1 c) ∧ W.cell? ⟨w1.heap.size, 0, none⟩ = some (.string s) ∧ W.cell? ⟨w1.heap.size, 1, none⟩ = some (.string ⟨#[]⟩) ∧ W.cell? ⟨w1.heap.size, 2, none⟩ = some (.slice none 0 0) ∧ Below w2.heap.size w2 W) (first | exact HSo.out _ (by go_grown) | (go_split_ands; exact HSo.out _ (by go_grown)))
      (first | (go_at_call 42; go_split_ands; refine (HCS2.out _ (by go_grown)).mono ?_; rintro e w3 ⟨rfl, hb3⟩))
    go_wp2
    rw [rounds_succ]
    go_wp2
    go_ret
    exact ⟨rfl, HEND.out _ (by assumption)⟩
set_option maxRecDepth 10000 in
set_option maxHeartbeats 800000 in
theorem isTag_any5 (A : Nat → Addr) (s : ByteArray) (w : World) (hm : Mx w) (he : Sents5 w A) : Calls Tryz.prog 44 #[.string s] w fun e w' => e = .returned (.bool (isTagB s)) ∧ Below w.heap.size w w' := by
  obtain ⟨w1, hw1⟩ : ∃ w1, w1 = w.alloc (.cells #[.string s, .string ⟨#[]⟩, .slice none 0 0] 40) := ⟨_, rfl⟩
  have hb1 : Below w.heap.size w w1 := by rw [hw1]; exact (Below.refl _ _).alloc (Nat.le_refl _) _
  have hr1 : w1.heap[w.heap.size]? = some (.cells #[.string s, .string ⟨#[]⟩, .slice none 0 0] 40 (0, 0)) := by rw [hw1]; exact heap_alloc_new w _
  obtain ⟨w2, hw2⟩ : ∃ w2, w2 = w1.alloc (.cells #[.slice (some ⟨w.heap.size, 0, none⟩) 1 1] 24) := ⟨_, rfl⟩
  have hb2 : Below w1.heap.size w1 w2 := by rw [hw2]; exact (Below.refl _ _).alloc (Nat.le_refl _) _
  have hb02 := Below.later hb1 hb2
  have hlt : w.heap.size < w1.heap.size := (Array.getElem?_eq_some_iff.1 hr1).1
  have hr2 := (hb2.block w.heap.size hlt).trans hr1
  have HC := hid0 (check_one5 A s w.heap.size 1 w2 (Nat.le_refl _) (hm.below hb02) (he.below hb02) (by rw [cell_of_row _ _ _ _ _ _ hr2]; rfl) (by rw [cell_of_row _ _ _ _ _ _ hr2]; rfl) (by rw [cell_of_row _ _ _ _ _ _ hr2]; rfl))
  have HB2 := hid0 hb02
  clear hm he hb1 hr1 hb2 hb02 hr2 hlt
  rw [hw2, hw1] at HC HB2
  clear hw2 hw1
  cases hq : isTagB s with
  | false =>
    rw [hq] at HC
    simp only [Bool.false_eq_true, if_false] at HC
    clear hq
    go_enter Tryz.func44, Tryz.ntmps44
    go_wp2_with (go_at_call 28; refine HC.out.mono ?_; rintro e w3 ⟨rfl, hb3⟩)
    go_ret
    exact ⟨rfl, Below.later HB2.out hb3⟩
  | true =>
    rw [hq] at HC
    simp only [if_true] at HC
    clear hq
    go_enter Tryz.func44, Tryz.ntmps44
    go_wp2_with (go_at_call 28; refine HC.out.mono ?_; rintro e w3 ⟨rfl, hb3⟩)
    go_ret
    exact ⟨rfl, Below.later HB2.out hb3⟩
set_option maxRecDepth 10000 in
set_option maxHeartbeats 800000 in
theorem canon_any5 (A : Nat → Addr) (s : ByteArray) (w : World) (hm : Mx w) (hT : Tb w) (he : Sents5 w A) : Calls Tryz.prog 29 #[.string s] w fun e w' => e = .returned (canE A (tagF s.data.toList)) ∧ Below w.heap.size w w' := by
  have HTL : Hid (s.data.toList.length = s.size) := hid0 (by simp)
  by_cases h64 : (64 : Int) < (s.size : Int)
  · have hv : tagF s.data.toList = none := by
      unfold tagF
      rw [if_neg]
      rintro ⟨h1, _⟩
      have h4 := HTL.out
      omega
    rw [hv]
    unfold canE
    have x1 := he.c1
    clear hm hT he hv
    go_enter Tryz.func29, Tryz.ntmps29
    go_wp2
    go_quiet ((fail))
    go_wp2
    go_returns
    exact ⟨rfl, ⟨rfl, rfl, rfl, Nat.le_refl _, fun _ _ => rfl⟩⟩
  · have hle : s.data.toList.length ≤ 64 := by rw [HTL.out]; omega
    have hLF := locale_form s.data.toList hle
    obtain ⟨F, hF⟩ : ∃ F, F = strOf (joinU (formL (pieces s.data.toList))) := ⟨_, rfl⟩
    have HO : Hid (Calls Tryz.prog 43 #[.string s] w fun e w' => e = .returned (.string F) ∧ Below w.heap.size w w') := hid0 (by rw [hF]; exact oneFormL_any s (by omega) w hm hT)
    have HI : Hid (∀ W, Below w.heap.size w W → Calls Tryz.prog 44 #[.string F] W fun e w' => e = .returned (.bool (isTagB F)) ∧ Below W.heap.size W w') := hid0 (fun W hW => isTag_any5 A F W (hm.below hW) (he.below hW))
    have HE : Hid (∀ W, Below w.heap.size w W → W.cell? ⟨2, 0, none⟩ = some (.iface 185 (.pointer (some (A 1))))) := hid0 (fun W hW => (he.below hW).c1)
    cases hq : tagF s.data.toList with
    | none =>
      have hi : isTagB F = false := by
        unfold isTagB
        rw [hF, strOf_data]
        simpa using hLF.1 hq
      rw [hi] at HI
      unfold canE
      clear hm hT he hq hi hF hLF
      go_enter Tryz.func29, Tryz.ntmps29
      go_wp2_with (first
        | (go_at_call 43; refine HO.out.mono ?_; rintro e w1 ⟨rfl, hb1⟩; have HB1 := hid0 hb1; clear hb1)
        | (go_at_call 44; refine (HI.out _ HB1.out).mono ?_; rintro e w2 ⟨rfl, hb2⟩; have HB2 := hid0 (Below.later HB1.out hb2); have x1 := HE.out w2 (Below.later HB1.out hb2); clear hb2))
      go_quiet ((fail))
      go_wp2
      go_returns
      exact ⟨rfl, ⟨HB2.out.os, HB2.out.tape, HB2.out.output, HB2.out.size, HB2.out.block⟩⟩
    | some c =>
      obtain ⟨h1, h2⟩ := hLF.2 c hq
      have hi : isTagB F = true := by
        unfold isTagB
        rw [hF, strOf_data, h1, h2]
        simp
      have hc : strOf c = F := by rw [hF, h1]
      rw [hi] at HI
      unfold canE
      simp only
      rw [hc]
      clear hm hT he hq hi hF hLF hc h1 h2
      go_enter Tryz.func29, Tryz.ntmps29
      go_wp2_with (first
        | (go_at_call 43; refine HO.out.mono ?_; rintro e w1 ⟨rfl, hb1⟩; have HB1 := hid0 hb1; clear hb1)
        | (go_at_call 44; refine (HI.out _ HB1.out).mono ?_; rintro e w2 ⟨rfl, hb2⟩; have HB2 := hid0 (Below.later HB1.out hb2); clear hb2))
      go_returns
      exact ⟨rfl, HB2.out⟩
set_option maxRecDepth 10000 in
set_option maxHeartbeats 3200000 in
theorem checkSec_any5 (E : ByteArray → Option Nat) (A : Nat → Addr) (s : Sec) (ae : Option Addr) (ce : Nat) (Ah : List Sec) (a : Option Addr) (c : Nat) (w : World) (hl : Ah.length ≤ 1000000) (hn : s.ed.length ≤ 140737488355328) (hm : Mx w) (he : Sents5 w A) (ha : XA w a Ah) (hed : EA w ae s.ed) (hz : ∀ e ∈ s.ed, e.2.size ≤ 140737488355328)
    (hE : ∀ x W, x.size ≤ 140737488355328 → Below w.heap.size w W → Calls Tryz.prog 57 #[.string x] W fun e w' => e = .returned (errO A (E x)) ∧ Below W.heap.size W w') :
    Calls Tryz.prog 42 #[.agg #[.string s.loc, .string s.par, .slice ae s.ed.length ce], .slice a Ah.length c] w fun e w' => e = .returned (errO A (secE E s Ah)) ∧ Below w.heap.size w w' := by
  obtain ⟨w0, hw0⟩ : ∃ w0, w0 = w.alloc (.cells #[.string s.loc, .string s.par, .slice ae s.ed.length ce] 40) := ⟨_, rfl⟩
  have hB0 : Below w.heap.size w w0 := by rw [hw0]; exact (Below.refl _ _).alloc (Nat.le_refl _) _
  have hX0 : w0.heap[w.heap.size]? = some (.cells #[.string s.loc, .string s.par, .slice ae s.ed.length ce] 40 (0, 0)) := by rw [hw0]; exact heap_alloc_new w _
  have hs0 : w0.heap.size = w.heap.size + 1 := by rw [hw0]; simp
  have HXW : Hid (∀ W, Below w0.heap.size w0 W → W.cell? ⟨w.heap.size, 0, none⟩ = some (.string s.loc) ∧ W.cell? ⟨w.heap.size, 1, none⟩ = some (.string s.par) ∧ W.cell? ⟨w.heap.size, 2, none⟩ = some (.slice ae s.ed.length ce) ∧ W.cell? ⟨2, 0, none⟩ = some (.iface 185 (.pointer (some (A 1)))) ∧ W.cell? ⟨4, 0, none⟩ = some (.iface 185 (.pointer (some (A 4)))) ∧ W.cell? ⟨1, 0, none⟩ = some (.iface 185 (.pointer (some (A 0))))) := hid0 (fun W hW => by
    have hr := (hW.block w.heap.size (by omega)).trans hX0
    have h2 := (he.below hB0).below hW
    exact ⟨by rw [cell_of_row _ _ _ _ _ _ hr]; rfl, by rw [cell_of_row _ _ _ _ _ _ hr]; rfl, by rw [cell_of_row _ _ _ _ _ _ hr]; rfl, h2.c1, h2.c4, h2.c0⟩)
  have HO1 : Hid (∀ W, Below w0.heap.size w0 W → Calls Tryz.prog 55 #[.string s.loc] W fun e w' => e = .returned (.bool (isTagB s.loc)) ∧ Below w0.heap.size w0 w') := hid0 (fun W hW => (isOneForm_any s.loc W ((hm.below hB0).below hW)).mono (fun e w' h => ⟨h.1, Below.later hW h.2⟩))
  have HO2 : Hid (∀ W, Below w0.heap.size w0 W → Calls Tryz.prog 55 #[.string s.par] W fun e w' => e = .returned (.bool (isTagB s.par)) ∧ Below w0.heap.size w0 w') := hid0 (fun W hW => (isOneForm_any s.par W ((hm.below hB0).below hW)).mono (fun e w' h => ⟨h.1, Below.later hW h.2⟩))
  have HH : Hid (∀ W, Below w0.heap.size w0 W → Calls Tryz.prog 56 #[.slice a Ah.length c, .string s.loc] W fun e w' => e = .returned (.bool (hasL Ah s.loc)) ∧ Below w0.heap.size w0 w') := hid0 (fun W hW => (has_any Ah a c s.loc W hl ((ha.later hB0).later hW)).mono (fun e w' h => ⟨h.1, Below.later hW h.2⟩))
  have HEn : Hid (∀ x W, x.size ≤ 140737488355328 → Below w0.heap.size w0 W → Calls Tryz.prog 57 #[.string x] W fun e w' => e = .returned (errO A (E x)) ∧ Below w0.heap.size w0 w') := hid0 (fun x W hx hW => (hE x W hx (Below.later hB0 hW)).mono (fun e w' h => ⟨h.1, Below.later hW h.2⟩))
  have HED : Hid (∀ W, Below w0.heap.size w0 W → EA W ae s.ed) := hid0 (fun W hW => (hed.later hB0).later hW)
  have HB0 := hid0 hB0
  obtain ⟨x0, x1, x2, x3, x4, x5⟩ := HXW.out w0 (Below.refl _ _)
  have HBr := hid0 (Below.refl w0.heap.size w0)
  have hfold := hw0.symm
  clear hw0 hB0 hX0 hs0 hm he hE ha hed
  obtain ⟨R, hR⟩ : ∃ R, R = secE E s Ah := ⟨_, rfl⟩
  have HR := hid0 hR
  unfold secE at hR
  rw [← HR.out]
  obtain ⟨l, p, ed⟩ := s
  simp only at *
  have HZ := hid0 hz
  clear hz
  obtain ⟨q1, h1⟩ : ∃ q1, isTagB l = q1 := ⟨_, rfl⟩
  obtain ⟨q2, h2⟩ : ∃ q2, hasL Ah l = q2 := ⟨_, rfl⟩
  obtain ⟨q3, h3⟩ : ∃ q3, isTagB p = q3 := ⟨_, rfl⟩
  obtain ⟨q4, h4⟩ : ∃ q4, (p.toList == []) = q4 := ⟨_, rfl⟩
  obtain ⟨q5, h5⟩ : ∃ q5, (l.toList == [114, 111, 111, 116]) = q5 := ⟨_, rfl⟩
  rw [h1] at HO1 hR
  rw [h2] at HH hR
  rw [h3] at HO2 hR
  rw [h4, h5] at hR
  clear h1 h2 h3 HR
  cases q1 with
  | false =>
    simp only [if_true] at hR
    clear h4 h5
    go_enter Tryz.func42, Tryz.ntmps42
    have mk := hid0 True.intro
    go_wp2_with (first
      | (clear mk; go_at_call 55; refine (HO1.out _ HBr.out).mono ?_; rintro e w1 ⟨rfl, hb1⟩; obtain ⟨x0, x1, x2, x3, x4, x5⟩ := HXW.out w1 hb1; have HB1 := hid0 hb1; clear hb1)
      | fail)
    go_ret
    exact ⟨by rw [hR]; rfl, Below.later HB0.out HB1.out⟩
  | true =>
    simp only [Bool.true_eq_false, if_false] at hR
    cases q2 with
    | true =>
      simp only [if_true] at hR
      clear h4 h5
      go_enter Tryz.func42, Tryz.ntmps42
      have mk := hid0 True.intro
      go_wp2_with (first
        | (clear mk; go_at_call 55; refine (HO1.out _ HBr.out).mono ?_; rintro e w1 ⟨rfl, hb1⟩; obtain ⟨x0, x1, x2, x3, x4, x5⟩ := HXW.out w1 hb1; have HB1 := hid0 hb1; clear hb1)
        | (go_at_call 56; refine (HH.out _ HB1.out).mono ?_; rintro e w2 ⟨rfl, hb2⟩; obtain ⟨y0, y1, y2, y3, y4, y5⟩ := HXW.out w2 hb2; have HB2 := hid0 hb2; clear hb2)
        | fail)
      go_ret
      exact ⟨by rw [hR]; rfl, Below.later HB0.out HB2.out⟩
    | false =>
      simp only [Bool.false_eq_true, if_false] at hR
      cases q4 with
      | true =>
        simp only [Bool.true_eq_false, false_and, if_false] at hR
        clear h5
        go_enter Tryz.func42, Tryz.ntmps42
        have mk := hid0 True.intro
        go_wp2_with (first
          | (clear mk; go_at_call 55; refine (HO1.out _ HBr.out).mono ?_; rintro e w1 ⟨rfl, hb1⟩; obtain ⟨x0, x1, x2, x3, x4, x5⟩ := HXW.out w1 hb1; have HB1 := hid0 hb1; clear hb1)
          | (go_at_call 56; refine (HH.out _ HB1.out).mono ?_; rintro e w2 ⟨rfl, hb2⟩; obtain ⟨y0, y1, y2, y3, y4, y5⟩ := HXW.out w2 hb2; have HB2 := hid0 hb2; clear hb2)
          | fail)
        go_loopw [44] (fun v wr => ∃ k : Nat, k ≤ ed.length ∧ v = .int .i64 (k : Int) ∧ Hid (∀ j, j < k → fE E ed j = none) ∧ Hid (Below w0.heap.size w0 wr)) (fun v _ => ed.length - (intOf v).toNat)
        case atStart => exact ⟨0, Nat.zero_le _, rfl, hid0 (fun j h => absurd h (Nat.not_lt_zero _)), HB2⟩
        case round =>
          obtain ⟨k, hk, rfl, HN, HB⟩ := hrel
          by_cases hlt : k < ed.length
          · have hkI : (k : Int) < (ed.length : Int) := by omega
            have hk0 : (0 : Int) ≤ (k : Int) := by omega
            obtain ⟨b, off, rfl, hbl, c0, c1⟩ := (HED.out wr HB.out).at' k hlt
            have HBo := hid0 (fun o => HB.out.alloc HB.out.size o)
            have hzk := HZ.out _ (List.getElem_mem hlt)
            have HCk := hid0 (fun o => HEn.out ed[k].2 _ hzk (HBo.out o))
            clear hzk
            have hfe := fE_at E ed k hlt
            generalize ed[k].1 = ad at *
            generalize ed[k].2 = x at *
            cases hx : E x with
            | some i =>
              have HV : Hid (R = some i) := hid0 (by rw [hR]; exact firstN_at _ k i (by rw [hfe, hx]) _ 0 (Nat.zero_le _) (by omega) (fun j _ h => HN.out j h))
              rw [hx] at HCk
              simp only [errO] at HCk
              clear hfe hx hR HN HEn
              go_wp2_with (first
                | (go_at_call 57; refine (HCk.out _).mono ?_; rintro e w5 ⟨rfl, hb5⟩; have HB5 := hid0 hb5; clear hb5)
                | fail)
              go_ret
              exact ⟨by rw [HV.out]; rfl, Below.later HB0.out HB5.out⟩
            | none =>
              have HV : Hid (∀ j, j < k + 1 → fE E ed j = none) := hid0 (fun j hj => by
                by_cases e : j = k
                · rw [e, hfe, hx]
                · exact HN.out j (by omega))
              rw [hx] at HCk
              simp only [errO] at HCk
              clear hfe hx HN
              go_wp2_with (first
                | (go_at_call 57; refine (HCk.out _).mono ?_; rintro e w5 ⟨rfl, hb5⟩; have HB5 := hid0 hb5; clear hb5)
                | fail)
              go_roundw
              case rel => exact ⟨k + 1, by omega, by go_num, HV, HB5⟩
              case measure => simp [intOf]; omega
          · have hkI : ¬ (k : Int) < (ed.length : Int) := by omega
            have HV : Hid (R = none) := hid0 (by rw [hR]; exact firstN_none _ _ 0 (fun j _ h => HN.out j (by omega)))
            clear hR HN HEn HED
            go_wp2
            go_ret
            exact ⟨by rw [HV.out]; rfl, Below.later HB0.out HB.out⟩
      | false =>
        simp only [true_and] at hR
        cases q3 with
        | false =>
          simp only [if_true] at hR
          clear h5
          go_enter Tryz.func42, Tryz.ntmps42
          have mk := hid0 True.intro
          go_wp2_with (first
            | (clear mk; go_at_call 55; refine (HO1.out _ HBr.out).mono ?_; rintro e w1 ⟨rfl, hb1⟩; obtain ⟨x0, x1, x2, x3, x4, x5⟩ := HXW.out w1 hb1; have HB1 := hid0 hb1; clear hb1)
            | (go_at_call 56; refine (HH.out _ HB1.out).mono ?_; rintro e w2 ⟨rfl, hb2⟩; obtain ⟨y0, y1, y2, y3, y4, y5⟩ := HXW.out w2 hb2; have HB2 := hid0 hb2; clear hb2)
            | (go_at_call 55; refine (HO2.out _ HB2.out).mono ?_; rintro e w3 ⟨rfl, hb3⟩; obtain ⟨z0, z1, z2, z3, z4, z5⟩ := HXW.out w3 hb3; have HB3 := hid0 hb3; clear hb3)
            | fail)
          go_ret
          exact ⟨by rw [hR]; rfl, Below.later HB0.out HB3.out⟩
        | true =>
          simp only [Bool.true_eq_false, if_false] at hR
          cases q5 with
          | true =>
            simp only [if_true] at hR
            go_enter Tryz.func42, Tryz.ntmps42
            have mk := hid0 True.intro
            go_wp2_with (first
              | (clear mk; go_at_call 55; refine (HO1.out _ HBr.out).mono ?_; rintro e w1 ⟨rfl, hb1⟩; obtain ⟨x0, x1, x2, x3, x4, x5⟩ := HXW.out w1 hb1; have HB1 := hid0 hb1; clear hb1)
              | (go_at_call 56; refine (HH.out _ HB1.out).mono ?_; rintro e w2 ⟨rfl, hb2⟩; obtain ⟨y0, y1, y2, y3, y4, y5⟩ := HXW.out w2 hb2; have HB2 := hid0 hb2; clear hb2)
              | (go_at_call 55; refine (HO2.out _ HB2.out).mono ?_; rintro e w3 ⟨rfl, hb3⟩; obtain ⟨z0, z1, z2, z3, z4, z5⟩ := HXW.out w3 hb3; have HB3 := hid0 hb3; clear hb3)
              | fail)
            go_ret
            exact ⟨by rw [hR]; rfl, Below.later HB0.out HB3.out⟩
          | false =>
            simp only [Bool.false_eq_true, if_false] at hR
            go_enter Tryz.func42, Tryz.ntmps42
            have mk := hid0 True.intro
            go_wp2_with (first
              | (clear mk; go_at_call 55; refine (HO1.out _ HBr.out).mono ?_; rintro e w1 ⟨rfl, hb1⟩; obtain ⟨x0, x1, x2, x3, x4, x5⟩ := HXW.out w1 hb1; have HB1 := hid0 hb1; clear hb1)
              | (go_at_call 56; refine (HH.out _ HB1.out).mono ?_; rintro e w2 ⟨rfl, hb2⟩; obtain ⟨y0, y1, y2, y3, y4, y5⟩ := HXW.out w2 hb2; have HB2 := hid0 hb2; clear hb2)
              | (go_at_call 55; refine (HO2.out _ HB2.out).mono ?_; rintro e w3 ⟨rfl, hb3⟩; obtain ⟨z0, z1, z2, z3, z4, z5⟩ := HXW.out w3 hb3; have HB3 := hid0 hb3; clear hb3)
              | fail)
            go_loopw [44] (fun v wr => ∃ k : Nat, k ≤ ed.length ∧ v = .int .i64 (k : Int) ∧ Hid (∀ j, j < k → fE E ed j = none) ∧ Hid (Below w0.heap.size w0 wr)) (fun v _ => ed.length - (intOf v).toNat)
            case atStart => exact ⟨0, Nat.zero_le _, rfl, hid0 (fun j h => absurd h (Nat.not_lt_zero _)), HB3⟩
            case round =>
              obtain ⟨k, hk, rfl, HN, HB⟩ := hrel
              by_cases hlt : k < ed.length
              · have hkI : (k : Int) < (ed.length : Int) := by omega
                have hk0 : (0 : Int) ≤ (k : Int) := by omega
                obtain ⟨b, off, rfl, hbl, c0, c1⟩ := (HED.out wr HB.out).at' k hlt
                have HBo := hid0 (fun o => HB.out.alloc HB.out.size o)
                have hzk := HZ.out _ (List.getElem_mem hlt)
                have HCk := hid0 (fun o => HEn.out ed[k].2 _ hzk (HBo.out o))
                clear hzk
                have hfe := fE_at E ed k hlt
                generalize ed[k].1 = ad at *
                generalize ed[k].2 = x at *
                cases hx : E x with
                | some i =>
                  have HV : Hid (R = some i) := hid0 (by rw [hR]; exact firstN_at _ k i (by rw [hfe, hx]) _ 0 (Nat.zero_le _) (by omega) (fun j _ h => HN.out j h))
                  rw [hx] at HCk
                  simp only [errO] at HCk
                  clear hfe hx hR HN HEn
                  go_wp2_with (first
                    | (go_at_call 57; refine (HCk.out _).mono ?_; rintro e w5 ⟨rfl, hb5⟩; have HB5 := hid0 hb5; clear hb5)
                    | fail)
                  go_ret
                  exact ⟨by rw [HV.out]; rfl, Below.later HB0.out HB5.out⟩
                | none =>
                  have HV : Hid (∀ j, j < k + 1 → fE E ed j = none) := hid0 (fun j hj => by
                    by_cases e : j = k
                    · rw [e, hfe, hx]
                    · exact HN.out j (by omega))
                  rw [hx] at HCk
                  simp only [errO] at HCk
                  clear hfe hx HN
                  go_wp2_with (first
                    | (go_at_call 57; refine (HCk.out _).mono ?_; rintro e w5 ⟨rfl, hb5⟩; have HB5 := hid0 hb5; clear hb5)
                    | fail)
                  go_roundw
                  case rel => exact ⟨k + 1, by omega, by go_num, HV, HB5⟩
                  case measure => simp [intOf]; omega
              · have hkI : ¬ (k : Int) < (ed.length : Int) := by omega
                have HV : Hid (R = none) := hid0 (by rw [hR]; exact firstN_none _ _ 0 (fun j _ h => HN.out j (by omega)))
                clear hR HN HEn HED
                go_wp2
                go_ret
                exact ⟨by rw [HV.out]; rfl, Below.later HB0.out HB.out⟩
set_option maxRecDepth 10000 in
set_option maxHeartbeats 3200000 in
theorem check_any5 (E : ByteArray → Option Nat) (A : Nat → Addr) (L : List Sec) (a : Option Addr) (c : Nat) (w : World) (hc : L.length ≤ c) (hb : ∀ s ∈ L, s.ed.length ≤ 140737488355328) (hm : Mx w) (he : Sents5 w A) (ha : XA w a L) (hz : ∀ s ∈ L, ∀ e ∈ s.ed, e.2.size ≤ 140737488355328)
    (hE : ∀ x W, x.size ≤ 140737488355328 → Below w.heap.size w W → Calls Tryz.prog 57 #[.string x] W fun e w' => e = .returned (errO A (E x)) ∧ Below W.heap.size W w') :
    Calls Tryz.prog 28 #[.agg #[.slice a L.length c]] w fun e w' => e = .returned (errO A (chkE E L)) ∧ Below w.heap.size w w' := by
  obtain ⟨w0, hw0⟩ : ∃ w0, w0 = w.alloc (.cells #[.slice a L.length c] 24) := ⟨_, rfl⟩
  have hB0 : Below w.heap.size w w0 := by rw [hw0]; exact (Below.refl _ _).alloc (Nat.le_refl _) _
  have hX0 : w0.heap[w.heap.size]? = some (.cells #[.slice a L.length c] 24 (0, 0)) := by rw [hw0]; exact heap_alloc_new w _
  have hs0 : w0.heap.size = w.heap.size + 1 := by rw [hw0]; simp
  have HXW : Hid (∀ W, Below w0.heap.size w0 W → W.cell? ⟨w.heap.size, 0, none⟩ = some (.slice a L.length c) ∧ W.cell? ⟨0, 0, none⟩ = some (.iface 185 (.pointer (some (A 2))))) := hid0 (fun W hW => by
    have hr := (hW.block w.heap.size (by omega)).trans hX0
    exact ⟨by rw [cell_of_row _ _ _ _ _ _ hr]; rfl, ((he.below hB0).below hW).c2⟩)
  have HXA : Hid (∀ W, Below w0.heap.size w0 W → XA W a L) := hid0 (fun W hW => (ha.later hB0).later hW)
  have HCS : Hid (∀ (k : Nat) (hk : k < L.length) (ae : Option Addr) (ce : Nat) W, k ≤ 500 → Below w0.heap.size w0 W → EA W ae L[k].ed → Calls Tryz.prog 42 #[.agg #[.string L[k].loc, .string L[k].par, .slice ae L[k].ed.length ce], .slice a k c] W fun e w' => e = .returned (errO A (fSec E L k)) ∧ Below W.heap.size W w') := hid0 (fun k hk ae ce W h5 hW hed => by
    have hlt : (L.take k).length = k := by rw [List.length_take]; omega
    have h0 := checkSec_any5 E A L[k] ae ce (L.take k) a c W (by omega) (hb _ (List.getElem_mem hk)) ((hm.below hB0).below hW) ((he.below hB0).below hW) (((ha.later hB0).later hW).take k) hed (hz _ (List.getElem_mem hk)) (fun x W' hx hW' => hE x W' hx (Below.later (Below.later hB0 hW) hW'))
    rw [hlt, ← fSec_at E L k hk] at h0
    exact h0)
  have HCt : Hid (L.length ≤ 500 → Calls Tryz.prog 41 #[.slice a L.length c] w0 fun e w' => e = .returned (.int .i64 (nEd L : Nat)) ∧ Below w0.heap.size w0 w') := hid0 (fun h5 => count_any L a c w0 h5 hb (ha.later hB0))
  have HB0 := hid0 hB0
  obtain ⟨x0, x1⟩ := HXW.out w0 (Below.refl _ _)
  have HBr := hid0 (Below.refl w0.heap.size w0)
  have hfold := hw0.symm
  clear hw0 hB0 hX0 hs0 hm he hE ha hb hz
  obtain ⟨R, hR⟩ : ∃ R, R = chkE E L := ⟨_, rfl⟩
  rw [← hR]
  unfold chkE at hR
  by_cases h5 : 500 < L.length
  · have h5I : (500 : Int) < (L.length : Int) := by omega
    have HV : Hid (R = some 2) := hid0 (by rw [hR, if_pos (.inl h5)])
    clear hR HCS HXA HCt
    go_enter Tryz.func28, Tryz.ntmps28
    go_wp2
    go_ret
    exact ⟨by rw [HV.out]; rfl, Below.later HB0.out HBr.out⟩
  · have h5I : ¬ (500 : Int) < (L.length : Int) := by omega
    have HCn := hid0 (HCt.out (by omega))
    by_cases h6 : 20000 < nEd L
    · have h6I : (20000 : Int) < (nEd L : Int) := by omega
      have HV : Hid (R = some 2) := hid0 (by rw [hR, if_pos (.inr h6)])
      clear hR HCS HXA HCt
      generalize nEd L = ne at *
      go_enter Tryz.func28, Tryz.ntmps28
      go_wp2_with (first | (go_at_call 41; refine HCn.out.mono ?_; rintro e w1 ⟨rfl, hb1⟩; obtain ⟨y0, y1⟩ := HXW.out w1 hb1; have HB1 := hid0 hb1; clear hb1) | fail)
      go_ret
      exact ⟨by rw [HV.out]; rfl, Below.later HB0.out HB1.out⟩
    · have h6I : ¬ (20000 : Int) < (nEd L : Int) := by omega
      rw [if_neg (by omega)] at hR
      have HR := hid0 hR
      clear hR HCt
      generalize nEd L = ne at *
      go_enter Tryz.func28, Tryz.ntmps28
      go_wp2_with (first | (go_at_call 41; refine HCn.out.mono ?_; rintro e w1 ⟨rfl, hb1⟩; obtain ⟨y0, y1⟩ := HXW.out w1 hb1; have HB1 := hid0 hb1; clear hb1) | fail)
      go_loopw [20] (fun v wr => ∃ k : Nat, k ≤ L.length ∧ v = .int .i64 (k : Int) ∧ Hid (∀ j, j < k → fSec E L j = none) ∧ Hid (Below w0.heap.size w0 wr)) (fun v _ => L.length - (intOf v).toNat)
      case atStart => exact ⟨0, Nat.zero_le _, rfl, hid0 (fun j h => absurd h (Nat.not_lt_zero _)), HB1⟩
      case round =>
        clear y0 y1 HB1
        obtain ⟨k, hk, rfl, HN, HB⟩ := hrel
        by_cases hlt : k < L.length
        · have hkI : (k : Int) < (L.length : Int) := by omega
          have hk0 : (0 : Int) ≤ (k : Int) := by omega
          have hkc : (k : Int) ≤ (c : Int) := by omega
          obtain ⟨b, off, ae, ce, rfl, hbl, c0, c1, c2, hed⟩ := (HXA.out wr HB.out).at' k hlt
          obtain ⟨w2, hw2⟩ : ∃ w2, w2 = wr.alloc (.cells #[.string L[k].loc, .string L[k].par, .slice ae L[k].ed.length ce] 40) := ⟨_, rfl⟩
          have hb12 : Below wr.heap.size wr w2 := by rw [hw2]; exact (Below.refl _ _).alloc (Nat.le_refl _) _
          have hs2 : w2.heap.size = wr.heap.size + 1 := by rw [hw2]; simp
          have hr2 : w2.heap[wr.heap.size]? = some (.cells #[.string L[k].loc, .string L[k].par, .slice ae L[k].ed.length ce] 40 (0, 0)) := by rw [hw2]; exact heap_alloc_new wr _
          have HB02 : Hid (Below w0.heap.size w0 w2) := hid0 (Below.later HB.out hb12)
          have HSo : Hid (∀ W, Below w2.heap.size w2 W → W.cell? ⟨w.heap.size, 0, none⟩ = some (.slice (some ⟨b, off, none⟩) L.length c) ∧ W.cell? ⟨wr.heap.size, 0, none⟩ = some (.string L[k].loc) ∧ W.cell? ⟨wr.heap.size, 1, none⟩ = some (.string L[k].par) ∧ W.cell? ⟨wr.heap.size, 2, none⟩ = some (.slice ae L[k].ed.length ce) ∧ Below w2.heap.size w2 W) := hid0 (fun W hW => by
            have hr := (hW.block wr.heap.size (by omega)).trans hr2
            exact ⟨(HXW.out W (Below.later HB02.out hW)).1, by rw [cell_of_row _ _ _ _ _ _ hr]; rfl, by rw [cell_of_row _ _ _ _ _ _ hr]; rfl, by rw [cell_of_row _ _ _ _ _ _ hr]; rfl, hW⟩)
          have HC2 : Hid (∀ W, Below w2.heap.size w2 W → Calls Tryz.prog 42 #[.agg #[.string L[k].loc, .string L[k].par, .slice ae L[k].ed.length ce], .slice (some ⟨b, off, none⟩) k c] W fun e w' => e = .returned (errO A (fSec E L k)) ∧ Below w2.heap.size w2 w') := hid0 (fun W hW => (HCS.out k hlt ae ce W (by omega) (Below.later HB02.out hW) ((hed.later hb12).later hW)).mono (fun e w' h => ⟨h.1, Below.later hW h.2⟩))
          have HEND : Hid (∀ W, Below w2.heap.size w2 W → Below w0.heap.size w0 W) := hid0 (fun W hW => Below.later HB02.out hW)
          have HF2 := hid0 hw2
          obtain ⟨z0, z1, z2, z3, hBB⟩ := HSo.out w2 (Below.refl _ _)
          have HX1 := hid0 (HXW.out wr HB.out).1
          clear hw2 hb12 hs2 hr2 hed
          generalize L[k].loc = l at *
          generalize L[k].par = p at *
          generalize L[k].ed.length = n at *
          cases hx : fSec E L k with
          | some i =>
            have HV : Hid (R = some i) := hid0 (by rw [HR.out]; exact firstN_at _ k i hx _ 0 (Nat.zero_le _) (by omega) (fun j _ h => HN.out j h))
            rw [hx] at HC2
            simp only [errO] at HC2
            clear hx HN HCS HXA HR
            go_wp2
            rw [← HF2.out]
            go_region_held3 (fun W => W.cell? ⟨w.heap.size, 0, none⟩ = some (.slice (some ⟨b, off, none⟩) L.length c) ∧ W.cell? ⟨wr.heap.size, 0, none⟩ = some (.string l) ∧ W.cell? ⟨wr.heap.size, 1, none⟩ = some (.string p) ∧ W.cell? ⟨wr.heap.size, 2, none⟩ = some (.slice ae n ce) ∧ Below w2.heap.size w2 W) (first | exact HSo.out _ (by go_grown) | (go_split_ands; exact HSo.out _ (by go_grown)))
              (first | (go_at_call 42; go_split_ands; refine (HC2.out _ (by go_grown)).mono ?_; rintro e w3 ⟨rfl, hb3⟩))
            go_wp2
            go_ret
            exact ⟨by rw [HV.out]; rfl, Below.later HB0.out (HEND.out _ (by assumption))⟩
          | none =>
            have HV : Hid (∀ j, j < k + 1 → fSec E L j = none) := hid0 (fun j hj => by
              by_cases e : j = k
              · rw [e, hx]
              · exact HN.out j (by omega))
            rw [hx] at HC2
            simp only [errO] at HC2
            clear hx HN
            go_wp2
            rw [← HF2.out]
            go_region_held3 (fun W => W.cell? ⟨w.heap.size, 0, none⟩ = some (.slice (some ⟨b, off, none⟩) L.length c) ∧ W.cell? ⟨wr.heap.size, 0, none⟩ = some (.string l) ∧ W.cell? ⟨wr.heap.size, 1, none⟩ = some (.string p) ∧ W.cell? ⟨wr.heap.size, 2, none⟩ = some (.slice ae n ce) ∧ Below w2.heap.size w2 W) (first | exact HSo.out _ (by go_grown) | (go_split_ands; exact HSo.out _ (by go_grown)))
              (first | (go_at_call 42; go_split_ands; refine (HC2.out _ (by go_grown)).mono ?_; rintro e w3 ⟨rfl, hb3⟩))
            go_wp2
            go_split_ands
            have HB7 := hid0 (HEND.out _ (by assumption))
            go_roundw
            case rel => exact ⟨k + 1, by omega, by go_num, HV, HB7⟩
            case measure => simp [intOf]; omega
        · have hkI : ¬ (k : Int) < (L.length : Int) := by omega
          have HV : Hid (R = none) := hid0 (by rw [HR.out]; exact firstN_none _ _ 0 (fun j _ h => HN.out j (by omega)))
          clear HN HCS HXA HR
          go_wp2
          go_ret
          exact ⟨by rw [HV.out]; rfl, Below.later HB0.out HB.out⟩
set_option maxRecDepth 10000 in
set_option maxHeartbeats 3200000 in
theorem entry_any5 (A : Nat → Addr) (s : ByteArray) (w : World) (hs : s.size ≤ 140737488355328) (hT : SeqAt w) (he : Sents5 w A) :
    Calls Tryz.prog 57 #[.string s] w fun e w' => e = .returned (errO A (entF s.data.toList)) ∧ Below w.heap.size w w' := by
  obtain ⟨l, hl⟩ : ∃ l, l = s.data.toList := ⟨_, rfl⟩
  have hll : l.length = s.size := by rw [hl]; simp
  have HIn : Hid (∀ k W, clean l k → k < l.length → Below w.heap.size w W → Calls Tryz.prog 84 #[.string s, .int .i64 (k : Int)] W fun e w' => e = .returned (.tuple #[unitVal (uniOf (l.drop k)).1 k (k + (uniOf (l.drop k)).2), .bool true]) ∧ Below W.heap.size W w') := hid0 (fun k W hc hk hW => by
    have h0 := next_in s k (by omega) hs W (hT.later hW)
    rw [← hl, nextVal, edge_clean hc, if_pos rfl] at h0
    exact h0)
  have HOut : Hid (∀ k W, l.length ≤ k → Calls Tryz.prog 84 #[.string s, .int .i64 (k : Int)] W fun e w' => e = .returned (.tuple #[noUnit, .bool false]) ∧ Below W.heap.size W w') := hid0 (fun k W hk => next_end s k (by omega) W)
  have HEr : Hid (∀ W, Below w.heap.size w W → W.cell? ⟨2, 0, none⟩ = some (.iface 185 (.pointer (some (A 1)))) ∧ W.cell? ⟨0, 0, none⟩ = some (.iface 185 (.pointer (some (A 2))))) := hid0 (fun W hW => ⟨(he.below hW).c1, (he.below hW).c2⟩)
  have HB0 := hid0 (Below.refl w.heap.size w)
  rw [← hl]
  have hlb : l.length ≤ 140737488355328 := by omega
  clear hT he hl hll
  -- what the first call answers
  have HF : Hid (∃ v0 v1 v2 : Int, Calls Tryz.prog 84 #[.string s, .int .i64 0] w (fun e w' => e = .returned (.tuple #[.agg #[.int .i64 v0, .int .i64 v1, .int .i64 v2], .bool (decide (0 < l.length))]) ∧ Below w.heap.size w w') ∧ (0 < l.length → v0 = (uniOf (l.drop 0)).1 ∧ v2 = ((0 + (uniOf (l.drop 0)).2 : Nat) : Int))) := hid0 (by
    by_cases h : 0 < l.length
    · refine ⟨_, _, _, by rw [decide_eq_true h]; exact HIn.out 0 w (clean_zero l) h HB0.out, fun _ => ⟨rfl, rfl⟩⟩
    · refine ⟨_, _, _, by rw [decide_eq_false h]; exact HOut.out 0 w (by omega), fun h' => absurd h' h⟩)
  obtain ⟨v0, v1, v2, hF, hv⟩ := HF.out
  have HF1 := hid0 hF
  have HV1 := hid0 hv
  clear HF hF hv
  go_enter Tryz.func57, Tryz.ntmps57
  go_wp2_with (first
    | (go_at_call 84; refine HF1.out.mono ?_; rintro e w1 ⟨rfl, hb1⟩; have HB1 := hid0 hb1; clear hb1)
    | fail)
  have HE1 : Hid (Ent w (w1.alloc (.cells #[.int .i64 v0, .int .i64 v1, .int .i64 v2] 88)) l w1.heap.size 0 0 v0 v1 v2) := hid0 ⟨HB1.out.alloc HB1.out.size _, heap_alloc_new w1 _, HB1.out.size, clean_zero l, Nat.zero_le _, ⟨[], rfl, rfl, fun u h => by simp at h⟩⟩
  go_loopw [3, 4, 5] (fun t3 t4 t5 wr => ∃ (n k g : Nat) (v0 v1 v2 : Int), t3 = .int .i64 (n : Int) ∧ t4 = .pointer (some ⟨g, 0, none⟩) ∧ t5 = .bool (decide (k < l.length)) ∧ n ≤ l.length ∧ Hid (k < l.length → v0 = (uniOf (l.drop k)).1 ∧ v2 = ((k + (uniOf (l.drop k)).2 : Nat) : Int)) ∧ Hid (Ent w wr l g k n v0 v1 v2)) (fun t3 _ _ _ => l.length + 1 - (intOf t3).toNat)
  case atStart => exact ⟨0, 0, _, _, _, _, rfl, rfl, rfl, Nat.zero_le _, HV1, HE1⟩
  case round =>
    clear HE1 HB1 HF1 HV1
    obtain ⟨n, k, g, v0, v1, v2, rfl, rfl, rfl, hn, HV, HE⟩ := hrel
    obtain ⟨⟨c0, c1, c2⟩, f0, f1, f2⟩ := row3 HE.out.row
    obtain ⟨e1, e2⟩ := HEr.out wr HE.out.bel
    by_cases hk : k < l.length
    · rw [decide_eq_true hk]
      obtain ⟨rfl, rfl⟩ := HV.out hk
      have HD := hid0 (drop_size l k hk)
      by_cases hbad : (uniOf (l.drop k)).1 = -1
      · have HR := hid0 (ent_bad hk hbad HE.out.cnt)
        rw [hbad] at c0
        clear HD
        go_wp2
        go_ret
        exact ⟨by rw [HR.out]; rfl, HE.out.bel⟩
      · have HC := hid0 (cnt_next hk hbad HE.out.cnt)
        have hn2 := HC.out.2
        have HCl := hid0 (clean_next HE.out.cl)
        have hkl := HD.out.2.1
        have HW : Hid (Below w.heap.size w (wr.alloc (.cells #[.int .i64 (uniOf (l.drop k)).1, .int .i64 v1, .int .i64 ((k + (uniOf (l.drop k)).2 : Nat) : Int)] 88))) := hid0 (HE.out.bel.alloc HE.out.bel.size _)
        have HNx : Hid (∃ y0 y1 y2 : Int, Calls Tryz.prog 84 #[.string s, .int .i64 ((k + (uniOf (l.drop k)).2 : Nat) : Int)] (wr.alloc (.cells #[.int .i64 (uniOf (l.drop k)).1, .int .i64 v1, .int .i64 ((k + (uniOf (l.drop k)).2 : Nat) : Int)] 88)) (fun e w' => e = .returned (.tuple #[.agg #[.int .i64 y0, .int .i64 y1, .int .i64 y2], .bool (decide (k + (uniOf (l.drop k)).2 < l.length))]) ∧ Below (wr.alloc (.cells #[.int .i64 (uniOf (l.drop k)).1, .int .i64 v1, .int .i64 ((k + (uniOf (l.drop k)).2 : Nat) : Int)] 88)).heap.size (wr.alloc (.cells #[.int .i64 (uniOf (l.drop k)).1, .int .i64 v1, .int .i64 ((k + (uniOf (l.drop k)).2 : Nat) : Int)] 88)) w') ∧ (k + (uniOf (l.drop k)).2 < l.length → y0 = (uniOf (l.drop (k + (uniOf (l.drop k)).2))).1 ∧ y2 = ((k + (uniOf (l.drop k)).2 + (uniOf (l.drop (k + (uniOf (l.drop k)).2))).2 : Nat) : Int))) := hid0 (by
          by_cases h : k + (uniOf (l.drop k)).2 < l.length
          · exact ⟨_, _, _, by rw [decide_eq_true h]; exact HIn.out _ _ HCl.out h HW.out, fun _ => ⟨rfl, rfl⟩⟩
          · exact ⟨_, _, _, by rw [decide_eq_false h]; exact HOut.out _ _ (by omega), fun h' => absurd h' h⟩)
        obtain ⟨y0, y1, y2, hq, hy⟩ := HNx.out
        have HQ := hid0 hq
        have HY := hid0 hy
        clear HNx hq hy HIn HOut HV
        generalize hk2 : k + (uniOf (l.drop k)).2 = k2 at *
        generalize (uniOf (l.drop k)).1 = p at *
        clear HD hk2
        go_wp2_with (first
          | (go_at_call 84; refine HQ.out.mono ?_; rintro e w5 ⟨rfl, hb5⟩; have HR5 := hid0 (boxRow hb5); have HB5 := hid0 (HW.out.trans (hb5.mono HW.out.size)); obtain ⟨⟨d0, d1, d2⟩, g0, g1, g2⟩ := row3 HR5.out; clear hb5)
          | fail)
        have HE6 := hid0 (Ent.mk (set3_below HB5.out HE.out.bel.size (.int .i64 y0) (.int .i64 y1) (.int .i64 y2)) (set3 (.int .i64 y0) (.int .i64 y1) (.int .i64 y2) HR5.out) HE.out.bel.size HCl.out hkl HC.out.1)
        go_roundw
        case rel => exact ⟨n + 1, k2, wr.heap.size, y0, y1, y2, by go_num, rfl, rfl, hn2, HY, HE6⟩
        case measure => simp [intOf]; omega
    · rw [decide_eq_false hk]
      have HR := hid0 (ent_end hk HE.out.cnt)
      by_cases h0 : n = 0
      · have h0I : (n : Int) = 0 := by omega
        rw [h0] at HR
        simp only [if_true] at HR
        go_wp2
        go_ret
        exact ⟨by rw [HR.out]; rfl, HE.out.bel⟩
      · have h0I : ¬ (n : Int) = 0 := by omega
        rw [if_neg h0] at HR
        by_cases h3 : 32 < n
        · have h3I : (32 : Int) < (n : Int) := by omega
          rw [if_pos h3] at HR
          go_wp2
          go_ret
          exact ⟨by rw [HR.out]; rfl, HE.out.bel⟩
        · have h3I : ¬ (32 : Int) < (n : Int) := by omega
          rw [if_neg h3] at HR
          go_wp2
          go_ret
          exact ⟨by rw [HR.out]; rfl, HE.out.bel⟩
set_option maxRecDepth 10000 in
set_option maxHeartbeats 3200000 in
theorem chain_any5 (A : Nat → Addr) (L : List Sec) (a : Option Addr) (c : Nat) (t : ByteArray) (w : World) (hc : L.length ≤ c) (hb : ∀ s ∈ L, s.ed.length ≤ 140737488355328) (hz : ∀ s ∈ L, ∀ e ∈ s.ed, e.2.size ≤ 140737488355328) (hm : Mx w) (hT : Tb w) (hQ : SeqAt w) (he : Sents5 w A) (ha : XA w a L) :
    Calls Tryz.prog 13 #[.agg #[.slice a L.length c], .string t] w fun e w' => GoChain A w.heap.size w' (chainF L t) e ∧ Below w.heap.size w w' := by
  obtain ⟨w0, hw0⟩ : ∃ w0, w0 = w.alloc (.cells #[.slice a L.length c] 24) := ⟨_, rfl⟩
  have hB0 : Below w.heap.size w w0 := by rw [hw0]; exact (Below.refl _ _).alloc (Nat.le_refl _) _
  have hX0 : w0.heap[w.heap.size]? = some (.cells #[.slice a L.length c] 24 (0, 0)) := by rw [hw0]; exact heap_alloc_new w _
  have hs0 : w0.heap.size = w.heap.size + 1 := by rw [hw0]; simp
  have HXW : Hid (∀ W, Below w0.heap.size w0 W → W.cell? ⟨w.heap.size, 0, none⟩ = some (.slice a L.length c) ∧ W.cell? ⟨7, 0, none⟩ = some (.iface 185 (.pointer (some (A 7)))) ∧ W.cell? ⟨0, 0, none⟩ = some (.iface 185 (.pointer (some (A 2))))) := hid0 (fun W hW => by
    have hr := (hW.block w.heap.size (by omega)).trans hX0
    exact ⟨by rw [cell_of_row _ _ _ _ _ _ hr]; rfl, ((he.below hB0).below hW).c7, ((he.below hB0).below hW).c2⟩)
  have HCk := hid0 (check_any5 entE A L a c w0 hc hb (hm.below hB0) (he.below hB0) (ha.later hB0) hz (fun x W hx hW => entry_any5 A x W hx ((hQ.later hB0).later hW) ((he.below hB0).below hW)))
  have HCa : Hid (∀ W, Below w0.heap.size w0 W → Calls Tryz.prog 29 #[.string t] W fun e w' => e = .returned (canE A (tagF t.data.toList)) ∧ Below W.heap.size W w') := hid0 (fun W hW => canon_any5 A t W ((hm.below hB0).below hW) ((hT.below hB0).below hW) ((he.below hB0).below hW))
  have HPo : Hid (L.length ≤ 500 → ∀ x W, Gd x → Below w0.heap.size w0 W → Calls Tryz.prog 30 #[.agg #[.slice a L.length c], .string x] W fun e w' => e = .returned (.string (parL L x)) ∧ Below W.heap.size W w') := hid0 (fun h5 x W hx hW => parentOf_any L a c x W (by omega) (by have := hx.size; omega) hx.last ((ha.later hB0).later hW))
  have HB0 := hid0 hB0
  obtain ⟨x0, x1, x2⟩ := HXW.out w0 (Below.refl _ _)
  have hfold := hw0.symm
  have hsz : w.heap.size ≤ w0.heap.size := by omega
  clear hw0 hB0 hX0 hs0 hm hT hQ he ha hb hz hc
  obtain ⟨R, hR⟩ : ∃ R, R = chainF L t := ⟨_, rfl⟩
  rw [← hR]
  unfold chainF at hR
  cases hk : chkE entE L with
  | some i =>
    rw [hk] at hR HCk
    simp only [errO] at hR HCk
    subst hR
    clear hk HPo HCa
    go_enter Tryz.func13, Tryz.ntmps13
    go_wp2_with (first
      | (go_at_call 28; refine HCk.out.mono ?_; rintro e w1 ⟨rfl, hb1⟩; have HB1 := hid0 (Below.later HB0.out hb1); clear hb1)
      | fail)
    go_returns
    exact ⟨rfl, HB1.out⟩
  | none =>
    have h5 : L.length ≤ 500 := by
      unfold chkE at hk
      split at hk
      · cases hk
      · omega
    have HP := hid0 (HPo.out h5)
    have HG := hid0 (fun (x : ByteArray) (hx : Gd x) => gd_par hk hx)
    rw [hk] at hR HCk
    simp only [errO] at hR HCk
    clear hk HPo
    cases hq : tagF t.data.toList with
    | none =>
      rw [hq] at hR HCa
      simp only [canE] at hR HCa
      subst hR
      clear hq HP HG
      go_enter Tryz.func13, Tryz.ntmps13
      go_wp2_with (first
        | (go_at_call 28; refine HCk.out.mono ?_; rintro e w1 ⟨rfl, hb1⟩; have HB1 := hid0 hb1; clear hb1)
        | (go_at_call 29; refine (HCa.out _ HB1.out).mono ?_; rintro e w2 ⟨rfl, hb2⟩; have HB2 := hid0 (Below.later HB0.out (Below.later HB1.out hb2)); clear hb2)
        | fail)
      go_returns
      exact ⟨rfl, HB2.out⟩
    | some x =>
      rw [hq] at hR HCa
      simp only [canE] at hR HCa
      have HGx := hid0 (gd_tag hq)
      have HR := hid0 hR
      obtain ⟨i0, hi, hz0, hz1, hz2⟩ := info_parts infoStr
      clear hq hR
      generalize strOf x = X at *
      go_enter Tryz.func13, Tryz.ntmps13
      go_wp2_with (first
        | (go_at_call 28; refine HCk.out.mono ?_; rintro e w1 ⟨rfl, hb1⟩; have HB1 := hid0 hb1; clear hb1)
        | (go_at_call 29; refine (HCa.out _ HB1.out).mono ?_; rintro e w2 ⟨rfl, hb2⟩; have HB2 := hid0 (Below.later HB1.out hb2); clear hb2)
        | fail)
      have HO0 : Hid (OwnS (w2.alloc (.cells #[.string X] 9)) w0.heap.size (.slice (some ⟨w2.heap.size, 0, none⟩) 1 1) [X]) := hid0 (by
        have h0 := World.ownsRow_lit (base := w0.heap.size) (e := 9) (size := 1) w2 #[.string X] 1 HB2.out.size (by unfold maxLen; omega) rfl
        simpa [OwnS, cellsS] using h0)
      have HB3 := hid0 (HB2.out.alloc HB2.out.size (.cells #[.string X] 9))
      go_loopw [7, 9] (fun t7 v wr => ∃ (f : Nat) (ch : List ByteArray) (y : ByteArray), t7 = .string y ∧ ch.length + f = 18 ∧ ch.length ≤ 16 ∧ Hid (R = chainGo L f ch y) ∧ Hid (Gd y) ∧ Hid (OwnS wr w0.heap.size v ch) ∧ Hid (Below w0.heap.size w0 wr)) (fun _ v _ => 17 - lenOf v)
      case atStart => exact ⟨17, [X], X, rfl, rfl, by simp, HR, HGx, HO0, HB3⟩
      case round =>
        clear HO0 HB3 HB1 HB2 HR HGx HCk HCa
        obtain ⟨f, ch, y, rfl, hf, h16, HRr, HGy, HO, HB⟩ := hrel
        obtain ⟨av, cap, rfl, hsa, _⟩ := HO.out.sa
        obtain ⟨f, rfl⟩ : ∃ g, f = g + 1 := ⟨f - 1, by omega⟩
        obtain ⟨z0, z1, z2⟩ := HXW.out wr HB.out
        have hstep := HRr.out
        rw [chainGo] at hstep
        clear HRr
        cases hy : (y.toList == [114, 111, 111, 116]) with
        | true =>
          rw [hy, if_pos rfl] at hstep
          have HV := hid0 hstep
          clear hstep
          go_wp2
          go_returns
          refine ⟨?_, Below.later HB0.out HB.out⟩
          rw [HV.out]
          exact ⟨_, rfl, HO.out.base' hsz⟩
        | false =>
          rw [hy, if_neg (by simp)] at hstep
          have HPx := hid0 (fun W hW => HP.out y W HGy.out hW)
          have HGn := hid0 (HG.out y HGy.out)
          generalize parL L y = nx at *
          have HCo := hid0 (fun W (hW : Below wr.heap.size wr W) => containsS_any ch av cap nx W (by omega) (hsa.below hW))
          clear hsa
          cases hcn : Lib.containsS ch nx with
          | true =>
            rw [hcn, if_pos rfl] at hstep
            rw [hcn] at HCo
            have HV := hid0 hstep
            clear hstep hcn
            go_wp2_with (first
                | (go_at_call 30; refine (HPx.out _ HB.out).mono ?_; rintro e w3 ⟨rfl, hb3⟩; have HW3 := hid0 hb3; have HB3 := hid0 (Below.later HB.out hb3); obtain ⟨u0, u1, u2⟩ := HXW.out w3 HB3.out; clear hb3)
                | (go_at_call 31; refine (HCo.out _ HW3.out).mono ?_; rintro e w4 ⟨rfl, hw4⟩; have hw5 := hw4.symm; subst hw5)
                | fail)
            go_region
            go_wp2
            go_returns
            exact ⟨by rw [HV.out]; rfl, Below.later HB0.out (by have := HB3.out; go_grown)⟩
          | false =>
            rw [hcn, if_neg (by simp)] at hstep
            rw [hcn] at HCo
            by_cases h6 : ch.length = 16
            · rw [if_pos h6] at hstep
              have h6I : (ch.length : Int) = 16 := by omega
              have HV := hid0 hstep
              clear hstep hcn h6
              go_wp2_with (first
                | (go_at_call 30; refine (HPx.out _ HB.out).mono ?_; rintro e w3 ⟨rfl, hb3⟩; have HW3 := hid0 hb3; have HB3 := hid0 (Below.later HB.out hb3); obtain ⟨u0, u1, u2⟩ := HXW.out w3 HB3.out; clear hb3)
                | (go_at_call 31; refine (HCo.out _ HW3.out).mono ?_; rintro e w4 ⟨rfl, hw4⟩; have hw5 := hw4.symm; subst hw5)
                | fail)
              go_region
              go_wp2
              go_returns
              exact ⟨by rw [HV.out]; rfl, Below.later HB0.out (by have := HB3.out; go_grown)⟩
            · rw [if_neg h6] at hstep
              have h6I : ¬ (ch.length : Int) = 16 := by omega
              have HV := hid0 hstep
              have HOW : Hid (∀ W, Below wr.heap.size wr W → OwnS W w0.heap.size (.slice av ch.length cap) ch) := hid0 (fun W hW => HO.out.later' hW)
              clear hstep hcn HO
              go_wp2_with (first
                | (go_at_call 30; refine (HPx.out _ HB.out).mono ?_; rintro e w3 ⟨rfl, hb3⟩; have HW3 := hid0 hb3; have HB3 := hid0 (Below.later HB.out hb3); obtain ⟨u0, u1, u2⟩ := HXW.out w3 HB3.out; clear hb3)
                | (go_at_call 31; refine (HCo.out _ HW3.out).mono ?_; rintro e w4 ⟨rfl, hw4⟩; have hw5 := hw4.symm; subst hw5)
                | (at_builtin; refine wpList_append_own _ rfl _ _ 28 rfl w0.heap.size 9 i0 (.string ⟨#[]⟩) 1 16 Tryz.underlying28 hi hz0 hz1 hz2 rfl (by decide) _ _ _ rfl (World.ownsRow.alloc (HOW.out _ HW3.out) _) ⟨_, 0, none⟩ 1 1 [.string nx] rfl rfl (cell_one_new _ _ _) ?c2b ?c3b ?c4b ?c5b ?_)
                | fail)
              case c2b => simp [Value.oneCell']
              case c3b => unfold maxLen; omega
              case c4b => omega
              case c5b => have := HB3.out.size; simp; omega
              intro v2 w4 hown' hgrow _
              obtain ⟨g1, g2⟩ := owns_snoc (base := w0.heap.size) (L := ch) (c := nx) (n := ch.length) rfl (HOW.out _ HW3.out) hown' hgrow HB3.out (Nat.le_refl _)
              have HO4 := hid0 g1
              have HB4 := hid0 g2
              obtain ⟨av2, cap2, rfl, _⟩ := g1.sa
              clear hown' hgrow g1 g2 HOW HB3 HW3
              go_wp2
              go_roundw
              case rel => exact ⟨f, ch ++ [nx], nx, rfl, by simp; omega, by simp; omega, HV, HGn, HO4, HB4⟩
              case measure => simp [lenOf]; omega
section
attribute [local go_sem] Oper.semAt_some
set_option maxRecDepth 100000 in
set_option maxHeartbeats 2000000 in
theorem resolve_any5 (A : Nat → Addr) (L : List Sec) (a : Option Addr) (c : Nat) (t : ByteArray) (w : World) (hl : L.length ≤ 1000000) (hc : L.length ≤ c) (hb : ∀ s ∈ L, s.ed.length ≤ 1000000000) (hz : ∀ s ∈ L, ∀ e ∈ s.ed, e.2.size ≤ 140737488355328) (hm : Mx w) (hT : Tb w) (hQ : SeqAt w) (he : Sents5 w A) (ha : XA w a L) :
    Calls Tryz.prog 6 #[.agg #[.slice a L.length c], .string t] w fun e w' => GoResolve A w.heap.size w' L t e ∧ Below w.heap.size w w' := by
  obtain ⟨w0, hw0⟩ : ∃ w0, w0 = w.alloc (.cells #[.slice a L.length c] 24) := ⟨_, rfl⟩
  have hB0 : Below w.heap.size w w0 := by rw [hw0]; exact (Below.refl _ _).alloc (Nat.le_refl _) _
  have hX0 : w0.heap[w.heap.size]? = some (.cells #[.slice a L.length c] 24 (0, 0)) := by rw [hw0]; exact heap_alloc_new w _
  have hs0 : w0.heap.size = w.heap.size + 1 := by rw [hw0]; simp
  have x0 : w0.cell? ⟨w.heap.size, 0, none⟩ = some (.slice a L.length c) := by rw [cell_of_row _ _ _ _ _ _ hX0]; rfl
  have HCh := hid0 (chain_any5 A L a c t w0 hc (fun s hs => Nat.le_trans (hb s hs) (by decide)) hz (hm.below hB0) (hT.below hB0) (hQ.later hB0) (he.below hB0) (ha.later hB0))
  have HE : Hid (∀ W, Below w0.heap.size w0 W → Sents5 W A) := hid0 (fun W hW => (he.below hB0).below hW)
  have HXA : Hid (∀ W, Below w0.heap.size w0 W → XA W a L) := hid0 (fun W hW => (ha.later hB0).later hW)
  have HX0 := hid0 hX0
  have HB0 := hid0 hB0
  have HS0 := hid0 hs0
  have HBD := hid0 hb
  have HZD := hid0 hz
  have hfold := hw0.symm
  clear hw0 hB0 hX0 hs0 hm hT hQ he ha hb hz
  unfold GoResolve
  have HLn := hid0 (chainF_len L t)
  cases hr : chainF L t with
  | bad i =>
    rw [hr] at HCh
    simp only [GoChain] at HCh
    clear hr HLn
    go_enter Tryz.func6, Tryz.ntmps6
    go_wp2_with (go_at_call 13; refine HCh.out.mono ?_; rintro e w1 ⟨rfl, hb1⟩; have HB1 := hid0 (Below.later HB0.out hb1); clear hb1)
    go_returns
    exact ⟨rfl, HB1.out⟩
  | ok cc =>
    rw [hr] at HCh
    simp only [GoChain] at HCh
    obtain ⟨hcl, hcp⟩ := HLn.out cc hr
    clear hr HLn
    refine (callsIn_wide (n := 8)).1 ?_
    refine callsIn_of_wp_marks Tryz.func6 rfl trivial ?_ rfl
    simp only [Tryz.ntmps6, List.size_toArray, List.length_cons, List.length_nil, Nat.reduceAdd, Nat.reduceSub, Array.replicate_succ, Array.replicate_zero, List.push_toArray, List.append_toArray, List.nil_append, List.cons_append]
    have hmm := @run_makeMap Tryz.prog
    gi_wp2_with (first
      | (refine ⟨trivial, ?_⟩; gi_at_call 13; refine (callsIn_wide.2 HCh.out).mono ?_; rintro e w1 ⟨⟨v, rfl, ho⟩, hb1⟩; obtain ⟨gC, kC, rfl, hg1, hg2, hg3⟩ := own_form ho hcp; have HO1 := hid0 ho; have HB1 := hid0 hb1; clear ho hb1 hg1 hg2 hg3)
      | (refine ⟨trivial, ?_⟩; gi_at_call 15; refine (back_in _ _ ⟨_, _, _, rfl⟩ _).mono ?_; rintro e w' ⟨rfl, rfl⟩)
      | fail)
    obtain ⟨wR, hwR⟩ : ∃ wR, wR = ((w1.alloc (.map #[] 0)).alloc (.cells #[.map (some w1.heap.size)] 48)).alloc (.cells #[.slice (some ⟨gC, 0, none⟩) cc.length kC] 28) := ⟨_, rfl⟩
    obtain ⟨cur, hgC, hcur⟩ : ∃ cur, w1.heap[gC]? = some (.cells cur 9 (0, 0)) ∧ ∀ k (h : k < cc.length), cur[k]? = some (.string cc[k]) := by
      rcases HO1.out.2 with ⟨hv, _⟩ | ⟨g', cap', cur, hv, _, hb', hc1, _, _, h4⟩
      · cases hv
      · cases hv
        refine ⟨cur, hb', fun k hk => ?_⟩
        have h5 : (cur.toList.take (cc.length * 1))[k]? = (cellsS cc)[k]? := by rw [h4]
        rw [List.getElem?_take_of_lt (by omega), Array.getElem?_toList] at h5
        rw [h5]
        simp [cellsS, hk]
    have hbR : Below w1.heap.size w1 wR := by rw [hwR]; exact (((Below.refl _ _).alloc (Nat.le_refl _) _).alloc (by simp) _).alloc (by simp; omega) _
    have hsR : wR.heap.size = w1.heap.size + 3 := by rw [hwR]; simp
    have hmR : wR.ownsMap Tryz.prog 9 outElem w1.heap.size 0 (.map []) := by rw [hwR]; exact ((World.ownsMap_made w1 _ _ _).alloc _).alloc _
    have hvR : wR.heap[w1.heap.size + 1]? = some (.cells #[.map (some w1.heap.size)] 48 (0, 0)) := by
      rw [hwR]
      have h := heap_alloc_new (w1.alloc (.map #[] 0)) (.cells #[.map (some w1.heap.size)] 48)
      rw [show (w1.alloc (.map #[] 0)).heap.size = w1.heap.size + 1 by simp] at h
      exact (Below.heap_alloc _ _ _ (by simp)).trans h
    have hnR : wR.heap[w1.heap.size + 1 + 1]? = some (.cells #[.slice (some ⟨gC, 0, none⟩) cc.length kC] 28 (0, 0)) := by
      rw [hwR]
      have h := heap_alloc_new ((w1.alloc (.map #[] 0)).alloc (.cells #[.map (some w1.heap.size)] 48)) (.cells #[.slice (some ⟨gC, 0, none⟩) cc.length kC] 28)
      rw [show ((w1.alloc (.map #[] 0)).alloc (.cells #[.map (some w1.heap.size)] 48)).heap.size = w1.heap.size + 1 + 1 by simp] at h
      exact h
    rw [← hwR]
    have hs0 := HS0.out
    have hs1 := HB1.out.size
    have hgR : wR.heap[gC]? = some (.cells cur 9 (0, 0)) := (hbR.block gC (Array.getElem?_eq_some_iff.1 hgC).1).trans hgC
    have HB1R := hid0 (Below.later HB1.out hbR)
    clear hwR hgC HO1 hfold x0 HCh
    refine wpIn_rangeFunc_ownH rfl (by omega) (gf := 33) (lb := #[.pointer (some ⟨w1.heap.size + 1 + 1, 0, none⟩)]) rfl trivial (enters_of Tryz.func33 (by kernel_rfl) rfl)
      (back_stops 7 (by omega) (w1.heap.size + 1 + 1) gC kC cc cur (by omega) wR hnR hgR hcur) KC.trans (fun W l o o' _ ho hc _ => kc_putObj W l o o' ho hc) (Below.refl _ _) (fun _ => rfl)
      (ResI L w0 w1.heap.size wR.heap.size) (fun _ _ _ => False) (resI_own L w0 w1.heap.size wR.heap.size (by omega) (by omega)) (fun _ _ _ _ _ hs _ _ => hs)
      ⟨⟨_, hmR, says_nil⟩, HB1R.out, hvR, Nat.le_refl _⟩
      (fun x a' _ => a' = { tmps := #[.agg #[.slice a L.length c], .string t, .pointer (some ⟨w.heap.size, 0, none⟩), undef, .slice none 0 0, .nilIface, .slice (some ⟨gC, 0, none⟩) cc.length kC, .nilIface, .pointer (some ⟨w1.heap.size + 1, 0, none⟩), undef, .string x.2, undef, .tuple #[.slice (some ⟨gC, 0, none⟩) cc.length kC, .nilIface], .agg #[.slice a L.length c], .string t, .tuple #[.slice (some ⟨gC, 0, none⟩) cc.length kC, .nilIface], .slice (some ⟨gC, 0, none⟩) cc.length kC, .nilIface, .nilIface, .bool false, undef, .map (some w1.heap.size), .slice (some ⟨gC, 0, none⟩) cc.length kC, .func (.func 33) #[] #[.pointer (some ⟨w1.heap.size + 1 + 1, 0, none⟩)], .int .i64 ((x.1 : Nat) : Int), .string x.2, undef, undef, undef, undef, undef, undef, undef, undef, undef, undef, undef, undef, undef], defers := [] })
      (fun x a' _ _ _ _ h _ _ => h) ?assign ?body ?done ?stop
    case assign =>
      rintro l pre x W K hI hK
      gi_wp2
      exact hK _ _ (KeepsFrom.refl _ _) (KC.refl _) hI rfl
    case body =>
      rintro l pre x a' W hl' ⟨r, hr⟩ hI rfl hlt
      have HI := hid0 hI
      obtain ⟨hM, hBW, hvW, hzW⟩ := hI
      have y0 : W.cell? ⟨w.heap.size, 0, none⟩ = some (.slice a L.length c) := by rw [cell_of_row _ _ _ _ _ _ ((hBW.block _ (by omega)).trans HX0.out)]; rfl
      have y1 : W.cell? ⟨w1.heap.size + 1, 0, none⟩ = some (.map (some w1.heap.size)) := by rw [cell_of_row _ _ _ _ _ _ hvW]; rfl
      have HSc := hid0 (sectionOf_any L a c x.2 W.drew hl (HXA.out W.drew hBW.drew))
      have hfd : ∀ (W : World) (p q : ByteArray) (z : Value), (Instr.field 40 (.agg #[.string p, .string q, z]) 2).run Tryz.prog W = .ok z W := fun W p q z => by kernel_rfl
      have HM := hid0 hM
      clear hM
      have HEd := hid0 (edOf_le (x := x.2) HBD.out)
      have HEz := hid0 (edOf_sz (x := x.2) HZD.out)
      have HTk : Hid (∀ W2 ae ce, MapIs W2 w1.heap.size (pre.length * 1000000000) ((pre.map (·.2)).flatMap (edOf L)) → EA W2 ae (edOf L x.2) → Calls Tryz.prog 16 #[.map (some w1.heap.size), .slice ae (edOf L x.2).length ce] W2 fun e w' => (∃ v, e = .returned v) ∧ MapIs w' w1.heap.size (pre.length * 1000000000 + (edOf L x.2).length) ((pre.map (·.2)).flatMap (edOf L) ++ edOf L x.2) ∧ W2.grownBy w' (some w1.heap.size)) := hid0 (fun W2 ae ce hm2 hea => take_any (edOf L x.2) ((pre.map (·.2)).flatMap (edOf L)) ae ce w1.heap.size _ W2 HEd.out (by omega) HEz.out hea hm2)
      have hmx : Tryz.prog.follows .mixedOrders = true := by kernel_rfl
      have hf1 : Fence.wide.fn 17 := trivial
      have hf2 : Fence.wide.fn 16 := trivial
      gi_wp2
      gi_region_with_o (first
        | (gi_at_call 17; go_loud ((
            refine (CallsIn.inRound l (callsIn_wide.2 HSc.out)).mono ?_
            rintro e w2 ⟨⟨v, rfl, hsi⟩, hb2⟩
            obtain ⟨lo, pa, ae, ce, rfl, hea⟩ := secIs_ed hsi
            have y2 : w2.cell? ⟨w1.heap.size + 1, 0, none⟩ = some (.map (some w1.heap.size)) := (hb2.cell (World.block_lt_of_cell? W _ y1)).trans y1
            have HB2 := hid0 hb2
            have HEA := hid0 (hea.later hb2)
            have HM2 := hid0 (MapIs.below (W := W.drew) HM.out hb2)
            clear hb2 hsi hea)))
        | (gi_at_call 16; refine (CallsIn.inRound l (callsIn_wide.2 (HTk.out w2 ae ce HM2.out HEA.out))).mono ?_; rintro e w3 ⟨⟨v3, rfl⟩, hm3, hg3⟩; have HM3 := hid0 hm3; have HG3 := hid0 hg3; clear hm3 hg3)
        | fail)
      all_goals
        gi_wp2
        exact res_step L w0 w1.heap.size wR.heap.size pre x W w2 w3 HI.out (by omega) (by omega) ⟨HB2.out.os, HB2.out.tape, HB2.out.output, HB2.out.size, HB2.out.block⟩ HG3.out HM3.out HEd.out
    case done =>
      rintro D ys W hD hS ⟨hM, hBW, hvW, hzW⟩ hK
      have y1 : W.cell? ⟨w1.heap.size + 1, 0, none⟩ = some (.map (some w1.heap.size)) := by rw [cell_of_row _ _ _ _ _ _ hvW]; rfl
      have HSe := HE.out W hBW
      have hyl : ys.length ≤ 16 := by have h := congrArg List.length hS; simp at h; omega
      have HN := hid0 (entries_any sortS _ w1.heap.size _ W (by omega) (by omega) hM)
      have HKD2 : Hid (∀ W2, Below W.heap.size W W2 → W2.heap[D]? = some (.deferred (some []))) := hid0 (fun W2 h2 => (h2.block D (Array.getElem?_eq_some_iff.1 hK).1).trans hK)
      have HBW := hid0 hBW
      have hww : w.heap.size ≤ W.heap.size := by have := hBW.size; omega
      have hwD : w.heap.size ≤ D := by omega
      have HYG : Hid (∀ W2, Below W.heap.size W W2 → W2.cell? ⟨0, 0, none⟩ = some (.iface 185 (.pointer (some (A 2))))) := hid0 (fun W2 h2 => (HSe.below h2).c2)
      have HSS := hid0 hS
      clear hM hvW hK hBW hS
      gi_wp2_with (first
        | (refine ⟨trivial, ?_⟩; gi_at_call 18; refine (callsIn_wide.2 HN.out).mono ?_; rintro e w2 ⟨⟨v, lr, rfl, ho, hri, hmem⟩, hb2⟩; obtain ⟨aR, cR, rfl, hsa, hsc⟩ := ho.sa; have HO := hid0 ho; have HRi := hid0 hri; have HMe := hid0 hmem; have HB2 := hid0 hb2; have y3 := HYG.out w2 hb2; clear ho hri hmem hb2 hsa hsc)
        | fail)
      · have h2000 : 2000 < lr.length := by omega
        have hmx : Tryz.prog.follows .mixedOrders = true := by kernel_rfl
        gi_quiet ((fail))
        gi_wp2
        have hB3 : Below W.heap.size W (w2.drewN nq) := ⟨HB2.out.os, HB2.out.tape, HB2.out.output, HB2.out.size, HB2.out.block⟩
        refine ⟨by simp, .inl ⟨_, _, rfl, run_takeDeferred (HKD2.out _ hB3), ?_⟩⟩
        refine ⟨.tuple #[.slice none 0 0, .iface 185 (.pointer (some (A 2)))], by simp [results, Tryz.results6, go_sem], ⟨.slice aR lr.length cR, lr, own_put (W := w2.drewN nq) (owns_lower HO.out hww) (HKD2.out _ hB3) rfl, HRi.out, ?_, ?_⟩, below_put (Below.later (Below.later HB0.out HBW.out) hB3) _ hwD⟩
        · rw [← eds_of HSS.out]; exact HMe.out
        · rw [if_pos h2000]
      · have h2000 : ¬ 2000 < lr.length := by omega
        refine ⟨by simp, .inl ⟨_, _, rfl, run_takeDeferred (HKD2.out w2 HB2.out), ?_⟩⟩
        refine ⟨.tuple #[.slice aR lr.length cR, .nilIface], by simp [results, Tryz.results6, go_sem], ⟨.slice aR lr.length cR, lr, own_put (owns_lower HO.out hww) (HKD2.out w2 HB2.out) rfl, HRi.out, ?_, ?_⟩, below_put (Below.later (Below.later HB0.out HBW.out) HB2.out) _ hwD⟩
        · rw [← eds_of HSS.out]; exact HMe.out
        · rw [if_neg h2000]
    case stop =>
      rintro D c pre W _ _ h _
      exact h.elim
end
/-- What the calls read besides. -/
structure Env5 (A : Nat → Addr) (w : World) : Prop where
  mx : Mx w
  tb : Tb w
  sq : SeqAt w
  se : Sents5 w A
theorem Env5.below {A : Nat → Addr} {w w' : World} (h : Env5 A w) (hb : Below w.heap.size w w') : Env5 A w' := ⟨h.mx.below hb, h.tb.below hb, h.sq.later hb, h.se.below hb⟩
theorem chain_k5 (A : Nat → Addr) (a : Option Addr) (w : World) (hE : Env5 A w) (ha : XA w a kB) :
    Calls Tryz.prog 13 #[.agg #[.slice a 2 2], .string ⟨#[69, 78, 45, 117, 115]⟩] w fun e w' => ∃ g cap, e = .returned (.tuple #[.slice (some ⟨g, 0, none⟩) 3 cap, .nilIface]) ∧ w'.cell? ⟨g, 0, none⟩ = some (.string ⟨#[101, 110, 95, 85, 83]⟩) ∧ Below w.heap.size w w' := by
  have h := chain_any5 A kB a 2 ⟨#[69, 78, 45, 117, 115]⟩ w (by decide) (fun s hs => Nat.le_trans (kB_ed s hs) (by decide)) kB_sz hE.mx hE.tb hE.sq hE.se ha
  rw [chain_us _ tag1] at h
  refine h.mono ?_
  rintro e w' ⟨⟨v, rfl, ho⟩, hb⟩
  obtain ⟨g, cap, rfl, hc, _⟩ := own_cell0 ho
  exact ⟨g, cap, rfl, hc, hb⟩
theorem res_k5 (A : Nat → Addr) (a : Option Addr) (w : World) (hE : Env5 A w) (ha : XA w a kB) :
    Calls Tryz.prog 6 #[.agg #[.slice a 2 2], .string ⟨#[101, 110, 45, 117, 115]⟩] w fun e w' => ∃ g cap, e = .returned (.tuple #[.slice (some ⟨g, 0, none⟩) 1 cap, .nilIface]) ∧ w'.cell? ⟨g, 0, none⟩ = some (.string ⟨#[77, 114, 46]⟩) ∧ Below w.heap.size w w' := by
  have h := resolve_any5 A kB a 2 ⟨#[101, 110, 45, 117, 115]⟩ w (by decide) (by decide) kB_ed kB_sz hE.mx hE.tb hE.sq hE.se ha
  refine h.mono ?_
  rintro e w' ⟨hg, hb⟩
  unfold GoResolve at hg
  rw [chain_us _ tag2] at hg
  obtain ⟨v, l, ho, hr, hm, rfl⟩ := hg
  rw [eds_us] at hm
  obtain rfl := rising_one hr (fun x => (hm x).trans (last_us x))
  obtain ⟨g, cap, rfl, hc, _⟩ := own_cell0 ho
  exact ⟨g, cap, rfl, hc, hb⟩
theorem res_f5 (A : Nat → Addr) (a : Option Addr) (w : World) (hE : Env5 A w) (ha : XA w a kB) :
    Calls Tryz.prog 6 #[.agg #[.slice a 2 2], .string ⟨#[102, 114]⟩] w fun e w' => ∃ b cap, e = .returned (.tuple #[.slice b 2 cap, .nilIface]) ∧ Below w.heap.size w w' := by
  have h := resolve_any5 A kB a 2 ⟨#[102, 114]⟩ w (by decide) (by decide) kB_ed kB_sz hE.mx hE.tb hE.sq hE.se ha
  refine h.mono ?_
  rintro e w' ⟨hg, hb⟩
  unfold GoResolve at hg
  rw [chain_fr _ tag3] at hg
  obtain ⟨v, l, ho, hr, hm, rfl⟩ := hg
  rw [eds_fr] at hm
  have hl := rising_two mne hr (fun x => (hm x).trans (last_fr x))
  obtain ⟨b, cap, rfl⟩ := own_slice ho
  rw [hl]
  exact ⟨b, cap, rfl, hb⟩
set_option maxRecDepth 10000 in
set_option maxHeartbeats 1600000 in
theorem known_any5 (A : Nat → Addr) (w : World) (hE : Env5 A w) : Calls Tryz.prog 11 #[] w fun e w' => e = .returned (.bool true) ∧ Below w.heap.size w w' := by
  obtain ⟨wa, hwa⟩ : ∃ wa, wa = w.alloc (.cells #[.bool true, .string ⟨#[77, 114, 46]⟩, .bool true, .string ⟨#[101, 46, 103, 46]⟩] 42) := ⟨_, rfl⟩
  obtain ⟨wb, hwb⟩ : ∃ wb, wb = wa.alloc (.cells #[.bool false, .string ⟨#[101, 46, 103, 46]⟩] 42) := ⟨_, rfl⟩
  obtain ⟨wc, hwc⟩ : ∃ wc, wc = wb.alloc (.cells #[.string ⟨#[114, 111, 111, 116]⟩, .string ⟨#[]⟩, .slice (some ⟨w.heap.size, 0, none⟩) 2 2, .string ⟨#[101, 110]⟩, .string ⟨#[]⟩, .slice (some ⟨w.heap.size + 1, 0, none⟩) 1 1] 40) := ⟨_, rfl⟩
  obtain ⟨wK, hwK⟩ : ∃ wK, wK = wc.alloc (.cells #[.slice (some ⟨w.heap.size + 1 + 1, 0, none⟩) 2 2] 24) := ⟨_, rfl⟩
  have sa : wa.heap.size = w.heap.size + 1 := by rw [hwa]; simp
  have sb : wb.heap.size = w.heap.size + 1 + 1 := by rw [hwb]; simp [sa]
  have sc : wc.heap.size = w.heap.size + 1 + 1 + 1 := by rw [hwc]; simp [sb]
  have ba : Below w.heap.size w wa := by rw [hwa]; exact (Below.refl _ _).alloc (Nat.le_refl _) _
  have bab : Below wa.heap.size wa wb := by rw [hwb]; exact (Below.refl _ _).alloc (Nat.le_refl _) _
  have bbc : Below wb.heap.size wb wc := by rw [hwc]; exact (Below.refl _ _).alloc (Nat.le_refl _) _
  have bcK : Below wc.heap.size wc wK := by rw [hwK]; exact (Below.refl _ _).alloc (Nat.le_refl _) _
  have ra := heap_alloc_new w (.cells #[.bool true, .string ⟨#[77, 114, 46]⟩, .bool true, .string ⟨#[101, 46, 103, 46]⟩] 42)
  have rb := heap_alloc_new wa (.cells #[.bool false, .string ⟨#[101, 46, 103, 46]⟩] 42)
  have rc := heap_alloc_new wb (.cells #[.string ⟨#[114, 111, 111, 116]⟩, .string ⟨#[]⟩, .slice (some ⟨w.heap.size, 0, none⟩) 2 2, .string ⟨#[101, 110]⟩, .string ⟨#[]⟩, .slice (some ⟨w.heap.size + 1, 0, none⟩) 1 1] 40)
  have rK := heap_alloc_new wc (.cells #[.slice (some ⟨w.heap.size + 1 + 1, 0, none⟩) 2 2] 24)
  rw [← hwa] at ra
  rw [← hwb, sa] at rb
  rw [← hwc, sb] at rc
  rw [← hwK, sc] at rK
  have bcc := Below.later bbc bcK
  have bac := Below.later bab bcc
  have hBK := Below.later ba bac
  have hXA : XA wK (some ⟨w.heap.size + 1 + 1, 0, none⟩) kB := xa_k ((bac.block _ (by omega)).trans ra) ((bcc.block _ (by omega)).trans rb) ((bcK.block _ (by omega)).trans rc)
  have hEK := hE.below hBK
  have HF : Hid ((((w.alloc (.cells #[.bool true, .string ⟨#[77, 114, 46]⟩, .bool true, .string ⟨#[101, 46, 103, 46]⟩] 42)).alloc (.cells #[.bool false, .string ⟨#[101, 46, 103, 46]⟩] 42)).alloc (.cells #[.string ⟨#[114, 111, 111, 116]⟩, .string ⟨#[]⟩, .slice (some ⟨w.heap.size, 0, none⟩) 2 2, .string ⟨#[101, 110]⟩, .string ⟨#[]⟩, .slice (some ⟨w.heap.size + 1, 0, none⟩) 1 1] 40)).alloc (.cells #[.slice (some ⟨w.heap.size + 1 + 1, 0, none⟩) 2 2] 24) = wK) := hid0 (by rw [← hwa, ← hwb, ← hwc, ← hwK])
  have HC := hid0 (chain_k5 A _ wK hEK hXA)
  have HR1 : Hid (∀ W, Below wK.heap.size wK W → _) := hid0 (fun W hW => res_k5 A (some ⟨w.heap.size + 1 + 1, 0, none⟩) W (hEK.below hW) (hXA.later hW))
  have HR2 : Hid (∀ W, Below wK.heap.size wK W → _) := hid0 (fun W hW => res_f5 A (some ⟨w.heap.size + 1 + 1, 0, none⟩) W (hEK.below hW) (hXA.later hW))
  have HXK : Hid (∀ W, Below wK.heap.size wK W → W.cell? ⟨w.heap.size + 1 + 1 + 1, 0, none⟩ = some (.slice (some ⟨w.heap.size + 1 + 1, 0, none⟩) 2 2)) := hid0 (fun W hW => bun_cell ((hW.block _ (lt_of_row rK)).trans rK))
  have HBK := hid0 hBK
  clear hwa hwb hwc hwK sa sb sc ba bab bbc bcK ra rb rc rK bcc bac hBK hXA hEK hE
  have M0 : Hid True := trivial
  go_enter Tryz.func11, Tryz.ntmps11
  go_wp2_with (first
    | (go_at_call 13; clear M0; go_loud ((
         rw [HF.out]
         refine HC.out.mono ?_
         rintro e w5 ⟨g, cap, rfl, hc, hb5⟩
         have x0 := HXK.out w5 hb5
         have HC5 := hid0 hc
         have HB5 := hid0 hb5
         have M1 : Hid True := trivial
         clear hc hb5)))
    | (go_at_call 6; clear M1; go_loud ((
         refine (HR1.out w5 HB5.out).mono ?_
         rintro e w6 ⟨g2, cap2, rfl, hc2, hb6⟩
         have hb6' := Below.later HB5.out hb6
         have x1 := HXK.out w6 hb6'
         have HC6 : Hid (w6.cell? ⟨g, 0, none⟩ = some (.string ⟨#[101, 110, 95, 85, 83]⟩)) := hid0 ((hb6.cell (World.block_lt_of_cell? w5 _ HC5.out)).trans HC5.out)
         have HD6 := hid0 hc2
         have HB6 := hid0 hb6'
         have M2 : Hid True := trivial
         clear hc2 hb6 hb6' HC5 HB5 x0)))
    | (go_at_call 6; clear M2; go_loud ((
         refine (HR2.out w6 HB6.out).mono ?_
         rintro e w7 ⟨b3, cap3, rfl, hb7⟩
         have y0 : w7.cell? ⟨g, 0, none⟩ = some (.string ⟨#[101, 110, 95, 85, 83]⟩) := (hb7.cell (World.block_lt_of_cell? w6 _ HC6.out)).trans HC6.out
         have y1 : w7.cell? ⟨g2, 0, none⟩ = some (.string ⟨#[77, 114, 46]⟩) := (hb7.cell (World.block_lt_of_cell? w6 _ HD6.out)).trans HD6.out
         have HB7 := hid0 (Below.later HBK.out (Below.later HB6.out hb7))
         clear hb7 HC6 HD6 HB6 x1))))
  go_ret
  exact ⟨rfl, HB7.out⟩
end Go.Proofs.YtlnejmmhhmmomaaGreatDoor
namespace Go.Proofs.YtlnejmmhhmmomaaGreatDoor
open Go.RowKit Go.Shelf Go.Lib
theorem goChain_own {A : Nat → Addr} {base : Nat} {w' : World} {r : CR} {e : Ending} (h : GoChain A base w' r e) : ∃ v ev a cap, e = .returned (.tuple #[v, ev]) ∧ v = .slice a (lstR r).length cap ∧ SA w' a (lstR r) ∧ OwnS w' base v (lstR r) := by
  cases r with
  | ok l =>
    obtain ⟨v, rfl, ho⟩ := h
    obtain ⟨a, cap, rfl, hs, _⟩ := ho.sa
    exact ⟨_, _, a, cap, rfl, rfl, hs, ho⟩
  | bad i => exact ⟨_, _, none, 0, h, rfl, ⟨fun k hk => absurd hk (Nat.not_lt_zero _)⟩, World.ownsRow_nil _ _ _ _⟩
/-- What a call of either answers: a list of its own. -/
def GoL (base : Nat) (l : List ByteArray) (w' : World) (e : Ending) : Prop := ∃ v ev a cap, e = .returned (.tuple #[v, ev]) ∧ v = .slice a l.length cap ∧ SA w' a l ∧ OwnS w' base v l
def RefL (l : List ByteArray) (w' : World) (e : Ending) : Prop := ∃ ev a cap, e = .returned (.tuple #[.slice a l.length cap, ev]) ∧ SA w' a l
def deAt : ByteArray := ⟨#[100, 101, 45, 97, 116]⟩
/-- The calls, whatever the world. -/
structure Qs (w0 : World) (bv : Value) (s : ByteArray) (lc lr : List ByteArray) : Prop where
  rc : ∀ W : World, Below w0.heap.size w0 W → Calls Tryz.prog 12 #[.agg #[bv], .string s] W fun e w' => RefL lc w' e ∧ Below W.heap.size W w'
  rr : ∀ W : World, Below w0.heap.size w0 W → Calls Tryz.prog 7 #[.agg #[bv], .string s] W fun e w' => RefL lr w' e ∧ Below W.heap.size W w'
  gc : ∀ W : World, Below w0.heap.size w0 W → Calls Tryz.prog 13 #[.agg #[bv], .string s] W fun e w' => GoL W.heap.size lc w' e ∧ Below W.heap.size W w'
  gr : ∀ W : World, Below w0.heap.size w0 W → Calls Tryz.prog 6 #[.agg #[bv], .string s] W fun e w' => GoL W.heap.size lr w' e ∧ Below W.heap.size W w'
  sc : lc.length ≤ 2000
  sr : lr.length ≤ 2000
theorem qs_ex (A : Nat → Addr) (L : List Sec) (a : Option Addr) (c : Nat) (s : ByteArray) (w0 : World) (hl : L.length ≤ 1000000) (hc : L.length ≤ c) (hb : ∀ s ∈ L, s.ed.length ≤ 2000000) (hz : ∀ s ∈ L, ∀ e ∈ s.ed, e.2.size ≤ 4194400) (hE : Env5 A w0) (ha : XA w0 a L) : ∃ lc lr, Qs w0 (.slice a L.length c) s lc lr := by
  obtain ⟨r, hr⟩ := res_ex L s
  have hb1 : ∀ s ∈ L, s.ed.length ≤ 1000000000 := fun s hs => Nat.le_trans (hb s hs) (by decide)
  have hb2 : ∀ s ∈ L, s.ed.length ≤ 140737488355328 := fun s hs => Nat.le_trans (hb s hs) (by decide)
  have hz2 : ∀ s ∈ L, ∀ e ∈ s.ed, e.2.size ≤ 140737488355328 := fun s hs e he => Nat.le_trans (hz s hs e he) (by decide)
  refine ⟨lstR (chainF L s), lstR r, fun W hW => ?_, fun W hW => ?_, fun W hW => ?_, fun W hW => ?_, by have := (chainF_ok L s).2; omega, hr.le⟩
  · refine (refChain_any L a c s W hl hb1 hz (ha.later hW)).mono ?_
    rintro e w' ⟨h1, h2⟩
    obtain ⟨a1, k1, e1, e2⟩ := refChain_lst h1
    exact ⟨⟨_, a1, k1, e1, e2⟩, h2⟩
  · refine (refResolve_any L a c s W hl hb hz (ha.later hW)).mono ?_
    rintro e w' ⟨h1, h2⟩
    obtain ⟨a1, k1, e1, e2⟩ := hr.ref _ _ h1
    exact ⟨⟨_, a1, k1, e1, e2⟩, h2⟩
  · have hE1 := hE.below hW
    refine (chain_any5 A L a c s W hc hb2 hz2 hE1.mx hE1.tb hE1.sq hE1.se (ha.later hW)).mono ?_
    rintro e w' ⟨h1, h2⟩
    exact ⟨goChain_own h1, h2⟩
  · have hE1 := hE.below hW
    refine (resolve_any5 A L a c s W hl hc hb1 hz2 hE1.mx hE1.tb hE1.sq hE1.se (ha.later hW)).mono ?_
    rintro e w' ⟨h1, h2⟩
    obtain ⟨v, a1, k1, e1, e2, e3, e4⟩ := hr.go _ _ _ _ h1
    exact ⟨⟨v, _, a1, k1, e1, e2, e3, e4⟩, h2⟩
theorem pile_at {w : World} {base g n cap : Nat} {ps qs : Lot} (h : Pile w base (.slice (some ⟨g, 0, none⟩) n cap) ps qs) (hn : ps.length = n) (j : Nat) (l : List ByteArray) (hj : (ps.map (·.2))[j]? = some l) : ∃ a c, w.cell? ⟨g, j, none⟩ = some (.slice a l.length c) ∧ SA w a l := by
  rw [List.getElem?_map] at hj
  obtain ⟨x, hx, rfl⟩ := Option.map_eq_some_iff.1 hj
  obtain ⟨hjl, rfl⟩ := List.getElem?_eq_some_iff.1 hx
  obtain ⟨a, c, e, hs, _⟩ := (h.row ps[j] (List.mem_append_left _ (List.getElem_mem hjl))).sa
  exact ⟨a, c, by rw [h.cell hn j hjl, e], hs⟩
theorem two_more {k : Nat} {ps : Lot} {lc lr : List ByteArray} (h : ps.map (·.2) = (List.replicate k [lc, lr]).flatten) (v u : Value) : (ps ++ ([] ++ [(v, lc)] ++ [(u, lr)]) : Lot).map (·.2) = (List.replicate (k + 1) [lc, lr]).flatten := by
  rw [List.map_append, h, List.replicate_succ', List.flatten_append]
  simp
theorem two_len {k : Nat} {ps : Lot} {lc lr : List ByteArray} (h : ps.map (·.2) = (List.replicate k [lc, lr]).flatten) : ps.length = k * 2 := by
  have := congrArg List.length h
  rw [List.length_map] at this
  rw [this]
  simp [List.length_flatten]
theorem own_sa {w : World} {base n c : Nat} {a : Option Addr} {l : List ByteArray} (h : OwnS w base (.slice a n c) l) : SA w a l := by
  obtain ⟨a', c', e, hs, _⟩ := h.sa
  injection e with e1 _ _
  rw [e1]
  exact hs
theorem sameD {w : World} {l : List ByteArray} {a b : Option Addr} {ca cb : Nat} (hl : l.length ≤ 2000) (ha : SA w a l) (hb : SA w b l) (q : Nat) :
    Calls Tryz.prog 8 #[.slice a l.length ca, .slice b l.length cb] (w.drewN q) fun e w' => e = .returned (.bool true) ∧ ∃ m, w' = w.drewN m := by
  have hB : Below w.heap.size w (w.drewN q) := ⟨rfl, rfl, rfl, Nat.le_refl _, fun _ _ => rfl⟩
  refine (sameS l a b ca cb (w.drewN q) (by omega) (ha.below hB) (hb.below hB)).mono ?_
  rintro e w' ⟨h1, m, rfl⟩
  exact ⟨h1, q + m, by rw [World.drewN_drewN]⟩
theorem six_all {ps : Lot} {l0 l1 l2 l3 l4 l5 : List ByteArray} (h : ps.map (·.2) = [l0, l1, l2, l3, l4, l5]) (h0 : l0.length ≤ 2000) (h1 : l1.length ≤ 2000) (h2 : l2.length ≤ 2000) (h3 : l3.length ≤ 2000) (h4 : l4.length ≤ 2000) (h5 : l5.length ≤ 2000) : ∀ x ∈ ps, x.2.length ≤ 2000 := fun x hx => by
  have hm : x.2 ∈ ps.map (·.2) := List.mem_map_of_mem hx
  rw [h] at hm
  simp only [List.mem_cons, List.not_mem_nil, or_false] at hm
  rcases hm with e | e | e | e | e | e <;> rw [e] <;> assumption
set_option maxRecDepth 10000 in
set_option maxHeartbeats 6400000 in
theorem localeApart_any (A : Nat → Addr) (L : List Sec) (a : Option Addr) (c : Nat) (t : ByteArray) (w : World) (hl : L.length ≤ 1000000) (hc : L.length ≤ c) (hb : ∀ s ∈ L, s.ed.length ≤ 2000000) (hz : ∀ s ∈ L, ∀ e ∈ s.ed, e.2.size ≤ 4194400) (hE : Env5 A w) (ha : XA w a L) :
    Calls Tryz.prog 4 #[.agg #[.slice a L.length c, .string t]] w fun e w' => e = .returned (.bool true) ∧ Below w.heap.size w w' := by
  obtain ⟨w0, hw0⟩ : ∃ w0, w0 = w.alloc (.cells #[.slice a L.length c, .string t] 26) := ⟨_, rfl⟩
  have hs0 : w0.heap.size = w.heap.size + 1 := by rw [hw0]; simp
  have hB0 : Below w.heap.size w w0 := by rw [hw0]; exact (Below.refl _ _).alloc (Nat.le_refl _) _
  have hX0 : w0.heap[w.heap.size]? = some (.cells #[.slice a L.length c, .string t] 26 (0, 0)) := by rw [hw0]; exact heap_alloc_new w _
  obtain ⟨lc, lr, hqt⟩ := qs_ex A L a c t w0 hl hc hb hz (hE.below hB0) (ha.later hB0)
  obtain ⟨ld, le, hqd⟩ := qs_ex A L a c deAt w0 hl hc hb hz (hE.below hB0) (ha.later hB0)
  unfold deAt at hqd
  have HKn := hid0 (known_any5 A w0 (hE.below hB0))
  generalize hbv : Value.slice a L.length c = bv at *
  have HX : Hid (∀ W, Below w0.heap.size w0 W → W.cell? ⟨w.heap.size, 0, none⟩ = some bv ∧ W.cell? ⟨w.heap.size, 1, none⟩ = some (.string t)) := hid0 (fun W hW => by
    have hr := (hW.block w.heap.size (by omega)).trans hX0
    exact ⟨by rw [cell_of_row _ _ _ _ _ _ hr]; rfl, by rw [cell_of_row _ _ _ _ _ _ hr]; rfl⟩)
  obtain ⟨x0, x1⟩ := HX.out w0 (Below.refl _ _)
  have HQ := hid0 hqt
  have HD := hid0 hqd
  have hs1 : lc.length ≤ 2000 := hqt.sc
  have hs2 : lr.length ≤ 2000 := hqt.sr
  have hs3 : ld.length ≤ 2000 := hqd.sc
  have hs4 : le.length ≤ 2000 := hqd.sr
  have HB0 := hid0 hB0
  obtain ⟨j0, hj', hy0, hy1, hy2⟩ := info_parts infoStrs
  have hfold := hw0.symm
  clear hw0 hs0 hB0 hX0 hE ha hb hz hc hl hqt hqd hbv
  have M1 : Hid True := trivial
  have M2 : Hid True := trivial
  go_enter Tryz.func4, Tryz.ntmps4
  go_wp2_with (first
    | (go_at_call 11; refine HKn.out.mono ?_; rintro e w1 ⟨rfl, hb1⟩; obtain ⟨y0, y1⟩ := HX.out w1 hb1; have HB1 := hid0 hb1; clear hb1 x0 x1 hfold)
    | (go_at_call 12; clear M1; refine (HQ.out.rc w1 HB1.out).mono ?_; rintro e w2 ⟨⟨ev1, a1, k1, rfl, hs1'⟩, hb⟩; have HB2 := hid0 (Below.later HB1.out hb); obtain ⟨y0, y1⟩ := HX.out w2 HB2.out; have HS1 := hid0 hs1'; clear hb hs1')
    | (go_at_call 7; clear M2; refine (HQ.out.rr w2 HB2.out).mono ?_; rintro e w3 ⟨⟨ev2, a2, k2, rfl, hs2'⟩, hb⟩; have HB3 := hid0 (Below.later HB2.out hb); obtain ⟨y0, y1⟩ := HX.out w3 HB3.out; have HS1' := hid0 (HS1.out.below hb); have HS2 := hid0 hs2'; clear hb hs2')
    | (go_at_call 12; refine (HD.out.rc w3 HB3.out).mono ?_; rintro e w4 ⟨⟨ev3, a3, k3, rfl, hs3'⟩, hb⟩; have HB4 := hid0 (Below.later HB3.out hb); obtain ⟨y0, y1⟩ := HX.out w4 HB4.out; have HS1'' := hid0 (HS1'.out.below hb); have HS2' := hid0 (HS2.out.below hb); have HS3 := hid0 hs3'; clear hb hs3')
    | (go_at_call 7; refine (HD.out.rr w4 HB4.out).mono ?_; rintro e w5 ⟨⟨ev4, a4, k4, rfl, hs4'⟩, hb⟩; have HB5 := hid0 (Below.later HB4.out hb); obtain ⟨y0, y1⟩ := HX.out w5 HB5.out; have HT1 := hid0 (HS1''.out.below hb); have HT2 := hid0 (HS2'.out.below hb); have HT3 := hid0 (HS3.out.below hb); have HT4 := hid0 hs4'; clear hb hs4')
    | fail)
  clear HS1 HS1' HS1'' HS2 HS2' HS3 HB1 HB2 HB3 HB4 HKn y0 y1
  have HXX : Hid (∀ W, Below w5.heap.size w5 W → W.cell? ⟨w.heap.size, 0, none⟩ = some bv ∧ W.cell? ⟨w.heap.size, 1, none⟩ = some (.string t)) := hid0 (fun W hW => HX.out W (Below.later HB5.out hW))
  go_loopw [12, 13] (fun v i wr => ∃ (k : Nat) (ps : Lot), k ≤ 2 ∧ i = .int .i64 (k : Int) ∧ Hid (ps.map (·.2) = (List.replicate k [lc, lr]).flatten) ∧ Hid (Pile wr w5.heap.size v ps []) ∧ Hid (Below w5.heap.size w5 wr)) (fun _ i _ => 2 - (intOf i).toNat)
  case atStart => exact ⟨0, [], by omega, rfl, hid0 rfl, hid0 (Pile.nil _ _), hid0 (Below.refl _ _)⟩
  case round =>
    obtain ⟨k, ps, hk, rfl, HPS, HP, HBr⟩ := hrel
    obtain ⟨y0, y1⟩ := HXX.out wr HBr.out
    by_cases hlt : k < 2
    · have hkz : (k : Int) < 2 := by omega
      go_wp2_with (first
        | (go_at_call 13; refine (HQ.out.gc wr (Below.later HB5.out HBr.out)).mono ?_; rintro e w6 ⟨⟨v6, ev6, a6, k6, rfl, rfl, hs6, ho6⟩, hb⟩; have HB6 := hid0 (Below.later HBr.out hb); obtain ⟨y0, y1⟩ := HXX.out w6 HB6.out; have HP6 := hid0 (HP.out.more hb ho6 HBr.out.size); clear hb hs6 ho6)
        | (go_at_call 6; refine (HQ.out.gr w6 (Below.later HB5.out HB6.out)).mono ?_; rintro e w7 ⟨⟨v7, ev7, a7, k7, rfl, rfl, hs7, ho7⟩, hb⟩; have HB7 := hid0 (Below.later HB6.out hb); have HP7 := hid0 (HP6.out.more hb ho7 HB6.out.size); have hsz7 := HB7.out.size; clear hb hs7 ho7)
        | (at_builtin; go_loud (refine wpList_append_own_at _ rfl _ _ 45 rfl w5.heap.size 28 j0 (.slice none 0 0) 1 24 Tryz.underlying45 hj' hy0 hy1 hy2 rfl (by decide) _ (k * 2) (ps.map (·.1)) rfl (World.ownsRow.alloc (by have h := HP7.out.outer; rw [two_len HPS.out] at h; exact h) _) ⟨w7.heap.size, 0, none⟩ 2 2 [.slice a6 lc.length k6, .slice a7 lr.length k7] rfl rfl (cell2_new _ _ _ _) (by simp [Value.oneCell']) (by unfold maxLen; omega) (by omega) (by simp; omega) ?_; intro v8 w8 hown' hgrow hiff hat; have R := HP7.out.take (n := k * 2 + 2) (by rw [List.length_append, two_len HPS.out]; rfl) (by rw [List.map_append]; exact hown') hgrow hat HB7.out (Nat.le_refl _); have HP8 := hid0 R.1; have HB8 := hid0 R.2; clear R hown' hgrow hiff hat))
        | fail)
      have HPN := hid0 (two_more HPS.out (.slice a6 lc.length k6) (.slice a7 lr.length k7))
      clear HP HP6 HP7 HB6 HB7 HPS HBr
      go_roundw
      case rel => exact ⟨k + 1, _, by omega, by go_num, HPN, HP8, HB8⟩
      case measure => simp [intOf]; omega
    · have hkz : ¬ (k : Int) < 2 := by omega
      obtain rfl : k = 2 := by omega
      have hsz := HBr.out.size
      go_wp2_with (first
        | (go_at_call 13; refine (HD.out.gc wr (Below.later HB5.out HBr.out)).mono ?_; rintro e w6 ⟨⟨v6, ev6, a6, k6, rfl, rfl, hs6, ho6⟩, hb⟩; have HB6 := hid0 (Below.later HBr.out hb); obtain ⟨y0, y1⟩ := HXX.out w6 HB6.out; have HP6 := hid0 (HP.out.more hb ho6 HBr.out.size); have HU6 : Hid True := trivial; clear hb hs6 ho6)
        | (go_at_call 6; refine (HD.out.gr w6 (Below.later HB5.out HB6.out)).mono ?_; rintro e w7 ⟨⟨v7, ev7, a7, k7, rfl, rfl, hs7, ho7⟩, hb⟩; have HB7 := hid0 (Below.later HB6.out hb); have HP7 := hid0 (HP6.out.more hb ho7 HB6.out.size);  have hsz7 := HB7.out.size; clear hb hs7 ho7)
        | (at_builtin; go_loud (refine wpList_append_own_at _ rfl _ _ 45 rfl w5.heap.size 28 j0 (.slice none 0 0) 1 24 Tryz.underlying45 hj' hy0 hy1 hy2 rfl (by decide) _ 4 (ps.map (·.1)) rfl (World.ownsRow.alloc (by have h := HP7.out.outer; rw [two_len HPS.out] at h; exact h) _) ⟨w7.heap.size, 0, none⟩ 2 2 [.slice a6 ld.length k6, .slice a7 le.length k7] rfl rfl (cell2_new _ _ _ _) (by simp [Value.oneCell']) (by unfold maxLen; omega) (by omega) (by simp; omega) ?_; intro v8 w8 hown' hgrow hiff hat; have hown6 : w8.ownsRow w5.heap.size 28 1 v8 6 (ps.map (·.1) ++ [.slice a6 ld.length k6, .slice a7 le.length k7]) := hown'; obtain ⟨g8, c8, rfl, hg8, hg8', hg8c⟩ := own_form hown6 (by omega); have R := HP7.out.take (n := 6) (by rw [List.length_append, two_len HPS.out]; rfl) (by rw [List.map_append]; exact hown6) hgrow hat HB7.out (Nat.le_refl _); have HP8 := hid0 R.1; have HB8 := hid0 R.2; clear R hown' hown6 hiff hat hgrow hg8 hg8c))
        | fail)
      have HL8 : Hid ((ps ++ ([] ++ [(Value.slice a6 ld.length k6, ld)] ++ [(Value.slice a7 le.length k7, le)])).length = 6) := hid0 (by rw [List.length_append, two_len HPS.out]; rfl)
      have HM8 : Hid ((ps ++ ([] ++ [(Value.slice a6 ld.length k6, ld)] ++ [(Value.slice a7 le.length k7, le)]) : Lot).map (·.2) = [lc, lr, lc, lr, ld, le]) := hid0 (by rw [List.map_append, HPS.out]; rfl)
      have HU8 : Hid (SA w8 a6 ld) := hid0 (own_sa (HP8.out.row (Value.slice a6 ld.length k6, ld) (by simp)))
      have HU9 : Hid (SA w8 a7 le) := hid0 (own_sa (HP8.out.row (Value.slice a7 le.length k7, le) (by simp)))
      generalize ps ++ ([] ++ [(Value.slice a6 ld.length k6, ld)] ++ [(Value.slice a7 le.length k7, le)]) = ps8 at *
      obtain ⟨p0, q0, e0, s0⟩ := pile_at HP8.out HL8.out 0 lc (by rw [HM8.out]; rfl)
      obtain ⟨p1, q1, e1, s1⟩ := pile_at HP8.out HL8.out 1 lr (by rw [HM8.out]; rfl)
      obtain ⟨p2, q2, e2, s2⟩ := pile_at HP8.out HL8.out 2 lc (by rw [HM8.out]; rfl)
      obtain ⟨p3, q3, e3, s3⟩ := pile_at HP8.out HL8.out 3 lr (by rw [HM8.out]; rfl)
      have HV1 := hid0 (HT1.out.below HB8.out)
      have HV2 := hid0 (HT2.out.below HB8.out)
      have HV3 := hid0 (HT3.out.below HB8.out)
      have HV4 := hid0 (HT4.out.below HB8.out)
      have F0 := hid0 (fun q => sameD (ca := q0) (cb := k1) hs1 s0 HV1.out q)
      have F1 := hid0 (fun q => sameD (ca := q1) (cb := k2) hs2 s1 HV2.out q)
      have F2 := hid0 (fun q => sameD (ca := q2) (cb := k1) hs1 s2 HV1.out q)
      have F3 := hid0 (fun q => sameD (ca := q3) (cb := k2) hs2 s3 HV2.out q)
      have F4 := hid0 (fun q => sameD (ca := k6) (cb := k3) hs3 HU8.out HV3.out q)
      have F5 := hid0 (fun q => sameD (ca := k7) (cb := k4) hs4 HU9.out HV4.out q)
      clear s0 s1 s2 s3 HV1 HV2 HV3 HV4 HU8 HU9 HU6 HP HP6 HP7 HPS HBr HB6 HB7 hsz hsz7 y0 y1
      go_loopw [22] (fun i w2 => ∃ k q : Nat, k ≤ 2 ∧ i = .int .i64 (2 * (k : Int)) ∧ w2 = w8.drewN q) (fun i _ => 4 - (intOf i).toNat)
      case atStart => exact ⟨0, 0, by omega, rfl, rfl⟩
      case round =>
        obtain ⟨k, q, hk2, rfl, rfl⟩ := hrel
        by_cases hlt2 : k < 2
        · obtain rfl | rfl : k = 0 ∨ k = 1 := by omega
          · have N1 : Hid True := trivial
            go_wp2_with (first
              | (go_at_call 8; clear N1; refine (F0.out q).mono ?_; rintro e y1 ⟨rfl, n1, rfl⟩)
              | (go_at_call 8; refine (F1.out _).mono ?_; rintro e y2 ⟨rfl, n2, rfl⟩)
              | fail)
            go_roundw
            case rel => exact ⟨1, _, by omega, by go_num, rfl⟩
            case measure => simp [intOf]
          · have N1 : Hid True := trivial
            go_wp2_with (first
              | (go_at_call 8; clear N1; refine (F2.out q).mono ?_; rintro e y1 ⟨rfl, n1, rfl⟩)
              | (go_at_call 8; refine (F3.out _).mono ?_; rintro e y2 ⟨rfl, n2, rfl⟩)
              | fail)
            go_roundw
            case rel => exact ⟨2, _, by omega, by go_num, rfl⟩
            case measure => simp [intOf]
        · obtain rfl : k = 2 := by omega
          have HDr : Hid (∀ n, Below w8.heap.size w8 (w8.drewN n)) := hid0 (fun n => ⟨rfl, rfl, rfl, Nat.le_refl _, fun _ _ => rfl⟩)
          have hb8 := HB8.out.size
          have HAp : Hid (∀ n, Calls Tryz.prog 14 #[.slice (some ⟨g8, 0, none⟩) 6 c8] (w8.drewN n) fun e w' => e = .returned (.bool true) ∧ Below w5.heap.size w5 w') := hid0 (fun n => (apart_any g8 c8 w5.heap.size ps8 (w8.drewN n) hb8 (HP8.out.later (HDr.out n)) HL8.out (six_all HM8.out hs1 hs2 hs1 hs2 hs3 hs4)).mono (fun e w' h => ⟨h.1, (Below.later HB8.out (HDr.out n)).trans h.2⟩))
          have N1 : Hid True := trivial
          have N2 : Hid True := trivial
          have N3 : Hid True := trivial
          clear F0 F1 F2 F3 e0 e1 e2 e3
          go_wp2_with (first
            | (go_at_call 8; clear N1; refine (F4.out q).mono ?_; rintro e y1 ⟨rfl, n1, rfl⟩)
            | (go_at_call 8; clear N2; refine (F5.out _).mono ?_; rintro e y2 ⟨rfl, n2, rfl⟩)
            | (go_at_call 14; refine (HAp.out _).mono ?_; rintro e w9 ⟨rfl, hb9⟩; have HB9 := hid0 hb9; obtain ⟨y0, y1⟩ := HXX.out w9 hb9; have HV1 := hid0 (HT1.out.below hb9); have HV2 := hid0 (HT2.out.below hb9); clear hb9)
            | (go_at_call 13; refine (HQ.out.gc w9 (Below.later HB5.out HB9.out)).mono ?_; rintro e wA ⟨⟨vA, evA, aA, kA, rfl, rfl, hsA, _⟩, hb⟩; have HBA := hid0 (Below.later HB9.out hb); obtain ⟨y0, y1⟩ := HXX.out wA HBA.out; have HV1A := hid0 (HV1.out.below hb); have HV2A := hid0 (HV2.out.below hb); have HUA := hid0 hsA; clear hb hsA)
            | (go_at_call 6; refine (HQ.out.gr wA (Below.later HB5.out HBA.out)).mono ?_; rintro e wB ⟨⟨vB, evB, aB, kB, rfl, rfl, hsB, _⟩, hb⟩; have HBB := hid0 (Below.later HBA.out hb); have HV1B := hid0 (HV1A.out.below hb); have HV2B := hid0 (HV2A.out.below hb); have HUAB := hid0 (HUA.out.below hb); have HUB := hid0 hsB; clear hb hsB)
            | (go_at_call 8; clear N3; refine (sameD (w := wB) hs1 HUAB.out HV1B.out 0).mono ?_; rintro e y5 ⟨rfl, n5, rfl⟩)
            | (go_at_call 8; refine (sameD hs2 HUB.out HV2B.out _).mono ?_; rintro e y6 ⟨rfl, n6, rfl⟩)
            | fail)
          go_ret
          exact ⟨by simp, Below.later HB0.out (Below.later HB5.out (below_drew' HBB.out _))⟩
end Go.Proofs.YtlnejmmhhmmomaaGreatDoor
namespace Go.Proofs.YtlnejmmhhmmomaaGreatDoor
open Go.ChangeShapes Go.WideShapes Go.ChangeAt Go.RowKit
theorem own : ownKnob Tryz.prog.godebug = none := by kernel_rfl
/-- The settled world, the listed variables holding what their initialisers lay. -/
def laidWorld (hold : World) : World := { hold with heap := (((((((((((((((((((((((((hold.heap.modify 0 fun | .cells _ t frozen => .cells #[.iface 185 (.pointer (some ⟨hold.heap.size + 0, 0, none⟩))] t frozen | o => o).modify 1 fun | .cells _ t frozen => .cells #[.iface 185 (.pointer (some ⟨hold.heap.size + 1, 0, none⟩))] t frozen | o => o).modify 2 fun | .cells _ t frozen => .cells #[.iface 185 (.pointer (some ⟨hold.heap.size + 2, 0, none⟩))] t frozen | o => o).modify 3 fun | .cells _ t frozen => .cells #[.iface 185 (.pointer (some ⟨hold.heap.size + 3, 0, none⟩))] t frozen | o => o).modify 4 fun | .cells _ t frozen => .cells #[.iface 185 (.pointer (some ⟨hold.heap.size + 4, 0, none⟩))] t frozen | o => o).modify 5 fun | .cells _ t frozen => .cells #[.iface 185 (.pointer (some ⟨hold.heap.size + 5, 0, none⟩))] t frozen | o => o).modify 6 fun | .cells _ t frozen => .cells #[.iface 185 (.pointer (some ⟨hold.heap.size + 6, 0, none⟩))] t frozen | o => o).modify 7 fun | .cells _ t frozen => .cells #[.iface 185 (.pointer (some ⟨hold.heap.size + 7, 0, none⟩))] t frozen | o => o).modify 8 fun | .cells _ t frozen => .cells #[.iface 185 (.pointer (some ⟨hold.heap.size + 8, 0, none⟩))] t frozen | o => o).modify 9 fun | .cells _ t frozen => .cells #[.iface 185 (.pointer (some ⟨hold.heap.size + 9, 0, none⟩))] t frozen | o => o).modify 10 fun | .cells _ t frozen => .cells #[.iface 185 (.pointer (some ⟨hold.heap.size + 10, 0, none⟩))] t frozen | o => o).modify 12 fun | .cells _ t frozen => .cells (Go.Pinned.utf8FirstZ.map fun n => Value.int .u8 (Int.ofNat n)).toArray t frozen | o => o).modify 13 fun | .cells _ t frozen => .cells #[.int .u8 128, .int .u8 191, .int .u8 160, .int .u8 191, .int .u8 128, .int .u8 159, .int .u8 144, .int .u8 191, .int .u8 128, .int .u8 143, .int .u8 0, .int .u8 0, .int .u8 0, .int .u8 0, .int .u8 0, .int .u8 0, .int .u8 0, .int .u8 0, .int .u8 0, .int .u8 0, .int .u8 0, .int .u8 0, .int .u8 0, .int .u8 0, .int .u8 0, .int .u8 0, .int .u8 0, .int .u8 0, .int .u8 0, .int .u8 0, .int .u8 0, .int .u8 0] t frozen | o => o).modify 15 fun | .cells _ t frozen => .cells #[.int .u8 0, .int .u8 127, .int .u8 0, .int .u8 0, .int .i64 1, .int .u8 0, .int .u8 194, .int .u8 223, .int .u8 128, .int .u8 191, .int .i64 2, .int .u8 192, .int .u8 224, .int .u8 224, .int .u8 160, .int .u8 191, .int .i64 3, .int .u8 224, .int .u8 225, .int .u8 236, .int .u8 128, .int .u8 191, .int .i64 3, .int .u8 224, .int .u8 237, .int .u8 237, .int .u8 128, .int .u8 159, .int .i64 3, .int .u8 224, .int .u8 238, .int .u8 239, .int .u8 128, .int .u8 191, .int .i64 3, .int .u8 224, .int .u8 240, .int .u8 240, .int .u8 144, .int .u8 191, .int .i64 4, .int .u8 240, .int .u8 241, .int .u8 243, .int .u8 128, .int .u8 191, .int .i64 4, .int .u8 240, .int .u8 244, .int .u8 244, .int .u8 128, .int .u8 143, .int .i64 4, .int .u8 240] t frozen | o => o).push (.cells #[.string ⟨#[97, 98, 111, 118, 101, 32, 97, 32, 108, 105, 109, 105, 116]⟩] 199)).push (.cells #[.string ⟨#[97, 32, 110, 117, 109, 98, 101, 114, 32, 111, 114, 32, 97, 110, 32, 97, 114, 103, 117, 109, 101, 110, 116, 32, 105, 115, 32, 111, 117, 116, 32, 111, 102, 32, 105, 116, 115, 32, 112, 108, 97, 99, 101]⟩] 199)).push (.cells #[.string ⟨#[97, 32, 116, 101, 120, 116, 32, 111, 114, 32, 98, 121, 116, 101, 115, 32, 116, 104, 97, 116, 32, 99, 97, 110, 110, 111, 116, 32, 98, 101, 32, 114, 101, 97, 100]⟩] 199)).push (.cells #[.string ⟨#[115, 111, 109, 101, 116, 104, 105, 110, 103, 32, 105, 115, 32, 109, 105, 115, 115, 105, 110, 103]⟩] 199)).push (.cells #[.string ⟨#[116, 104, 101, 114, 101, 32, 116, 119, 105, 99, 101]⟩] 199)).push (.cells #[.string ⟨#[110, 111, 116, 32, 105, 110, 32, 111, 114, 100, 101, 114]⟩] 199)).push (.cells #[.string ⟨#[110, 111, 116, 32, 116, 104, 101, 114, 101]⟩] 199)).push (.cells #[.string ⟨#[103, 111, 101, 115, 32, 114, 111, 117, 110, 100, 32, 105, 110, 32, 97, 32, 99, 105, 114, 99, 108, 101]⟩] 199)).push (.cells #[.string ⟨#[116, 104, 101, 32, 115, 117, 109, 32, 100, 111, 101, 115, 32, 110, 111, 116, 32, 102, 105, 116]⟩] 199)).push (.cells #[.string ⟨#[110, 111, 116, 32, 116, 104, 101, 32, 111, 110, 101, 32, 102, 111, 114, 109, 32, 116, 104, 97, 116, 32, 105, 115, 32, 119, 114, 105, 116, 116, 101, 110]⟩] 199)).push (.cells #[.string ⟨#[105, 116, 32, 104, 97, 115, 32, 101, 110, 100, 101, 100]⟩] 199)) }
set_option maxRecDepth 100000 in
theorem door_shaped (os : Os) (args : Array Value) : ((laidWorld (World.holding Tryz.prog os ⟨#[], #[], []⟩)).forCall (fun _ _ => 0) ⟨#[], args, []⟩).Shaped Tryz.prog :=
  World.shaped_of_RefB (by kernel_rfl) (by kernel_rfl)
/-- An input that fits, at a world that is written out. -/
theorem witness_row_shaped {H : Type} {enc : TypeId × Value → H} {C : Checked} {os : Os} {f : FuncId} {fn : Func} {s : OpenSpec} {conds : List PathCond} {apart : Bool} {laid : List (String × DataW Unit)} (w0 : World) (args : Array Value) (hos : w0.os = os)
    (hsh : (w0.forCall (fun _ _ => 0) ⟨#[], args, []⟩).Shaped C.prog)
    (hok : Input.okWideB C.prog (w0.forCall (fun _ _ => 0) ⟨#[], args, []⟩) f ⟨#[], args, []⟩ = true)
    (hrow : s.preRow enc C.prog fn conds apart laid (w0.forCall (fun _ _ => 0) ⟨#[], args, []⟩).memory args) :
    ∃ (w : World) (tape : Tape) (i : Input), w.os = os ∧ (w.forCall tape i).Shaped C.prog ∧ i.vars = [] ∧ Input.okWide C.prog (w.forCall tape i) .any w.heap.size f i ∧
      s.preRow enc C.prog fn conds apart laid (w.forCall tape i).memory i.args ∧ ({} : Assume).holds C.prog (lone (Frame.enter C.prog f i.args .normal) [] (w.forCall tape i)) :=
  ⟨w0, fun _ _ => 0, ⟨#[], args, []⟩, hos, hsh, (Input.okWide_of_okWideB (base := 0) hok).1, (Input.okWide_of_okWideB hok).2, hrow, by
    simp only [Assume.holds]
    exact ⟨by simp, by simp, by simp, by simp, by simp⟩⟩
theorem laidOut : laidOutB Tryz.prog = true := by kernel_rfl
set_option maxRecDepth 10000 in
/-- The frame of a law of one parameter that answers true, writes nothing that was there, and lists no variable among its readings. -/
theorem law_contract {H : Type} {enc : TypeId × Value → H} {f : FuncId} {fn : Func} {s : ChangeSpec} {t : TypeId} (hp : fn.params = #[t]) (hrt : fn.resultTypes = #[4]) (hvars : s.vars = [])
    (hfn : ∀ (K : Type) (d : DataW K), s.fn K [d] = { results := [.lit (.bool true)], args := [d] }) (hread : Tryz.prog.readableRec t = true) (hrow : t < Tryz.prog.types.size)
    (W : World) (base : Nat) (args : Array Value) (ds gs : List (DataW H)) (before : List MemPlace)
    (hval : ∀ (j : Nat) t v, fn.params[j]? = some t → args[j]? = some v → Value.okWide Tryz.prog W .any base t v)
    (hW : DataW.Whole enc Tryz.prog fn.params.toList s.vars false W args.toList ds gs before)
    (hsz : (DataW.weightsEach Tryz.prog (fn.params.toList ++ s.plain.varTypes Tryz.prog) (ds ++ gs)).all (· ≤ reachBytes) = true)
    (walk : ∀ (v : Value) (d : DataW H) (p : List MemPlace), Value.okWide Tryz.prog W .any base t v → DataW.Trod enc Tryz.prog W 0 (fun _ => true) true t v d p → (∀ x ∈ p, x.block < W.heap.size) → (∀ x ∈ d.weights Tryz.prog t, x ≤ reachBytes) → ds = [d] → gs = [] →
      Calls Tryz.prog f #[v] W fun e W' => e = .returned (.bool true) ∧ Below W.heap.size W W') :
    Calls Tryz.prog f args W fun e W' => ∃ v, e = .returned v ∧ s.post enc Tryz.prog fn false true false false W args v W' := by
  have hW' := hW
  obtain ⟨p, q, hA0, hV, rfl, hfz, hnd⟩ := hW
  have hA : DataW.TrodAll enc Tryz.prog W 0 (fun _ => true) true fn.params.toList args.toList ds p := hA0
  rw [hp] at hA hval hsz
  obtain ⟨v0, vs0, d0, ds0, p0, q0, hargs, rfl, rfl, h0, r0⟩ := trodAll_cons hA
  obtain ⟨rfl, rfl, rfl⟩ := trodAll_nil r0
  obtain rfl : args = #[v0] := by cases args; simp_all
  rw [hvars] at hV
  obtain ⟨rfl, rfl⟩ := trodVars_none hV
  have hlt : ∀ x ∈ p0, x.block < W.heap.size := fun x hx => by have := hW'.lt x (by simpa using hx); simpa using this
  have hw : ∀ x ∈ d0.weights Tryz.prog t, x ≤ reachBytes := fun x hx => by
    have := List.all_eq_true.1 hsz x (DataW.weights_mem_each (j := 0) (by simp) (by simp) x hx)
    simpa using this
  refine (walk v0 d0 p0 (hval 0 t v0 rfl rfl) h0 hlt hw rfl rfl).mono fun e W' ⟨he, hb⟩ => ?_
  subst he
  refine ⟨_, rfl, [d0], [], _, [], p0 ++ [], [], hW', ?_, ?_, ?_, hb.frame _, fun h => by cases h⟩
  · rw [hrt, show ([d0] ++ ([] : List (DataW H))) = [d0] from rfl, hfn]
    exact trodAll_cons_mk (shut_bool Tryz.underlying4 true) trodAll_mk0
  · rw [hp, show ([d0] ++ ([] : List (DataW H))) = [d0] from rfl, hfn]
    exact trodAll_cons_mk (Below.trod laidOut hread hrow h0 hb hlt) trodAll_mk0
  · rw [hvars, show ([d0] ++ ([] : List (DataW H))) = [d0] from rfl, hfn]
    rfl
set_option maxRecDepth 10000 in
/-- The same frame for a law without parameters. -/
theorem law_contract0 {H : Type} {enc : TypeId × Value → H} {f : FuncId} {fn : Func} {s : ChangeSpec} (hp : fn.params = #[]) (hrt : fn.resultTypes = #[4]) (hvars : s.vars = [])
    (hfn : ∀ (K : Type), s.fn K [] = { results := [.lit (.bool true)], args := [] })
    (W : World) (args : Array Value) (ds gs : List (DataW H)) (before : List MemPlace)
    (hW : DataW.Whole enc Tryz.prog fn.params.toList s.vars false W args.toList ds gs before)
    (walk : Calls Tryz.prog f #[] W fun e W' => e = .returned (.bool true) ∧ Below W.heap.size W W') :
    Calls Tryz.prog f args W fun e W' => ∃ v, e = .returned v ∧ s.post enc Tryz.prog fn false true false false W args v W' := by
  have hW' := hW
  obtain ⟨p, q, hA0, hV, rfl, hfz, hnd⟩ := hW
  have hA : DataW.TrodAll enc Tryz.prog W 0 (fun _ => true) true fn.params.toList args.toList ds p := hA0
  rw [hp] at hA
  obtain ⟨hargs, rfl, rfl⟩ := trodAll_nil hA
  obtain rfl : args = #[] := by cases args; simp_all
  rw [hvars] at hV
  obtain ⟨rfl, rfl⟩ := trodVars_none hV
  refine walk.mono fun e W' ⟨he, hb⟩ => ?_
  subst he
  refine ⟨_, rfl, [], [], _, [], [], [], hW', ?_, ?_, ?_, hb.frame _, fun h => by cases h⟩
  · rw [hrt, show (([] : List (DataW H)) ++ []) = [] from rfl, hfn]
    exact trodAll_cons_mk (shut_bool Tryz.underlying4 true) trodAll_mk0
  · rw [hp, show (([] : List (DataW H)) ++ []) = [] from rfl, hfn]
    exact trodAll_mk0
  · rw [hvars, show (([] : List (DataW H)) ++ []) = [] from rfl, hfn]
    rfl
end Go.Proofs.YtlnejmmhhmmomaaGreatDoor
namespace Go.Proofs.YtlnejmmhhmmomaaGreatDoor
open Go.ChangeShapes Go.WideShapes Go.ChangeAt Go.RowKit
theorem star : ("*" ++ "errors.errorString" : String) = "*errors.errorString" := by decide
theorem errRow (u : TypeId) (h : Tryz.prog.typeName? 3 u = some "*errors.errorString") : u = 185 :=
  typeName_ptr_named (nm := "errors.errorString") (by rw [star]; kernel_rfl) (by kernel_rfl) (by decide) u (by rw [star]; exact h)
theorem cellsErr : Tryz.prog.cellsOf 199 = 1 := by kernel_rfl
theorem cellsStr : Tryz.prog.cellsOf 9 = 1 := by kernel_rfl
/-- A listed refusal. -/
def sentRow (x : String × List UInt8) : String × DataW Unit := (x.1, .iface "*errors.errorString" (.ptr (.agg [.lit (.string x.2)])))
set_option maxRecDepth 10000 in
theorem sents_list {W : World} (rest : List (String × DataW Unit)) : ∀ (L : List (String × List UInt8)) (ps : List MemPlace),
    DataW.LaidVars Tryz.prog W (L.map sentRow ++ rest) ps → ps.Nodup →
    (∀ b off, MemPlace.cell b off ∈ ps → (∃ c t, W.heap[b]? = some (.cells c t (0, 0))) ∧ ∀ u v, W.cell? ⟨b, off, none⟩ = some (.iface u v) → Value.okWide Tryz.prog W .any 0 u v) →
    (∀ x ∈ L, ∀ g t, Tryz.prog.globalNamed x.1 = some g → (Tryz.prog.globals[g]?).map (·.type) = some t → t = 30) →
    ∃ xs : List Addr, xs.length = L.length ∧ xs.Nodup ∧ (∀ a ∈ xs, MemPlace.cell a.block a.off ∈ ps ∧ ∃ c t, W.heap[a.block]? = some (.cells c t (0, 0))) ∧
      ∀ i (h : i < L.length) g, Tryz.prog.globalNamed (L[i]).1 = some g → W.cell? ⟨g, 0, none⟩ = some (.iface 185 (.pointer (some (xs.getD i ⟨0, 0, none⟩)))) := by
  intro L
  induction L with
  | nil => intro ps _ _ _ _; exact ⟨[], rfl, List.nodup_nil, (fun a h => by cases h), fun i h => absurd h (Nat.not_lt_zero _)⟩
  | cons x L ih =>
    intro ps hl hnd hrows hty
    obtain ⟨g0, t0, cs0, f0, p0, q0, hg0, ht0, hv0, hd0, hl', rfl⟩ := hl
    obtain rfl := hty x List.mem_cons_self g0 t0 hg0 ht0
    obtain ⟨l0⟩ := cs0
    have ok0 : ∀ u v, l0 = [.iface u v] → Value.okWide Tryz.prog W .any 0 u v := fun u v e => by
      subst e
      exact (hrows g0 0 (by simp [MemPlace.row])).2 u v (by simpa using World.var?_cell hg0 hv0 0)
    obtain ⟨a, s, rfl, _, _, _, rfl⟩ := errorString_of_trod Tryz.underlying30 errRow Tryz.underlying185 Tryz.underlying199 rfl rfl Tryz.underlying9 cellsErr cellsStr hd0 ok0
    have hnd1 := List.nodup_append.1 hnd
    obtain ⟨xs, h1, h2, h3, h4⟩ := ih q0 hl' hnd1.2.1 (fun b off hb => hrows b off (List.mem_append_right _ hb)) (fun y hy => hty y (List.mem_cons_of_mem _ hy))
    have hmem : MemPlace.cell a.block a.off ∈ MemPlace.row ⟨g0, 0, none⟩ (#[Value.iface 185 (.pointer (some a))] : Array Value).size ++ MemPlace.row a 1 := by simp [MemPlace.row]
    refine ⟨a :: xs, by simp [h1], List.nodup_cons.2 ⟨fun hin => ?_, h2⟩, fun b hb => ?_, fun i hi g hg => ?_⟩
    · exact (hnd1.2.2 _ hmem _ (h3 a hin).1) rfl
    · rcases List.mem_cons.1 hb with rfl | hb
      · exact ⟨List.mem_append_left _ hmem, (hrows _ _ (List.mem_append_left _ hmem)).1⟩
      · exact ⟨List.mem_append_right _ (h3 b hb).1, (h3 b hb).2⟩
    · cases i with
      | zero =>
        have e : g = g0 := Option.some.inj (hg.symm.trans hg0)
        subst e
        simpa using World.var?_cell hg0 hv0 0
      | succ i => exact h4 i (by simpa using hi) g hg
/-- The text of a listed refusal. -/
def sentText : DataW Unit → List UInt8
  | .iface _ (.ptr (.agg [.lit (.string s)])) => s
  | _ => []
def sentList : List (String × List UInt8) := [("caesura/api.ErrArg", sentText Rows.laid_caesura_api_ErrArg), ("caesura/api.ErrText", sentText Rows.laid_caesura_api_ErrText), ("caesura/api.ErrMany", sentText Rows.laid_caesura_api_ErrMany), ("caesura/api.ErrShort", sentText Rows.laid_caesura_api_ErrShort), ("caesura/api.ErrTwice", sentText Rows.laid_caesura_api_ErrTwice), ("caesura/api.ErrLost", sentText Rows.laid_caesura_api_ErrLost), ("caesura/api.ErrOrder", sentText Rows.laid_caesura_api_ErrOrder), ("caesura/api.ErrCycle", sentText Rows.laid_caesura_api_ErrCycle), ("caesura/api.ErrSum", sentText Rows.laid_caesura_api_ErrSum), ("caesura/api.ErrForm", sentText Rows.laid_caesura_api_ErrForm), ("caesura/api.ErrEnd", sentText Rows.laid_caesura_api_ErrEnd)]
theorem sentTypes : ∀ x ∈ sentList, ∀ g t, Tryz.prog.globalNamed x.1 = some g → (Tryz.prog.globals[g]?).map (·.type) = some t → t = 30 := by
  have h : (sentList.all fun x => match Tryz.prog.globalNamed x.1 with | some g => (Tryz.prog.globals[g]?).map (·.type) == some 30 | none => true) = true := by kernel_rfl
  intro x hx g t hg ht
  have := List.all_eq_true.1 h x hx
  rw [hg] at this
  simp only [ht] at this
  simpa using this
theorem g_ErrArg : Tryz.prog.globalNamed "caesura/api.ErrArg" = some 1 := by kernel_rfl
theorem g_ErrText : Tryz.prog.globalNamed "caesura/api.ErrText" = some 2 := by kernel_rfl
theorem g_ErrMany : Tryz.prog.globalNamed "caesura/api.ErrMany" = some 0 := by kernel_rfl
theorem g_ErrShort : Tryz.prog.globalNamed "caesura/api.ErrShort" = some 3 := by kernel_rfl
theorem g_ErrTwice : Tryz.prog.globalNamed "caesura/api.ErrTwice" = some 4 := by kernel_rfl
theorem g_ErrLost : Tryz.prog.globalNamed "caesura/api.ErrLost" = some 6 := by kernel_rfl
theorem g_ErrOrder : Tryz.prog.globalNamed "caesura/api.ErrOrder" = some 5 := by kernel_rfl
theorem g_ErrCycle : Tryz.prog.globalNamed "caesura/api.ErrCycle" = some 7 := by kernel_rfl
theorem g_ErrSum : Tryz.prog.globalNamed "caesura/api.ErrSum" = some 8 := by kernel_rfl
theorem g_ErrForm : Tryz.prog.globalNamed "caesura/api.ErrForm" = some 9 := by kernel_rfl
theorem g_ErrEnd : Tryz.prog.globalNamed "caesura/api.ErrEnd" = some 10 := by kernel_rfl
theorem sents_of {W : World} {rest : List (String × DataW Unit)} (h : laidMet Tryz.prog (sentList.map sentRow ++ rest) W) : ∃ A, Sents W A := by
  obtain ⟨ps, hl, hnd, hrows⟩ := h
  obtain ⟨xs, h1, h2, h3, h4⟩ := sents_list rest sentList ps hl hnd hrows sentTypes
  have h11 : xs.length = 11 := h1
  refine ⟨fun i => xs.getD i ⟨0, 0, none⟩, h4 0 (by decide) _ g_ErrArg, h4 1 (by decide) _ g_ErrText, h4 2 (by decide) _ g_ErrMany, h4 3 (by decide) _ g_ErrShort, h4 4 (by decide) _ g_ErrTwice, h4 5 (by decide) _ g_ErrLost, h4 6 (by decide) _ g_ErrOrder, h4 7 (by decide) _ g_ErrCycle, h4 8 (by decide) _ g_ErrSum, h4 9 (by decide) _ g_ErrForm, h4 10 (by decide) _ g_ErrEnd, fun i j hi hj hij e => ?_, fun i hi => ?_⟩
  · have hi' : i < xs.length := by omega
    have hj' : j < xs.length := by omega
    simp only [List.getD_eq_getElem?_getD, List.getElem?_eq_getElem hi', List.getElem?_eq_getElem hj', Option.getD_some] at e
    exact hij ((List.getElem_inj h2).1 e)
  · have hi' : i < xs.length := by omega
    simp only [List.getD_eq_getElem?_getD, List.getElem?_eq_getElem hi', Option.getD_some]
    exact (h3 _ (List.getElem_mem hi')).2
end Go.Proofs.YtlnejmmhhmmomaaGreatDoor
namespace Go.Proofs.YtlnejmmhhmmomaaGreatDoor
open Go.ChangeShapes Go.WideShapes Go.ChangeAt Go.RowKit Go.Joins
theorem array_of {H : Type} {enc : TypeId × Value → H} {P : Program} {w : World} {base : Nat} {sp : Nat → Bool} {held : Bool} {fuel : Nat} {t e : TypeId} {n m : Nat} {cs : List Value} {ds : List (DataW H)} {p : List MemPlace}
    (ht : P.underlying t = some (.array n e)) (hce : P.cellsOf e = m) (h : DataW.trod enc P w base sp held fuel t cs = some (.agg ds, p)) (i : Nat) (hi : i < n) :
    ∃ fuel' d q, ds[i]? = some d ∧ DataW.trod enc P w base sp held fuel' e ((cs.drop (i * m)).take m) = some (d, q) := by
  cases fuel with
  | zero => simp [DataW.trod] at h
  | succ fuel =>
    simp only [DataW.trod, ht, hce] at h
    split at h
    · obtain ⟨xs, hm, hx⟩ := Option.map_eq_some_iff.1 h
      obtain ⟨b, hb, hf⟩ := Lib.mapM_at hm i i (by simp [hi])
      have hxs : xs.map (·.1) = ds := by
        have := congrArg Prod.fst hx
        simpa using this
      refine ⟨fuel, b.1, b.2, ?_, hf⟩
      rw [← hxs]
      simp [hb]
    · cases h
theorem struct_of {H : Type} {enc : TypeId × Value → H} {P : Program} {w : World} {base : Nat} {sp : Nat → Bool} {held : Bool} {fuel : Nat} {e : TypeId} {fs : Array Field} {cs : List Value} {ds : List (DataW H)} {p : List MemPlace}
    (he : P.underlying e = some (.struct fs)) (h : DataW.trod enc P w base sp held fuel e cs = some (.agg ds, p)) (k : Nat) (f : Field) (hk : fs.toList[k]? = some f) :
    ∃ fuel' d q, ds[k]? = some d ∧ DataW.trod enc P w base sp held fuel' f.type ((cs.drop f.offset).take (P.cellsOf f.type)) = some (d, q) := by
  cases fuel with
  | zero => simp [DataW.trod] at h
  | succ fuel =>
    simp only [DataW.trod, he] at h
    split at h
    · obtain ⟨xs, hm, hx⟩ := Option.map_eq_some_iff.1 h
      obtain ⟨b, hb, hf⟩ := Lib.mapM_at hm k f hk
      have hxs : xs.map (·.1) = ds := by
        have := congrArg Prod.fst hx
        simpa using this
      refine ⟨fuel, b.1, b.2, ?_, hf⟩
      rw [← hxs]
      simp [hb]
    · cases h
theorem gSeq : Tryz.prog.globalNamed "caesura/units.sequences" = some 15 := by kernel_rfl
theorem gSeqType : (Tryz.prog.globals[15]?).map (·.type) = some 175 := by kernel_rfl
theorem cellsRow : Tryz.prog.cellsOf 154 = 6 := by kernel_rfl
def rowLits {H : Type} (i : Nat) : List (DataW H) := [.lit (.int .u8 (tLo i)), .lit (.int .u8 (tHi i)), .lit (.int .u8 (tLo2 i)), .lit (.int .u8 (tHi2 i)), .lit (.int .i64 (tSz i)), .lit (.int .u8 (tMk i))]
theorem laid_rows : (Rows.laid_caesura_units_sequences : DataW Unit) = .agg ((List.range 9).map fun i => .agg (rowLits i)) := by rfl
theorem one_int {H : Type} {enc : TypeId × Value → H} {P : Program} {w : World} {base : Nat} {sp : Nat → Bool} {held : Bool} {fuel : Nat} {t : TypeId} {k : IntKind} {cs : List Value} {z : Int} {d : DataW H} {q : List MemPlace} (o : Nat)
    (ht : P.underlying t = some (.int k)) (hc : P.cellsOf t = 1) (h : DataW.trod enc P w base sp held fuel t ((cs.drop o).take (P.cellsOf t)) = some (d, q)) (hd : some d = some (.lit (.int k z))) : cs[o]? = some (.int k z) := by
  rw [hc] at h
  obtain ⟨z', hcs, e, _⟩ := DataW.trod_int ht h
  obtain rfl : d = _ := congrArg Prod.fst e
  simp only [Option.some.injEq, DataW.lit.injEq, Lit.int.injEq, true_and] at hd
  subst hd
  have := congrArg (·[0]?) hcs
  simpa [List.getElem?_take, List.getElem?_drop] using this
theorem seqAt_of {W : World} {rest : List (String × DataW Unit)} (h : laidMet Tryz.prog (("caesura/units.sequences", Rows.laid_caesura_units_sequences) :: rest) W) : SeqAt W := by
  obtain ⟨ps, ⟨g', t', cs, fuel, p, q, hg', ht', hvar, hd, _, _⟩, _⟩ := h
  obtain rfl := Option.some.inj (gSeq.symm.trans hg')
  obtain rfl := Option.some.inj (gSeqType.symm.trans ht')
  rw [laid_rows] at hd
  intro i hi k hk
  obtain ⟨f1, d1, q1, hd1, h1⟩ := array_of (m := 6) Tryz.underlying175 cellsRow hd i hi
  have e1 : d1 = .agg (rowLits i) := by simpa [hi] using hd1.symm
  subst e1
  have hc := World.var?_cell gSeq hvar (i * 6 + k)
  rw [hc]
  have key : ((cs.toList.drop (i * 6)).take 6)[k]? = (rowCells i)[k]? := by
    obtain rfl | rfl | rfl | rfl | rfl | rfl : k = 0 ∨ k = 1 ∨ k = 2 ∨ k = 3 ∨ k = 4 ∨ k = 5 := by omega
    · obtain ⟨f2, d2, q2, hd2, h2⟩ := struct_of Tryz.underlying154 h1 0 _ rfl
      exact one_int 0 Tryz.underlying5 (by kernel_rfl) h2 hd2.symm
    · obtain ⟨f2, d2, q2, hd2, h2⟩ := struct_of Tryz.underlying154 h1 1 _ rfl
      exact one_int 1 Tryz.underlying5 (by kernel_rfl) h2 hd2.symm
    · obtain ⟨f2, d2, q2, hd2, h2⟩ := struct_of Tryz.underlying154 h1 2 _ rfl
      exact one_int 2 Tryz.underlying5 (by kernel_rfl) h2 hd2.symm
    · obtain ⟨f2, d2, q2, hd2, h2⟩ := struct_of Tryz.underlying154 h1 3 _ rfl
      exact one_int 3 Tryz.underlying5 (by kernel_rfl) h2 hd2.symm
    · obtain ⟨f2, d2, q2, hd2, h2⟩ := struct_of Tryz.underlying154 h1 4 _ rfl
      exact one_int 4 Tryz.underlying3 (by kernel_rfl) h2 hd2.symm
    · obtain ⟨f2, d2, q2, hd2, h2⟩ := struct_of Tryz.underlying154 h1 5 _ rfl
      exact one_int 5 Tryz.underlying5 (by kernel_rfl) h2 hd2.symm
  rw [← key, List.getElem?_take, if_pos hk, List.getElem?_drop]
  simp
end Go.Proofs.YtlnejmmhhmmomaaGreatDoor
