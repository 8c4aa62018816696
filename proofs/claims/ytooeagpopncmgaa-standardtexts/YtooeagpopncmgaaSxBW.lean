/-
  The five texts, the program's and the document's (stage 24; written by SxBW.py).
-/
import Derived.Test.YtooeagpopncmgaaSxAW
import Derived.Laws.EntriesVeiled
namespace Go.Proofs.Ytooeagpopncmgaa
open Go.RowKit Go.Shelf
theorem Fw.alloc {w0 : World} {B b c : Nat} {l : List UInt8} {w : World} (h : Fw w0 B b c l w) (o : Obj) : Fw w0 B b c l (w.alloc o) := by
  have hb : Below w.heap.size w (w.alloc o) := (Below.refl _ _).alloc (Nat.le_refl _) _
  have bld : ∀ p, Lib.BuilderAt 27 5 B b p (Lib.byteCells l) w → Lib.BuilderAt 27 5 B b p (Lib.byteCells l) (w.alloc o) := fun p ⟨h1, v, h2, h3, h4⟩ => ⟨h1, v, (hb.block b (Array.getElem?_eq_some_iff.1 h2).1).trans h2, World.ownsRow.kept h3 (row := none) ⟨hb.os, hb.tape, hb.output, hb.size, fun k hk _ => hb.block k hk⟩ (by cases hv : v.ownBlock <;> simp), h4⟩
  exact ⟨h.bl.elim (fun x => .inl (bld _ x)) (fun x => .inr (bld _ x)), (Below.heap_alloc w o c (Array.getElem?_eq_some_iff.1 h.ln).1).trans h.ln, h.ne, h.bel.alloc h.sz o, Nat.le_trans h.sz (by simp)⟩
theorem Fw.ltb {w0 : World} {B b c : Nat} {l : List UInt8} {w : World} (h : Fw w0 B b c l w) : b < w.heap.size := by
  rcases h.bl with ⟨_, v, h2, _, _⟩ | ⟨_, v, h2, _, _⟩ <;> exact (Array.getElem?_eq_some_iff.1 h2).1
def prK0 : List UInt8 := [35, 32, 83, 101, 110, 116, 101, 110, 99, 101, 95, 66, 114, 101, 97, 107, 44, 32, 97, 32, 112, 97, 114, 116, 32, 111, 102, 32, 105, 116] ++ [10]
def prN0 : List UInt8 := [67, 82]
def prP0 : List (List UInt8) := [[48, 48, 48, 68]]
def prK1 : List UInt8 := prK0 ++ clsF prN0 prP0
def prN1 : List UInt8 := [76, 70]
def prP1 : List (List UInt8) := [[48, 48, 48, 65]]
def prK2 : List UInt8 := prK1 ++ clsF prN1 prP1
def prN2 : List UInt8 := [83, 101, 112]
def prP2 : List (List UInt8) := [[48, 48, 56, 53], [50, 48, 50, 56, 46, 46, 50, 48, 50, 57]]
def prK3 : List UInt8 := prK2 ++ clsF prN2 prP2
def prN3 : List UInt8 := [69, 120, 116, 101, 110, 100]
def prP3 : List (List UInt8) := [[48, 51, 48, 48, 46, 46, 48, 51, 54, 70], [48, 52, 56, 51, 46, 46, 48, 52, 56, 57], [48, 53, 57, 49, 46, 46, 48, 53, 66, 68], [48, 54, 52, 66, 46, 46, 48, 54, 53, 70], [50, 48, 48, 67, 46, 46, 50, 48, 48, 68], [70, 69, 48, 48, 46, 46, 70, 69, 48, 70]]
def prK4 : List UInt8 := prK3 ++ clsF prN3 prP3
def prN4 : List UInt8 := [70, 111, 114, 109, 97, 116]
def prP4 : List (List UInt8) := [[48, 48, 65, 68], [50, 48, 48, 69, 46, 46, 50, 48, 48, 70], [50, 48, 50, 65, 46, 46, 50, 48, 50, 69], [70, 69, 70, 70]]
def prK5 : List UInt8 := prK4 ++ clsF prN4 prP4
def prN5 : List UInt8 := [83, 112]
def prP5 : List (List UInt8) := [[48, 48, 48, 57], [48, 48, 48, 66, 46, 46, 48, 48, 48, 67], [48, 48, 50, 48], [48, 48, 65, 48], [49, 54, 56, 48], [50, 48, 48, 48, 46, 46, 50, 48, 48, 65], [50, 48, 50, 70], [50, 48, 53, 70], [51, 48, 48, 48]]
def prK6 : List UInt8 := prK5 ++ clsF prN5 prP5
def prN6 : List UInt8 := [76, 111, 119, 101, 114]
def prP6 : List (List UInt8) := [[48, 48, 54, 49, 46, 46, 48, 48, 55, 65], [48, 48, 65, 65], [48, 48, 66, 53], [48, 48, 66, 65], [48, 48, 68, 70, 46, 46, 48, 48, 70, 54], [48, 48, 70, 56, 46, 46, 48, 48, 70, 70], [48, 51, 65, 67, 46, 46, 48, 51, 67, 69], [48, 52, 51, 48, 46, 46, 48, 52, 53, 70]]
def prK7 : List UInt8 := prK6 ++ clsF prN6 prP6
def prN7 : List UInt8 := [85, 112, 112, 101, 114]
def prP7 : List (List UInt8) := [[48, 48, 52, 49, 46, 46, 48, 48, 53, 65], [48, 48, 67, 48, 46, 46, 48, 48, 68, 54], [48, 48, 68, 56, 46, 46, 48, 48, 68, 69], [48, 51, 57, 49, 46, 46, 48, 51, 65, 49], [48, 51, 65, 51, 46, 46, 48, 51, 65, 66], [48, 52, 48, 48, 46, 46, 48, 52, 50, 70]]
def prK8 : List UInt8 := prK7 ++ clsF prN7 prP7
def prN8 : List UInt8 := [79, 76, 101, 116, 116, 101, 114]
def prP8 : List (List UInt8) := [[48, 53, 68, 48, 46, 46, 48, 53, 69, 65], [48, 54, 50, 49, 46, 46, 48, 54, 52, 65], [51, 48, 52, 49, 46, 46, 51, 48, 57, 54], [51, 48, 65, 49, 46, 46, 51, 48, 70, 65], [52, 69, 48, 48, 46, 46, 57, 70, 70, 70], [65, 67, 48, 48, 46, 46, 68, 55, 65, 51]]
def prK9 : List UInt8 := prK8 ++ clsF prN8 prP8
def prN9 : List UInt8 := [78, 117, 109, 101, 114, 105, 99]
def prP9 : List (List UInt8) := [[48, 48, 51, 48, 46, 46, 48, 48, 51, 57], [48, 54, 54, 48, 46, 46, 48, 54, 54, 57], [48, 54, 54, 66, 46, 46, 48, 54, 54, 67]]
def prK10 : List UInt8 := prK9 ++ clsF prN9 prP9
def prN10 : List UInt8 := [65, 84, 101, 114, 109]
def prP10 : List (List UInt8) := [[48, 48, 50, 69], [50, 48, 50, 52], [70, 69, 53, 50], [70, 70, 48, 69]]
def prK11 : List UInt8 := prK10 ++ clsF prN10 prP10
def prN11 : List UInt8 := [83, 84, 101, 114, 109]
def prP11 : List (List UInt8) := [[48, 48, 50, 49], [48, 48, 51, 70], [48, 53, 56, 57], [48, 54, 49, 70], [51, 48, 48, 50], [70, 70, 48, 49], [70, 70, 49, 70], [70, 70, 54, 49]]
def prK12 : List UInt8 := prK11 ++ clsF prN11 prP11
def prN12 : List UInt8 := [83, 67, 111, 110, 116, 105, 110, 117, 101]
def prP12 : List (List UInt8) := [[48, 48, 50, 67, 46, 46, 48, 48, 50, 68], [48, 48, 51, 65], [48, 53, 53, 68], [48, 54, 48, 67], [50, 48, 49, 51, 46, 46, 50, 48, 49, 52], [51, 48, 48, 49], [70, 70, 48, 67, 46, 46, 70, 70, 48, 68], [70, 70, 49, 65]]
def prK13 : List UInt8 := prK12 ++ clsF prN12 prP12
def prN13 : List UInt8 := [67, 108, 111, 115, 101]
def prP13 : List (List UInt8) := [[48, 48, 50, 50], [48, 48, 50, 55, 46, 46, 48, 48, 50, 57], [48, 48, 53, 66], [48, 48, 53, 68], [48, 48, 55, 66], [48, 48, 55, 68], [48, 48, 65, 66], [48, 48, 66, 66], [50, 48, 49, 56, 46, 46, 50, 48, 49, 70], [50, 48, 51, 57, 46, 46, 50, 48, 51, 65], [51, 48, 48, 56, 46, 46, 51, 48, 49, 49], [70, 70, 48, 56, 46, 46, 70, 70, 48, 57]]
def prK14 : List UInt8 := prK13 ++ clsF prN13 prP13
theorem prL0 : prK0.length ≤ 20000 := by decide +kernel
theorem prL1 : prK1.length ≤ 20000 := by decide +kernel
theorem prL2 : prK2.length ≤ 20000 := by decide +kernel
theorem prL3 : prK3.length ≤ 20000 := by decide +kernel
theorem prL4 : prK4.length ≤ 20000 := by decide +kernel
theorem prL5 : prK5.length ≤ 20000 := by decide +kernel
theorem prL6 : prK6.length ≤ 20000 := by decide +kernel
theorem prL7 : prK7.length ≤ 20000 := by decide +kernel
theorem prL8 : prK8.length ≤ 20000 := by decide +kernel
theorem prL9 : prK9.length ≤ 20000 := by decide +kernel
theorem prL10 : prK10.length ≤ 20000 := by decide +kernel
theorem prL11 : prK11.length ≤ 20000 := by decide +kernel
theorem prL12 : prK12.length ≤ 20000 := by decide +kernel
theorem prL13 : prK13.length ≤ 20000 := by decide +kernel
theorem prL14 : prK14.length ≤ 20000 := by decide +kernel
set_option maxRecDepth 100000 in
set_option maxHeartbeats 6400000 in
theorem property_any (w : World) : Calls Try.prog 14 #[] w fun e w' => e = .returned (.string (tx prK14)) ∧ Below w.heap.size w w' := by
  obtain ⟨W, hW⟩ : ∃ W, W = (w.alloc (.cells #[.pointer none, .slice none 0 0] 27)).alloc (.cells #[.nilFunc] 32) := ⟨_, rfl⟩
  have hs1 : (w.alloc (.cells #[.pointer none, .slice none 0 0] 27)).heap.size = w.heap.size + 1 := by simp
  have hW1 : W.heap[w.heap.size + 1]? = some (.cells #[.nilFunc] 32 (0, 0)) := by
    rw [hW]
    have := heap_alloc_new (w.alloc (.cells #[.pointer none, .slice none 0 0] 27)) (.cells #[.nilFunc] 32)
    rwa [hs1] at this
  have hW0 : W.heap[w.heap.size]? = some (.cells #[.pointer none, .slice none 0 0] 27 (0, 0)) := by
    rw [hW]
    exact (Below.heap_alloc _ _ _ (by simp)).trans (heap_alloc_new w _)
  have hBW : Below w.heap.size w W := by
    rw [hW]
    exact ((Below.refl _ w).alloc (Nat.le_refl _) _).alloc (by simp) _
  have k1 : W.cell? ⟨w.heap.size + 1, 0, none⟩ = some .nilFunc := by rw [cell_of_row _ _ _ _ _ _ hW1]; rfl
  have k2 : W.frozen? ⟨w.heap.size + 1, 0, none⟩ = false := frozen_of_row _ _ _ _ _ hW1
  have HI : Hid (Fw w w.heap.size w.heap.size (w.heap.size + 1) [] (W.setCell ⟨w.heap.size + 1, 0, none⟩ (.func (.func 15) #[] #[.pointer (some ⟨w.heap.size, 0, none⟩)]))) := hid0 (by
    refine ⟨.inl ⟨Nat.le_refl _, _, (Below.heap_setCell W _ _ _ (by simp)).trans hW0, World.ownsRow_nil _ _ _ _, by simp [Value.ownBlock]⟩, heap_setCell_same W (w.heap.size + 1) 0 _ _ _ hW1, by omega, hBW.setCell (by simp) _, (hBW.setCell (p := ⟨w.heap.size + 1, 0, none⟩) (by simp) _).size⟩)
  have hfold := hW.symm
  clear hs1 hW1 hW0 hBW hW
  go_enter Try.func14, Try.ntmps14
  go_wp2_with (first
    | (go_at_call 15; refine (line_any w w.heap.size w.heap.size (w.heap.size + 1) [] [35, 32, 83, 101, 110, 116, 101, 110, 99, 101, 95, 66, 114, 101, 97, 107, 44, 32, 97, 32, 112, 97, 114, 116, 32, 111, 102, 32, 105, 116] _ HI.out (by decide)).mono ?_; rintro e x0 ⟨rfl, h1, _⟩; have HF0 : Hid (Fw w w.heap.size w.heap.size (w.heap.size + 1) prK0 x0) := hid0 h1; clear h1)
    | (go_at_call 17; refine (class_any w w.heap.size w.heap.size (w.heap.size + 1) x0.heap.size prK0 prN0 prP0 _ (HF0.out.alloc _) prL0 (by decide) (by decide) (by decide) (heap_alloc_new x0 _) (Nat.ne_of_gt HF0.out.ltb)).mono ?_; rintro e x1 ⟨rfl, h1⟩; have HF1 : Hid (Fw w w.heap.size w.heap.size (w.heap.size + 1) prK1 x1) := hid0 h1; clear h1 HF0)
    | (go_at_call 17; refine (class_any w w.heap.size w.heap.size (w.heap.size + 1) x1.heap.size prK1 prN1 prP1 _ (HF1.out.alloc _) prL1 (by decide) (by decide) (by decide) (heap_alloc_new x1 _) (Nat.ne_of_gt HF1.out.ltb)).mono ?_; rintro e x2 ⟨rfl, h1⟩; have HF2 : Hid (Fw w w.heap.size w.heap.size (w.heap.size + 1) prK2 x2) := hid0 h1; clear h1 HF1)
    | (go_at_call 17; refine (class_any w w.heap.size w.heap.size (w.heap.size + 1) x2.heap.size prK2 prN2 prP2 _ (HF2.out.alloc _) prL2 (by decide) (by decide) (by decide) (heap_alloc_new x2 _) (Nat.ne_of_gt HF2.out.ltb)).mono ?_; rintro e x3 ⟨rfl, h1⟩; have HF3 : Hid (Fw w w.heap.size w.heap.size (w.heap.size + 1) prK3 x3) := hid0 h1; clear h1 HF2)
    | (go_at_call 17; refine (class_any w w.heap.size w.heap.size (w.heap.size + 1) x3.heap.size prK3 prN3 prP3 _ (HF3.out.alloc _) prL3 (by decide) (by decide) (by decide) (heap_alloc_new x3 _) (Nat.ne_of_gt HF3.out.ltb)).mono ?_; rintro e x4 ⟨rfl, h1⟩; have HF4 : Hid (Fw w w.heap.size w.heap.size (w.heap.size + 1) prK4 x4) := hid0 h1; clear h1 HF3)
    | (go_at_call 17; refine (class_any w w.heap.size w.heap.size (w.heap.size + 1) x4.heap.size prK4 prN4 prP4 _ (HF4.out.alloc _) prL4 (by decide) (by decide) (by decide) (heap_alloc_new x4 _) (Nat.ne_of_gt HF4.out.ltb)).mono ?_; rintro e x5 ⟨rfl, h1⟩; have HF5 : Hid (Fw w w.heap.size w.heap.size (w.heap.size + 1) prK5 x5) := hid0 h1; clear h1 HF4)
    | (go_at_call 17; refine (class_any w w.heap.size w.heap.size (w.heap.size + 1) x5.heap.size prK5 prN5 prP5 _ (HF5.out.alloc _) prL5 (by decide) (by decide) (by decide) (heap_alloc_new x5 _) (Nat.ne_of_gt HF5.out.ltb)).mono ?_; rintro e x6 ⟨rfl, h1⟩; have HF6 : Hid (Fw w w.heap.size w.heap.size (w.heap.size + 1) prK6 x6) := hid0 h1; clear h1 HF5)
    | (go_at_call 17; refine (class_any w w.heap.size w.heap.size (w.heap.size + 1) x6.heap.size prK6 prN6 prP6 _ (HF6.out.alloc _) prL6 (by decide) (by decide) (by decide) (heap_alloc_new x6 _) (Nat.ne_of_gt HF6.out.ltb)).mono ?_; rintro e x7 ⟨rfl, h1⟩; have HF7 : Hid (Fw w w.heap.size w.heap.size (w.heap.size + 1) prK7 x7) := hid0 h1; clear h1 HF6)
    | (go_at_call 17; refine (class_any w w.heap.size w.heap.size (w.heap.size + 1) x7.heap.size prK7 prN7 prP7 _ (HF7.out.alloc _) prL7 (by decide) (by decide) (by decide) (heap_alloc_new x7 _) (Nat.ne_of_gt HF7.out.ltb)).mono ?_; rintro e x8 ⟨rfl, h1⟩; have HF8 : Hid (Fw w w.heap.size w.heap.size (w.heap.size + 1) prK8 x8) := hid0 h1; clear h1 HF7)
    | (go_at_call 17; refine (class_any w w.heap.size w.heap.size (w.heap.size + 1) x8.heap.size prK8 prN8 prP8 _ (HF8.out.alloc _) prL8 (by decide) (by decide) (by decide) (heap_alloc_new x8 _) (Nat.ne_of_gt HF8.out.ltb)).mono ?_; rintro e x9 ⟨rfl, h1⟩; have HF9 : Hid (Fw w w.heap.size w.heap.size (w.heap.size + 1) prK9 x9) := hid0 h1; clear h1 HF8)
    | (go_at_call 17; refine (class_any w w.heap.size w.heap.size (w.heap.size + 1) x9.heap.size prK9 prN9 prP9 _ (HF9.out.alloc _) prL9 (by decide) (by decide) (by decide) (heap_alloc_new x9 _) (Nat.ne_of_gt HF9.out.ltb)).mono ?_; rintro e x10 ⟨rfl, h1⟩; have HF10 : Hid (Fw w w.heap.size w.heap.size (w.heap.size + 1) prK10 x10) := hid0 h1; clear h1 HF9)
    | (go_at_call 17; refine (class_any w w.heap.size w.heap.size (w.heap.size + 1) x10.heap.size prK10 prN10 prP10 _ (HF10.out.alloc _) prL10 (by decide) (by decide) (by decide) (heap_alloc_new x10 _) (Nat.ne_of_gt HF10.out.ltb)).mono ?_; rintro e x11 ⟨rfl, h1⟩; have HF11 : Hid (Fw w w.heap.size w.heap.size (w.heap.size + 1) prK11 x11) := hid0 h1; clear h1 HF10)
    | (go_at_call 17; refine (class_any w w.heap.size w.heap.size (w.heap.size + 1) x11.heap.size prK11 prN11 prP11 _ (HF11.out.alloc _) prL11 (by decide) (by decide) (by decide) (heap_alloc_new x11 _) (Nat.ne_of_gt HF11.out.ltb)).mono ?_; rintro e x12 ⟨rfl, h1⟩; have HF12 : Hid (Fw w w.heap.size w.heap.size (w.heap.size + 1) prK12 x12) := hid0 h1; clear h1 HF11)
    | (go_at_call 17; refine (class_any w w.heap.size w.heap.size (w.heap.size + 1) x12.heap.size prK12 prN12 prP12 _ (HF12.out.alloc _) prL12 (by decide) (by decide) (by decide) (heap_alloc_new x12 _) (Nat.ne_of_gt HF12.out.ltb)).mono ?_; rintro e x13 ⟨rfl, h1⟩; have HF13 : Hid (Fw w w.heap.size w.heap.size (w.heap.size + 1) prK13 x13) := hid0 h1; clear h1 HF12)
    | (go_at_call 17; refine (class_any w w.heap.size w.heap.size (w.heap.size + 1) x13.heap.size prK13 prN13 prP13 _ (HF13.out.alloc _) prL13 (by decide) (by decide) (by decide) (heap_alloc_new x13 _) (Nat.ne_of_gt HF13.out.ltb)).mono ?_; rintro e x14 ⟨rfl, h1⟩; have HF14 : Hid (Fw w w.heap.size w.heap.size (w.heap.size + 1) prK14 x14) := hid0 h1; clear h1 HF13)
    | (go_at_call 18; refine (Any.Builder_String_any_k Try.lays169 ext169 w.heap.size w.heap.size prK14 x14 (Lib.IsBuilderF.of HF14.out.bl) HF14.out.sz).mono ?_; rintro e y ⟨rfl, _, hb, _⟩; have HB := hid0 (HF14.out.bel.trans hb); clear hb)
    | fail)
  go_ret
  exact ⟨rfl, HB.out⟩
def txSentences : List UInt8 := [35, 32, 85, 65, 88, 32, 35, 50, 57, 44, 32, 115, 101, 110, 116, 101, 110, 99, 101, 115, 10, 108, 101, 116, 32, 80, 97, 114, 97, 83, 101, 112, 32, 61, 32, 91, 83, 101, 112, 32, 67, 82, 32, 76, 70, 93, 10, 108, 101, 116, 32, 83, 65, 84, 101, 114, 109, 32, 61, 32, 91, 83, 84, 101, 114, 109, 32, 65, 84, 101, 114, 109, 93, 10, 83, 66, 51, 58, 32, 67, 82, 32, 62, 60, 32, 76, 70, 10, 83, 66, 52, 58, 32, 80, 97, 114, 97, 83, 101, 112, 32, 60, 62, 10, 83, 66, 53, 58, 32, 62, 60, 32, 91, 69, 120, 116, 101, 110, 100, 32, 70, 111, 114, 109, 97, 116, 93, 10, 115, 107, 105, 112, 32, 91, 69, 120, 116, 101, 110, 100, 32, 70, 111, 114, 109, 97, 116, 93, 10, 83, 66, 54, 58, 32, 65, 84, 101, 114, 109, 32, 62, 60, 32, 78, 117, 109, 101, 114, 105, 99, 10, 83, 66, 55, 58, 32, 91, 85, 112, 112, 101, 114, 32, 76, 111, 119, 101, 114, 93, 32, 65, 84, 101, 114, 109, 32, 62, 60, 32, 85, 112, 112, 101, 114, 10, 83, 66, 56, 58, 32, 65, 84, 101, 114, 109, 32, 67, 108, 111, 115, 101, 42, 32, 83, 112, 42, 32, 62, 60, 32, 91, 94, 32, 79, 76, 101, 116, 116, 101, 114, 32, 85, 112, 112, 101, 114, 32, 76, 111, 119, 101, 114, 32, 83, 101, 112, 32, 67, 82, 32, 76, 70, 32, 83, 84, 101, 114, 109, 32, 65, 84, 101, 114, 109, 93, 42, 32, 76, 111, 119, 101, 114, 10, 83, 66, 56, 97, 58, 32, 83, 65, 84, 101, 114, 109, 32, 67, 108, 111, 115, 101, 42, 32, 83, 112, 42, 32, 62, 60, 32, 91, 83, 67, 111, 110, 116, 105, 110, 117, 101, 32, 83, 84, 101, 114, 109, 32, 65, 84, 101, 114, 109, 93, 10, 83, 66, 57, 58, 32, 83, 65, 84, 101, 114, 109, 32, 67, 108, 111, 115, 101, 42, 32, 62, 60, 32, 91, 67, 108, 111, 115, 101, 32, 83, 112, 32, 83, 101, 112, 32, 67, 82, 32, 76, 70, 93, 10, 83, 66, 49, 48, 58, 32, 83, 65, 84, 101, 114, 109, 32, 67, 108, 111, 115, 101, 42, 32, 83, 112, 42, 32, 62, 60, 32, 91, 83, 112, 32, 83, 101, 112, 32, 67, 82, 32, 76, 70, 93, 10, 115, 117, 112, 112, 114, 101, 115, 115, 32, 83, 112, 10, 83, 66, 49, 49, 58, 32, 83, 65, 84, 101, 114, 109, 32, 67, 108, 111, 115, 101, 42, 32, 83, 112, 42, 32, 60, 62, 10, 101, 108, 115, 101, 32, 62, 60, 10]
set_option maxRecDepth 100000 in
theorem standardSentences_any (w : World) : Calls Try.prog 4 #[] w fun e w' => e = .returned (.string (tx txSentences)) ∧ w' = w := by
  go_enter Try.func4, Try.ntmps4
  go_wp2
  go_ret
  exact ⟨by kernel_rfl, rfl⟩
set_option maxRecDepth 100000 in
theorem caesuraref24Sentences_any (w : World) : Calls Try.prog 5 #[] w fun e w' => e = .returned (.string (tx txSentences)) ∧ w' = w := by
  go_enter Try.func5, Try.ntmps5
  go_wp2
  go_ret
  exact ⟨by kernel_rfl, rfl⟩
def txWords : List UInt8 := [35, 32, 85, 65, 88, 32, 35, 50, 57, 44, 32, 119, 111, 114, 100, 115, 32, 40, 119, 105, 116, 104, 111, 117, 116, 32, 87, 66, 51, 99, 41, 10, 108, 101, 116, 32, 76, 101, 116, 116, 101, 114, 32, 61, 32, 91, 65, 76, 101, 116, 116, 101, 114, 32, 72, 101, 98, 114, 101, 119, 95, 76, 101, 116, 116, 101, 114, 93, 10, 108, 101, 116, 32, 77, 105, 100, 100, 108, 101, 32, 61, 32, 91, 77, 105, 100, 76, 101, 116, 116, 101, 114, 32, 77, 105, 100, 78, 117, 109, 76, 101, 116, 32, 83, 105, 110, 103, 108, 101, 95, 81, 117, 111, 116, 101, 93, 10, 108, 101, 116, 32, 68, 101, 99, 105, 109, 97, 108, 32, 61, 32, 91, 77, 105, 100, 78, 117, 109, 32, 77, 105, 100, 78, 117, 109, 76, 101, 116, 32, 83, 105, 110, 103, 108, 101, 95, 81, 117, 111, 116, 101, 93, 10, 108, 101, 116, 32, 82, 73, 32, 61, 32, 82, 101, 103, 105, 111, 110, 97, 108, 95, 73, 110, 100, 105, 99, 97, 116, 111, 114, 10, 87, 66, 51, 58, 32, 67, 82, 32, 62, 60, 32, 76, 70, 10, 87, 66, 51, 97, 58, 32, 91, 78, 101, 119, 108, 105, 110, 101, 32, 67, 82, 32, 76, 70, 93, 32, 60, 62, 10, 87, 66, 51, 98, 58, 32, 60, 62, 32, 91, 78, 101, 119, 108, 105, 110, 101, 32, 67, 82, 32, 76, 70, 93, 10, 87, 66, 51, 100, 58, 32, 87, 83, 101, 103, 83, 112, 97, 99, 101, 32, 62, 60, 32, 87, 83, 101, 103, 83, 112, 97, 99, 101, 10, 87, 66, 52, 58, 32, 62, 60, 32, 91, 69, 120, 116, 101, 110, 100, 32, 70, 111, 114, 109, 97, 116, 32, 90, 87, 74, 93, 10, 115, 107, 105, 112, 32, 91, 69, 120, 116, 101, 110, 100, 32, 70, 111, 114, 109, 97, 116, 32, 90, 87, 74, 93, 10, 87, 66, 53, 58, 32, 76, 101, 116, 116, 101, 114, 32, 62, 60, 32, 76, 101, 116, 116, 101, 114, 10, 87, 66, 54, 58, 32, 76, 101, 116, 116, 101, 114, 32, 62, 60, 32, 77, 105, 100, 100, 108, 101, 32, 76, 101, 116, 116, 101, 114, 10, 87, 66, 55, 58, 32, 76, 101, 116, 116, 101, 114, 32, 77, 105, 100, 100, 108, 101, 32, 62, 60, 32, 76, 101, 116, 116, 101, 114, 10, 87, 66, 55, 97, 58, 32, 72, 101, 98, 114, 101, 119, 95, 76, 101, 116, 116, 101, 114, 32, 62, 60, 32, 83, 105, 110, 103, 108, 101, 95, 81, 117, 111, 116, 101, 10, 87, 66, 55, 98, 58, 32, 72, 101, 98, 114, 101, 119, 95, 76, 101, 116, 116, 101, 114, 32, 62, 60, 32, 68, 111, 117, 98, 108, 101, 95, 81, 117, 111, 116, 101, 32, 72, 101, 98, 114, 101, 119, 95, 76, 101, 116, 116, 101, 114, 10, 87, 66, 55, 99, 58, 32, 72, 101, 98, 114, 101, 119, 95, 76, 101, 116, 116, 101, 114, 32, 68, 111, 117, 98, 108, 101, 95, 81, 117, 111, 116, 101, 32, 62, 60, 32, 72, 101, 98, 114, 101, 119, 95, 76, 101, 116, 116, 101, 114, 10, 87, 66, 56, 58, 32, 78, 117, 109, 101, 114, 105, 99, 32, 62, 60, 32, 78, 117, 109, 101, 114, 105, 99, 10, 87, 66, 57, 58, 32, 76, 101, 116, 116, 101, 114, 32, 62, 60, 32, 78, 117, 109, 101, 114, 105, 99, 10, 87, 66, 49, 48, 58, 32, 78, 117, 109, 101, 114, 105, 99, 32, 62, 60, 32, 76, 101, 116, 116, 101, 114, 10, 87, 66, 49, 49, 58, 32, 78, 117, 109, 101, 114, 105, 99, 32, 68, 101, 99, 105, 109, 97, 108, 32, 62, 60, 32, 78, 117, 109, 101, 114, 105, 99, 10, 87, 66, 49, 50, 58, 32, 78, 117, 109, 101, 114, 105, 99, 32, 62, 60, 32, 68, 101, 99, 105, 109, 97, 108, 32, 78, 117, 109, 101, 114, 105, 99, 10, 87, 66, 49, 51, 58, 32, 75, 97, 116, 97, 107, 97, 110, 97, 32, 62, 60, 32, 75, 97, 116, 97, 107, 97, 110, 97, 10, 87, 66, 49, 51, 97, 58, 32, 91, 76, 101, 116, 116, 101, 114, 32, 78, 117, 109, 101, 114, 105, 99, 32, 75, 97, 116, 97, 107, 97, 110, 97, 32, 69, 120, 116, 101, 110, 100, 78, 117, 109, 76, 101, 116, 93, 32, 62, 60, 32, 69, 120, 116, 101, 110, 100, 78, 117, 109, 76, 101, 116, 10, 87, 66, 49, 51, 98, 58, 32, 69, 120, 116, 101, 110, 100, 78, 117, 109, 76, 101, 116, 32, 62, 60, 32, 91, 76, 101, 116, 116, 101, 114, 32, 78, 117, 109, 101, 114, 105, 99, 32, 75, 97, 116, 97, 107, 97, 110, 97, 93, 10, 87, 66, 49, 53, 58, 32, 94, 32, 91, 69, 120, 116, 101, 110, 100, 32, 70, 111, 114, 109, 97, 116, 32, 90, 87, 74, 93, 42, 32, 40, 82, 73, 32, 82, 73, 41, 42, 32, 82, 73, 32, 62, 60, 32, 82, 73, 10, 87, 66, 49, 54, 58, 32, 91, 94, 32, 82, 101, 103, 105, 111, 110, 97, 108, 95, 73, 110, 100, 105, 99, 97, 116, 111, 114, 32, 69, 120, 116, 101, 110, 100, 32, 70, 111, 114, 109, 97, 116, 32, 90, 87, 74, 93, 32, 40, 82, 73, 32, 82, 73, 41, 42, 32, 82, 73, 32, 62, 60, 32, 82, 73, 10, 101, 108, 115, 101, 32, 60, 62, 10]
set_option maxRecDepth 100000 in
theorem standardWords_any (w : World) : Calls Try.prog 6 #[] w fun e w' => e = .returned (.string (tx txWords)) ∧ w' = w := by
  go_enter Try.func6, Try.ntmps6
  go_wp2
  go_ret
  exact ⟨by kernel_rfl, rfl⟩
set_option maxRecDepth 100000 in
theorem caesuraref24Words_any (w : World) : Calls Try.prog 7 #[] w fun e w' => e = .returned (.string (tx txWords)) ∧ w' = w := by
  go_enter Try.func7, Try.ntmps7
  go_wp2
  go_ret
  exact ⟨by kernel_rfl, rfl⟩
def txClusters : List UInt8 := [35, 32, 85, 65, 88, 32, 35, 50, 57, 44, 32, 101, 120, 116, 101, 110, 100, 101, 100, 32, 103, 114, 97, 112, 104, 101, 109, 101, 32, 99, 108, 117, 115, 116, 101, 114, 115, 32, 40, 119, 105, 116, 104, 111, 117, 116, 32, 71, 66, 57, 99, 32, 97, 110, 100, 32, 71, 66, 49, 49, 41, 10, 108, 101, 116, 32, 82, 73, 32, 61, 32, 82, 101, 103, 105, 111, 110, 97, 108, 95, 73, 110, 100, 105, 99, 97, 116, 111, 114, 10, 71, 66, 51, 58, 32, 67, 82, 32, 62, 60, 32, 76, 70, 10, 71, 66, 52, 58, 32, 91, 67, 111, 110, 116, 114, 111, 108, 32, 67, 82, 32, 76, 70, 93, 32, 60, 62, 10, 71, 66, 53, 58, 32, 60, 62, 32, 91, 67, 111, 110, 116, 114, 111, 108, 32, 67, 82, 32, 76, 70, 93, 10, 71, 66, 54, 58, 32, 76, 32, 62, 60, 32, 91, 76, 32, 86, 32, 76, 86, 32, 76, 86, 84, 93, 10, 71, 66, 55, 58, 32, 91, 76, 86, 32, 86, 93, 32, 62, 60, 32, 91, 86, 32, 84, 93, 10, 71, 66, 56, 58, 32, 91, 76, 86, 84, 32, 84, 93, 32, 62, 60, 32, 84, 10, 71, 66, 57, 58, 32, 62, 60, 32, 91, 69, 120, 116, 101, 110, 100, 32, 90, 87, 74, 93, 10, 71, 66, 57, 97, 58, 32, 62, 60, 32, 83, 112, 97, 99, 105, 110, 103, 77, 97, 114, 107, 10, 71, 66, 57, 98, 58, 32, 80, 114, 101, 112, 101, 110, 100, 32, 62, 60, 10, 71, 66, 49, 50, 58, 32, 94, 32, 40, 82, 73, 32, 82, 73, 41, 42, 32, 82, 73, 32, 62, 60, 32, 82, 73, 10, 71, 66, 49, 51, 58, 32, 91, 94, 32, 82, 73, 93, 32, 40, 82, 73, 32, 82, 73, 41, 42, 32, 82, 73, 32, 62, 60, 32, 82, 73, 10, 101, 108, 115, 101, 32, 60, 62, 10]
set_option maxRecDepth 100000 in
theorem standardClusters_any (w : World) : Calls Try.prog 8 #[] w fun e w' => e = .returned (.string (tx txClusters)) ∧ w' = w := by
  go_enter Try.func8, Try.ntmps8
  go_wp2
  go_ret
  exact ⟨by kernel_rfl, rfl⟩
set_option maxRecDepth 100000 in
theorem caesuraref24Clusters_any (w : World) : Calls Try.prog 9 #[] w fun e w' => e = .returned (.string (tx txClusters)) ∧ w' = w := by
  go_enter Try.func9, Try.ntmps9
  go_wp2
  go_ret
  exact ⟨by kernel_rfl, rfl⟩
def txBundle : List UInt8 := [35, 32, 97, 102, 116, 101, 114, 32, 119, 104, 105, 99, 104, 32, 97, 98, 98, 114, 101, 118, 105, 97, 116, 105, 111, 110, 115, 32, 97, 32, 115, 101, 110, 116, 101, 110, 99, 101, 32, 103, 111, 101, 115, 32, 111, 110, 10, 91, 114, 111, 111, 116, 93, 10, 91, 101, 110, 93, 10, 43, 32, 77, 114, 46, 10, 43, 32, 77, 114, 115, 46, 10, 43, 32, 77, 115, 46, 10, 43, 32, 68, 114, 46, 10, 43, 32, 80, 114, 111, 102, 46, 10, 43, 32, 83, 116, 46, 10, 43, 32, 74, 114, 46, 10, 43, 32, 83, 114, 46, 10, 43, 32, 118, 115, 46, 10, 43, 32, 101, 46, 103, 46, 10, 43, 32, 105, 46, 101, 46, 10, 43, 32, 85, 46, 83, 46, 10, 43, 32, 85, 46, 75, 46, 10, 43, 32, 78, 111, 46, 10, 43, 32, 70, 105, 103, 46, 10, 43, 32, 97, 46, 109, 46, 10, 43, 32, 112, 46, 109, 46, 10, 91, 101, 110, 95, 71, 66, 93, 10, 45, 32, 83, 116, 46, 10, 43, 32, 82, 101, 118, 46, 10, 91, 101, 110, 95, 65, 85, 93, 10, 112, 97, 114, 101, 110, 116, 32, 101, 110, 95, 71, 66, 10, 43, 32, 72, 111, 110, 46, 10, 91, 100, 101, 93, 10, 43, 32, 72, 114, 46, 10, 43, 32, 70, 114, 46, 10, 43, 32, 68, 114, 46, 10, 43, 32, 80, 114, 111, 102, 46, 10, 43, 32, 78, 114, 46, 10, 43, 32, 83, 116, 114, 46, 10, 43, 32, 98, 122, 119, 46, 10, 43, 32, 117, 115, 119, 46, 10, 43, 32, 122, 46, 32, 66, 46, 10, 43, 32, 122, 46, 66, 46, 10, 43, 32, 100, 46, 32, 104, 46, 10, 43, 32, 117, 46, 32, 97, 46, 10, 91, 100, 101, 95, 67, 72, 93, 10, 45, 32, 83, 116, 114, 46, 10, 91, 102, 114, 93, 10, 43, 32, 77, 46, 10, 43, 32, 77, 77, 46, 10, 43, 32, 77, 109, 101, 46, 10, 43, 32, 112, 46, 32, 101, 120, 46, 10, 43, 32, 101, 116, 99, 46, 10]
set_option maxRecDepth 100000 in
theorem standardBundle_any (w : World) : Calls Try.prog 12 #[] w fun e w' => e = .returned (.string (tx txBundle)) ∧ w' = w := by
  go_enter Try.func12, Try.ntmps12
  go_wp2
  go_ret
  exact ⟨by kernel_rfl, rfl⟩
set_option maxRecDepth 100000 in
theorem caesuraref24Bundle_any (w : World) : Calls Try.prog 13 #[] w fun e w' => e = .returned (.string (tx txBundle)) ∧ w' = w := by
  go_enter Try.func13, Try.ntmps13
  go_wp2
  go_ret
  exact ⟨by kernel_rfl, rfl⟩
set_option maxRecDepth 100000 in
theorem caesuraref24Property_any (w : World) : Calls Try.prog 11 #[] w fun e w' => e = .returned (.string (tx prK14)) ∧ w' = w := by
  go_enter Try.func11, Try.ntmps11
  go_wp2
  go_ret
  exact ⟨by kernel_rfl, rfl⟩
set_option maxRecDepth 100000 in
theorem standardProperty_any (w : World) : Calls Try.prog 10 #[] w fun e w' => e = .returned (.string (tx prK14)) ∧ Below w.heap.size w w' := by
  have HP := hid0 (property_any w)
  generalize tx prK14 = S at *
  go_enter Try.func10, Try.ntmps10
  go_wp2_with (go_at_call 14; refine HP.out.mono ?_; rintro e w1 ⟨rfl, hb⟩; have HB := hid0 hb; clear hb)
  go_ret
  exact ⟨rfl, HB.out⟩
end Go.Proofs.Ytooeagpopncmgaa
