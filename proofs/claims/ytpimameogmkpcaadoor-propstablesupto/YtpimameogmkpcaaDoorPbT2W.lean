/-
  The walks of caesuraref0's SameSpans, SameProperty; caesuralaw5's returned.
-/
import Derived.Test.YtpimameogmkpcaaDoorPbT1W
import Derived.Test.YtpimameogmkpcaaDoorPbSpW
import Derived.Laws.StructEq
import Derived.Deep.RegionHeld3
namespace Go.Proofs.YtpimameogmkpcaaDoor
open Go.RowKit Go.Shelf
set_option maxRecDepth 10000 in
set_option maxHeartbeats 400000 in
theorem sameP (us : List Sp) (a b : Option Addr) (ca cb : Nat) (w : World) (hl : us.length ≤ 1000000000) (ha : PA w a us) (hb : PA w b us) :
    Calls Tryd.prog 46 #[.slice a us.length ca, .slice b us.length cb] w fun e w' => e = .returned (.bool true) ∧ ∃ q, w' = w.drewN q := by
  have HA := hid0 ha
  have HB := hid0 hb
  clear ha hb
  go_enter Tryd.func46, Tryd.ntmps46
  go_wp2
  go_loopw [5] (fun i wr => ∃ k q : Nat, k ≤ us.length ∧ i = .int .i64 (k : Int) ∧ wr = w.drewN q) (fun i _ => us.length - (intOf i).toNat)
  case atStart => exact ⟨0, 0, Nat.zero_le _, rfl, rfl⟩
  case round =>
    obtain ⟨k, q, hk, rfl, rfl⟩ := hrel
    by_cases hlt : k < us.length
    · obtain ⟨b1, o1, rfl, _, c0, c1, c2⟩ := HA.out.at' k hlt
      obtain ⟨b2, o2, rfl, _, d0, d1, d2⟩ := HB.out.at' k hlt
      generalize us[k] = u at *
      clear HA HB
      go_wp2
      go_quiet ((fail))
      go_wp2
      go_roundw
      case rel => exact ⟨k + 1, _, hlt, by go_num, rfl⟩
      case measure => simp [intOf]; omega
    · have hk2 : ¬ (k : Int) < (us.length : Int) := by omega
      clear HA HB
      go_wp2
      go_ret
      exact ⟨rfl, q, rfl⟩
set_option maxRecDepth 10000 in
set_option maxHeartbeats 400000 in
theorem sameProp (L : List ByteArray) (l : List Sp) (a b c d : Option Addr) (ca cb cc cd : Nat) (w : World) (hL : L.length ≤ 1000000000) (hl : l.length ≤ 1000000000) (ha : SA w a L) (hb : PA w b l) (hc : SA w c L) (hd : PA w d l) :
    Calls Tryd.prog 34 #[.agg #[.slice a L.length ca, .slice b l.length cb], .agg #[.slice c L.length cc, .slice d l.length cd]] w fun e w' => e = .returned (.bool true) ∧ Below w.heap.size w w' := by
  obtain ⟨w0, hw0⟩ : ∃ w0, w0 = (w.alloc (.cells #[.slice a L.length ca, .slice b l.length cb] 25)).alloc (.cells #[.slice c L.length cc, .slice d l.length cd] 25) := ⟨_, rfl⟩
  have hs0 : w0.heap.size = w.heap.size + 2 := by rw [hw0]; simp
  have hB0 : Below w.heap.size w w0 := by rw [hw0]; exact ((Below.refl _ _).alloc (Nat.le_refl _) _).alloc (by simp) _
  have hX0 : w0.heap[w.heap.size]? = some (.cells #[.slice a L.length ca, .slice b l.length cb] 25 (0, 0)) := by
    rw [hw0]
    exact (Below.heap_alloc _ _ _ (by simp)).trans (heap_alloc_new w _)
  have hX1 : w0.heap[w.heap.size + 1]? = some (.cells #[.slice c L.length cc, .slice d l.length cd] 25 (0, 0)) := by
    rw [hw0]
    have h := heap_alloc_new (w.alloc (.cells #[.slice a L.length ca, .slice b l.length cb] 25)) (.cells #[.slice c L.length cc, .slice d l.length cd] 25)
    rw [show (w.alloc (.cells #[.slice a L.length ca, .slice b l.length cb] 25)).heap.size = w.heap.size + 1 by simp] at h
    exact h
  have x0 : w0.cell? ⟨w.heap.size, 0, none⟩ = some (.slice a L.length ca) := by rw [cell_of_row _ _ _ _ _ _ hX0]; rfl
  have x1 : w0.cell? ⟨w.heap.size, 1, none⟩ = some (.slice b l.length cb) := by rw [cell_of_row _ _ _ _ _ _ hX0]; rfl
  have x2 : w0.cell? ⟨w.heap.size + 1, 0, none⟩ = some (.slice c L.length cc) := by rw [cell_of_row _ _ _ _ _ _ hX1]; rfl
  have x3 : w0.cell? ⟨w.heap.size + 1, 1, none⟩ = some (.slice d l.length cd) := by rw [cell_of_row _ _ _ _ _ _ hX1]; rfl
  have H1 := hid0 (sameS L a c ca cc w0 hL (ha.below hB0) (hc.below hB0))
  have HD : Hid (∀ n, Below w0.heap.size w0 (w0.drewN n)) := hid0 (fun n => ⟨rfl, rfl, rfl, Nat.le_refl _, fun _ _ => rfl⟩)
  have H2 : Hid (∀ n, Calls Tryd.prog 46 #[.slice b l.length cb, .slice d l.length cd] (w0.drewN n) fun e w' => e = .returned (.bool true) ∧ ∃ q, w' = (w0.drewN n).drewN q) := hid0 (fun n => sameP l b d cb cd _ hl ((hb.below hB0).below (HD.out n)) ((hd.below hB0).below (HD.out n)))
  have HB0 := hid0 hB0
  have hfold := hw0.symm
  clear ha hb hc hd hw0 hX0 hX1 hs0 hB0
  go_enter Tryd.func34, Tryd.ntmps34
  go_wp2_with (first
    | (go_at_call 15; refine H1.out.mono ?_; rintro e w1 ⟨rfl, n1, rfl⟩)
    | (go_at_call 46; refine (H2.out n1).mono ?_; rintro e w2 ⟨rfl, n2, rfl⟩))
  go_ret
  exact ⟨rfl, ⟨HB0.out.os, HB0.out.tape, HB0.out.output, HB0.out.size, HB0.out.block⟩⟩
theorem SA.front {w : World} {a : Option Addr} {L M : List ByteArray} (h : SA w a (L ++ M)) : SA w a L := ⟨fun k hk => by
  obtain ⟨b, off, e, h1, h2⟩ := h.at' k (by simp; omega)
  rw [List.getElem_append_left hk] at h2
  exact ⟨b, off, e, h1, h2⟩⟩
theorem PA.front {w : World} {a : Option Addr} {l m : List Sp} (h : PA w a (l ++ m)) : PA w a l := ⟨fun k hk => by
  obtain ⟨b, off, e, h1, h2⟩ := h.at' k (by simp; omega)
  rw [List.getElem_append_left hk] at h2
  exact ⟨b, off, e, h1, h2⟩⟩
set_option maxRecDepth 10000 in
set_option maxHeartbeats 800000 in
theorem returned_any (L : List ByteArray) (l : List Sp) (a b : Option Addr) (ca cb g h cap cap' : Nat) (w : World) (hL : L.length ≤ 100000000) (hl : l.length ≤ 100000000) (hc : L.length + 2 ≤ cap) (hc' : l.length + 2 ≤ cap') (ha : SA w a L) (hb : PA w b l)
    (hg : SA w (some ⟨g, 0, none⟩) (L ++ [markB, markB])) (hh : PA w (some ⟨h, 0, none⟩) (l ++ [(0, 0, 77), (0, 0, 77)])) :
    Calls Tryd.prog 19 #[.agg #[.slice a L.length ca, .slice b l.length cb], .slice (some ⟨g, 0, none⟩) (L.length + 2) cap, .slice (some ⟨h, 0, none⟩) (l.length + 2) cap'] w fun e w' => e = .returned (.bool true) ∧ Below w.heap.size w w' := by
  obtain ⟨w0, hw0⟩ : ∃ w0, w0 = w.alloc (.cells #[.slice a L.length ca, .slice b l.length cb] 25) := ⟨_, rfl⟩
  have hB0 : Below w.heap.size w w0 := by rw [hw0]; exact (Below.refl _ _).alloc (Nat.le_refl _) _
  have hX0 : w0.heap[w.heap.size]? = some (.cells #[.slice a L.length ca, .slice b l.length cb] 25 (0, 0)) := by rw [hw0]; exact heap_alloc_new w _
  have hs0 : w0.heap.size = w.heap.size + 1 := by rw [hw0]; simp
  obtain ⟨b1, o1, e1, hlt1, d0⟩ := (hg.below hB0).at' L.length (by simp)
  cases e1
  obtain ⟨b2, o2, e2, j6, d1⟩ := (hg.below hB0).at' (L.length + 1) (by simp)
  cases e2
  obtain ⟨b3, o3, e3, hlt3, j1, j2, d2⟩ := (hh.below hB0).at' l.length (by simp)
  cases e3
  obtain ⟨b4, o4, e4, j5, j3, j4, d3⟩ := (hh.below hB0).at' (l.length + 1) (by simp)
  cases e4
  clear j1 j2 j3 j4 j5 j6
  simp at d0 d1 d2 d3
  have x0 : w0.cell? ⟨w.heap.size, 0, none⟩ = some (.slice a L.length ca) := by rw [cell_of_row _ _ _ _ _ _ hX0]; rfl
  have x1 : w0.cell? ⟨w.heap.size, 1, none⟩ = some (.slice b l.length cb) := by rw [cell_of_row _ _ _ _ _ _ hX0]; rfl
  have HSP : Hid (∀ W, Below w0.heap.size w0 W → Calls Tryd.prog 34 #[.agg #[.slice a L.length ca, .slice b l.length cb], .agg #[.slice (some ⟨g, 0, none⟩) L.length cap, .slice (some ⟨h, 0, none⟩) l.length cap']] W fun e w' => e = .returned (.bool true) ∧ Below w0.heap.size w0 w') := hid0 (fun W hW =>
    (sameProp L l a b _ _ ca cb cap cap' W (by omega) (by omega) ((ha.below hB0).below hW) ((hb.below hB0).below hW) ((hg.below hB0).below hW).front ((hh.below hB0).below hW).front).mono (fun e w' h => ⟨h.1, Below.later hW h.2⟩))
  have HD : Hid (∀ W, Below w0.heap.size w0 W → W.cell? ⟨g, L.length, none⟩ = some (.string markB) ∧ W.cell? ⟨g, L.length + 1, none⟩ = some (.string markB) ∧ W.cell? ⟨h, l.length * 3 + 2, none⟩ = some (.int .i64 77) ∧ W.cell? ⟨h, (l.length + 1) * 3 + 2, none⟩ = some (.int .i64 77)) := hid0 (fun W hW =>
    ⟨(hW.cell (p := ⟨g, L.length, none⟩) hlt1).trans d0, (hW.cell (p := ⟨g, L.length + 1, none⟩) hlt1).trans d1, (hW.cell (p := ⟨h, l.length * 3 + 2, none⟩) hlt3).trans d2, (hW.cell (p := ⟨h, (l.length + 1) * 3 + 2, none⟩) hlt3).trans d3⟩)
  have HSo : Hid (∀ W, Below w0.heap.size w0 W → W.cell? ⟨w.heap.size, 0, none⟩ = some (.slice a L.length ca) ∧ W.cell? ⟨w.heap.size, 1, none⟩ = some (.slice b l.length cb) ∧ Below w0.heap.size w0 W) := hid0 (fun W hW => ⟨(hW.cell (p := ⟨w.heap.size, 0, none⟩) (by simp; omega)).trans x0, (hW.cell (p := ⟨w.heap.size, 1, none⟩) (by simp; omega)).trans x1, hW⟩)
  have HB0 := hid0 hB0
  have hfold := hw0.symm
  clear ha hb hg hh hw0 hX0 hs0 hB0 d0 d1 d2 d3 hlt1 hlt3
  have hBr := Below.refl w0.heap.size w0
  generalize L.length = n at *
  generalize l.length = m at *
  have z0 : (0 : Int) ≤ (n : Int) := by omega
  have z1 : (n : Int) ≤ (cap : Int) := by omega
  have z2 : (0 : Int) ≤ (m : Int) := by omega
  have z3 : (m : Int) ≤ (cap' : Int) := by omega
  have q0 : (n : Int) < (n : Int) + 2 := by omega
  have q1 : (n : Int) + 1 < (n : Int) + 2 := by omega
  have q2 : (m : Int) < (m : Int) + 2 := by omega
  have q3 : (m : Int) + 1 < (m : Int) + 2 := by omega
  have r0 : IntKind.i64.wrap ((n : Int) + 1) = (n : Int) + 1 := by simp [IntKind.wrap, IntKind.bits, IntKind.signed]; omega
  have r1 : IntKind.i64.wrap ((m : Int) + 1) = (m : Int) + 1 := by simp [IntKind.wrap, IntKind.bits, IntKind.signed]; omega
  go_enter Tryd.func19, Tryd.ntmps19
  go_wp2
  go_region_held3 (fun W => W.cell? ⟨w.heap.size, 0, none⟩ = some (.slice a n ca) ∧ W.cell? ⟨w.heap.size, 1, none⟩ = some (.slice b m cb) ∧ Below w0.heap.size w0 W) (first | exact HSo.out _ (by go_grown) | (go_split_ands; exact HSo.out _ (by go_grown)))
    (first | (go_at_call 34; go_split_ands; refine (HSP.out _ (by go_grown)).mono ?_; rintro e w1 ⟨rfl, hb1⟩))
  obtain ⟨y0, y1, y2, y3⟩ := HD.out w1 hb1
  have HBE : Hid (Below w.heap.size w w1) := hid0 (Below.later HB0.out hb1)
  have hself : (markB.toList == [109, 97, 114, 107]) = true := by rw [show markB.toList = [109, 97, 114, 107] by rw [ByteArray.toList_eq]; rfl]; rfl
  clear hb1 x0 x1 hBr
  go_wp2
  go_ret
  exact ⟨rfl, HBE.out⟩
end Go.Proofs.YtpimameogmkpcaaDoor
