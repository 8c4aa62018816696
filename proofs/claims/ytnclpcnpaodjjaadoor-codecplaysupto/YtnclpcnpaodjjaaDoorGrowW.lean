/-
  The walks of bytes.growSlice and (*bytes.Buffer).grow.
-/
import Derived.Test.YtnclpcnpaodjjaaDoorBufW
import Derived.Lib.AppendZeros
import Derived.Lib.Buffer
import Derived.Laws.CopyRow
import Derived.Laws.IdiomCopy
import Derived.OwnWalk
import Derived.Defers
import Derived.Recover
import Derived.Deep.RegionWith
import Derived.Shelf.Abstract
namespace Go.Proofs.YtnclpcnpaodjjaaDoor
open Go.RowKit Go.Shelf
theorem i64_wrap_nat0 (x : Nat) (h : x < 9223372036854775808) : IntKind.i64.wrap (x : Int) = x := by
  simp [IntKind.wrap, IntKind.bits, IntKind.signed]
  omega
theorem hid2 {p : Prop} (h : p) : Hid p := h
/-- The deferred closure of growSlice finds nothing to recover. -/
theorem catch_idle (w : World) : CallsD Tryd.prog 43 #[] .returning w fun e u' w' => e = .returned (.tuple #[]) ∧ u' = .returning ∧ w' = w := by
  have hnn : ∀ w, (binOp .neq 20 .nilIface .nilIface).run Tryd.prog w = .ok (.bool false) w := fun _ => by kernel_rfl
  refine callsD_of_wpS Tryd.func43 rfl fun c₀ cs hu => ?_
  apply wpS_seq
  apply wpS_region
  simp [wpOpsS, go_sem, recoverD, hu, hnn, Tryd.ntmps43, Exit.thenS]
  refine wpS_cond (t := false) (by simp [Act.eval, Array.replicate]) ?_
  simp only [Bool.false_eq_true, if_false]
  refine wpS_of_wp (wp_skip ?_)
  cases c₀
  simp_all [bodyPostS, results]
set_option maxHeartbeats 3200000 in
set_option maxRecDepth 100000 in
/-- growSlice of a slice at the head of a row, to a new row of C cells and more. -/
theorem growSlice_at (g l c n C : Nat) (cur : Array Value) (w : World) (hg : w.heap[g]? = some (.cells cur 5 (0, 0))) (hcs : cur.size = c) (hlc : l ≤ c) (hn : 1 ≤ n) (hb : c ≤ 1073741824) (hb2 : l + n ≤ 1073741824)
    (hC : (l + n < 2 * c ∧ C = 2 * c) ∨ (¬ l + n < 2 * c ∧ C = l + n)) (h1 : ∀ v ∈ cur.toList.take l, v.oneCell' = true) :
    Calls Tryd.prog 42 #[.slice (some ⟨g, 0, none⟩) l c, .int .i64 (n : Int)] w fun e w' => ∃ cap2 cells, e = .returned (.slice (some ⟨w.heap.size, 0, none⟩) l cap2) ∧ w'.heap[w.heap.size]? = some (.cells cells 5 (0, 0)) ∧
      cells.size = cap2 ∧ cells.toList.take l = cur.toList.take l ∧ l + n ≤ cap2 ∧ 64 ≤ cap2 + 64 ∧ c ≤ cap2 ∧ cap2 ≤ maxLen ∧ Below w.heap.size w w' := by
  obtain ⟨i0, hi, hz0, hz1, hz2⟩ := info_parts infoU8
  have hsz1 : (Tryd.prog.info? 5).map (·.size) = some 1 := by rw [hi]; simp [hz1]
  have hC1 : l + n ≤ C := by omega
  have hC2 : C ≤ 2147483648 := by omega
  have hC3 : c ≤ C := by omega
  have happ := Lib.run_append_nil_zeros (P := Tryd.prog) w 26 3 26 5 i0 (.int .u8 0) .i64 .i64 Tryd.underlying26 Tryd.underlying3 hi hz0 C (by omega) (by omega) (by omega) (by rw [hz2]; omega)
  generalize hcap : grownCap w C 0 5 = cap2 at happ
  have hcapge : C ≤ cap2 := by rw [← hcap]; exact grownCap_ge w _ 0 5
  have hcaple : cap2 ≤ maxLen := by rw [← hcap]; exact grownCap_le_maxLen w _ 0 5 (by unfold maxLen; omega)
  generalize hZ : (Builtin.zeroCells (Value.int .u8 0).cells C ++ Builtin.zeroCells (Value.int .u8 0).cells (cap2 - C)) = Z at happ
  have hZs : Z.size = cap2 := by rw [← hZ]; simp [size_zeroCells, Value.cells]; omega
  clear hcap hZ
  have hgl := Lib.lt_of_heap hg
  have hg1 : (w.alloc (.cells Z 5)).drew.heap[g]? = some (.cells cur 5 (0, 0)) := by show (w.alloc (.cells Z 5)).heap[g]? = _; rw [Below.heap_alloc w _ g hgl]; exact hg
  have hxl : (cur.toList.take l).length = l := by rw [List.length_take, Array.length_toList]; omega
  have hcopy := run_copy_row (P := Tryd.prog) (w.alloc (.cells Z 5)).drew 26 26 3 5 w.heap.size 0 C cap2 ⟨g, 0, none⟩ l c Z 5 (cur.toList.take l) Tryd.underlying26 hsz1 (heap_alloc_new w _) (by rw [hxl]; exact (Nat.min_eq_left (by omega)).symm) (Lib.cells_of_row hg1 l) (by rw [hxl]; omega) h1
  rw [hxl] at hcopy
  generalize hY : (Z.toList.take 0 ++ cur.toList.take l ++ Z.toList.drop (0 + l)).toArray = Y at hcopy
  have fin : ∀ w'', w'' = ((w.alloc (.cells Z 5)).drew).setRow w.heap.size Y → ∃ cap2' cells, Ending.returned (.slice (some ⟨w.heap.size, 0, none⟩) l cap2) = .returned (.slice (some ⟨w.heap.size, 0, none⟩) l cap2') ∧ w''.heap[w.heap.size]? = some (.cells cells 5 (0, 0)) ∧
      cells.size = cap2' ∧ cells.toList.take l = cur.toList.take l ∧ l + n ≤ cap2' ∧ 64 ≤ cap2' + 64 ∧ c ≤ cap2' ∧ cap2' ≤ maxLen ∧ Below w.heap.size w w'' := by
    rintro _ rfl
    have hYl : Y.toList = cur.toList.take l ++ Z.toList.drop l := by rw [← hY]; simp
    refine ⟨cap2, Y, rfl, setRow_heap _ _ Z Y 5 (0, 0) (heap_alloc_new w _), ?_, ?_, by omega, by omega, by omega, hcaple, ?_⟩
    · have : Y.toList.length = cap2 := by rw [hYl, List.length_append, hxl, List.length_drop, Array.length_toList, hZs]; omega
      simpa using this
    · rw [hYl, List.take_append_of_le_length (by rw [hxl]; exact Nat.le_refl _), List.take_of_length_le (by rw [hxl]; exact Nat.le_refl _)]
    · exact ⟨rfl, rfl, rfl, by simp, fun k hk => by rw [setRow_other _ _ _ _ (by omega)]; exact Below.heap_alloc w _ k hk⟩
  have FIN := fin
  have HF : Hid _ := FIN
  clear fin FIN hY hg1 h1 hsz1 hxl
  rcases hC with ⟨hC, rfl⟩ | ⟨hC, rfl⟩
  · rw [show (((2 * c : Nat)) : Int) = 2 * (c : Int) by omega] at happ
    go_enter_defers Tryd.func42, Tryd.ntmps42
    go_wp2_with (at_builtin; refine Lib.wpList_append_run _ rfl _ _ _ _ rfl _ _ rfl rfl _ _ happ ?_)
    refine leaves_cons (f := 43) (args := #[]) (by simp) (enters_of Tryd.func43 (by kernel_rfl) rfl _ _) ?_
    refine (catch_idle _).mono ?_
    rintro e u' w'' ⟨rfl, rfl, rfl⟩
    refine ⟨_, results_tmp rfl _ _ _, ?_⟩
    obtain ⟨c2, ce, q1, q2⟩ := HF.out _ rfl
    exact ⟨c2, ce, q1, q2⟩
  · rw [show (((l + n : Nat)) : Int) = (l : Int) + (n : Int) by omega] at happ
    go_enter_defers Tryd.func42, Tryd.ntmps42
    go_wp2_with (at_builtin; refine Lib.wpList_append_run _ rfl _ _ _ _ rfl _ _ rfl rfl _ _ happ ?_)
    refine leaves_cons (f := 43) (args := #[]) (by simp) (enters_of Tryd.func43 (by kernel_rfl) rfl _ _) ?_
    refine (catch_idle _).mono ?_
    rintro e u' w'' ⟨rfl, rfl, rfl⟩
    refine ⟨_, results_tmp rfl _ _ _, ?_⟩
    obtain ⟨c2, ce, q1, q2⟩ := HF.out _ rfl
    exact ⟨c2, ce, q1, q2⟩
theorem grow_end {w2 : World} {B N : Nat} {v0 : Value} {cells : Array Value} (hb : WrBlk w2 B v0) (hN : w2.heap[N]? = some (.cells cells 5 (0, 0))) (hne : ¬ N = B) (v1 v2 : Value) :
    WrBlk (((w2.setCell ⟨B, 0, none⟩ v1).setCell ⟨B, 1, none⟩ (.int .i64 0)).setCell ⟨B, 0, none⟩ v2) B v2 ∧ (((w2.setCell ⟨B, 0, none⟩ v1).setCell ⟨B, 1, none⟩ (.int .i64 0)).setCell ⟨B, 0, none⟩ v2).heap[N]? = some (.cells cells 5 (0, 0)) ∧
      Only w2 (((w2.setCell ⟨B, 0, none⟩ v1).setCell ⟨B, 1, none⟩ (.int .i64 0)).setCell ⟨B, 0, none⟩ v2) (fun i => i = B) := by
  have b1 := heap_setCell_same w2 B 0 _ _ v1 hb
  have b2 := heap_setCell_same _ B 1 _ _ (.int .i64 0) b1
  have b3 := heap_setCell_same _ B 0 _ _ v2 b2
  have n1 := (heap_setCell_other w2 ⟨B, 0, none⟩ N v1 hne).trans hN
  have n2 := (heap_setCell_other _ ⟨B, 1, none⟩ N (.int .i64 0) hne).trans n1
  have n3 := (heap_setCell_other _ ⟨B, 0, none⟩ N v2 hne).trans n2
  exact ⟨b3, n3, (Only.setCell w2 B 0 v1).trans ((Only.setCell _ B 1 _).trans (Only.setCell _ B 0 v2) (fun i hi => .inl hi)) (fun i hi => .inl hi)⟩
set_option maxHeartbeats 3200000 in
set_option maxRecDepth 100000 in
/-- grow, where the buffer holds a row that has no room. -/
theorem grow_row (B g l c n : Nat) (cur : Array Value) (w : World) (hB : WrBlk w B (.slice (some ⟨g, 0, none⟩) l c)) (hg : w.heap[g]? = some (.cells cur 5 (0, 0))) (hcs : cur.size = c) (hlc : l ≤ c) (hl1 : 1 ≤ l) (hn : 1 ≤ n) (h64 : 64 ≤ c) (hb : c ≤ 1073741824) (hb2 : l + n ≤ 1073741824)
    (hroom : c < l + n) (h1 : ∀ v ∈ cur.toList.take l, v.oneCell' = true) :
    Calls Tryd.prog 38 #[.pointer (some ⟨B, 0, none⟩), .int .i64 (n : Int)] w fun e w' => e = .returned (.int .i64 (l : Int)) ∧ ∃ cap2 cells, WrBlk w' B (.slice (some ⟨w.heap.size, 0, none⟩) (l + n) cap2) ∧
      w'.heap[w.heap.size]? = some (.cells cells 5 (0, 0)) ∧ cells.size = cap2 ∧ cells.toList.take l = cur.toList.take l ∧ l + n ≤ cap2 ∧ 64 ≤ cap2 ∧ cap2 ≤ maxLen ∧ Only w w' (fun i => i = B) := by
  have hLen := bufLen_any B _ (some ⟨g, 0, none⟩) l c rfl w hB (by omega)
  obtain ⟨h0, hc1, h2, hf⟩ := hB.cells
  have hf0 := hf 0
  have hf1 := hf 1
  have hBlt : B < w.heap.size := (Array.getElem?_eq_some_iff.1 hB).1
  have q25 : ∀ (w : World) (a : Option Addr) (n c : Nat), (binOp .eql 26 (.slice a n c) (.slice none 0 0)).run Tryd.prog w = .ok (.bool a.isNone) w := fun w a n c => Lib.run_eql_slice_nil w _ _ a n c 0 0 Tryd.underlying26
  have hwn : IntKind.i64.wrap (n : Int) = n := i64_wrap_nat0 n (by omega)
  have HB := hB
  have HBh : Hid (WrBlk w B (.slice (some ⟨g, 0, none⟩) l c)) := HB
  obtain ⟨C, hC⟩ : ∃ C, (l + n < 2 * c ∧ C = 2 * c) ∨ (¬ l + n < 2 * c ∧ C = l + n) := by
    by_cases h : l + n < 2 * c
    · exact ⟨_, .inl ⟨h, rfl⟩⟩
    · exact ⟨_, .inr ⟨h, rfl⟩⟩
  have HG : Hid (∀ k, Calls Tryd.prog 42 #[.slice (some ⟨g, 0, none⟩) l c, .int .i64 (n : Int)] ((w.drewN k).drew) fun e w' => ∃ cap2 cells, e = .returned (.slice (some ⟨w.heap.size, 0, none⟩) l cap2) ∧ w'.heap[w.heap.size]? = some (.cells cells 5 (0, 0)) ∧
      cells.size = cap2 ∧ cells.toList.take l = cur.toList.take l ∧ l + n ≤ cap2 ∧ 64 ≤ cap2 + 64 ∧ c ≤ cap2 ∧ cap2 ≤ maxLen ∧ Below w.heap.size ((w.drewN k).drew) w') := fun k => growSlice_at g l c n C cur ((w.drewN k).drew) hg hcs hlc hn hb hb2 hC h1
  clear hf HB hB hg h1 hC
  go_enter Tryd.func38, Tryd.ntmps38
  go_wp2_with (first
    | (go_at_call 40; refine hLen.mono ?_; rintro e w1 ⟨rfl, k1, rfl⟩)
    | go_in)

  go_region_with (go_at_call 42; refine (HG.out _).mono ?_; rintro e w2 ⟨cap2, cells, rfl, hN, hcsz, htk, hcap2, _, hcc, hcm2, hbel⟩; have hbk2 : WrBlk w2 B (.slice (some ⟨g, 0, none⟩) l c) := (hbel.block B hBlt).trans HBh.out; obtain ⟨d0, d1, d2, df⟩ := hbk2.cells; have e0 := df 0; have e1 := df 1; have HB2 := hid2 hbk2; clear df hbk2)
  all_goals
    go_wp2
    go_ret
    obtain ⟨x1, x2, x3⟩ := grow_end HB2.out hN (by omega) (.slice (some ⟨w.heap.size, 0, none⟩) l cap2) (.slice (some ⟨w.heap.size, 0, none⟩) (l + n) cap2)
    exact ⟨rfl, cap2, cells, x1, x2, hcsz, htk, hcap2, by omega, hcm2, (Only.ofBelow (w := w) ⟨hbel.os, hbel.tape, hbel.output, hbel.size, hbel.block⟩ (fun i => i = B) (fun i h1 h2 => by omega)).trans x3 (fun i hi => .inl hi)⟩
end Go.Proofs.YtnclpcnpaodjjaaDoor
