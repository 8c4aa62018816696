/-
  PfK1W, PfK2W, PfK3W, PfK4W, PfS6W, FrM, PfA1W, PfA2W, PfA3W, PfA4W, PfA5W.
-/
import Derived.Test.YtiiflacadndhcaaGreatDoorPfTopW
import Derived.Test.YtiiflacadndhcaaGreatDoorShelfB
import Derived.Lib.AppendStr
import Derived.Deep.DeepAppendRoom
import Derived.Deep.AppendLies
namespace Go.Proofs.YtiiflacadndhcaaGreatDoor
open Go.RowKit Go.Shelf
/-- The name Upper. -/
def nmU : ByteArray := ⟨#[85, 112, 112, 101, 114]⟩
/-- A property in memory: the name Upper, the span 41 to 5A. -/
structure One (w : World) (a b : Option Addr) : Prop where
  n : SA w a [nmU]
  s : PA w b [((65 : Int), (90 : Int), (0 : Int))]
theorem One.later {w w' : World} {a b : Option Addr} (h : One w a b) (hb : Below w.heap.size w w') : One w' a b := ⟨h.n.later hb, h.s.later hb⟩
theorem One.cells {w : World} {a b : Option Addr} (h : One w a b) : ∃ b1 o1 b2 o2, a = some ⟨b1, o1, none⟩ ∧ w.cell? ⟨b1, o1, none⟩ = some (.string nmU) ∧ b = some ⟨b2, o2, none⟩ ∧ b2 < w.heap.size ∧ w.cell? ⟨b2, o2, none⟩ = some (.int .i64 65) ∧ w.cell? ⟨b2, o2 + 1, none⟩ = some (.int .i64 90) ∧ w.cell? ⟨b2, o2 + 2, none⟩ = some (.int .i64 0) := by
  obtain ⟨b1, o1, rfl, c⟩ := h.n.at' 0 (by simp)
  obtain ⟨b2, o2, rfl, hl, d0, d1, d2⟩ := h.s.at' 0 (by simp)
  exact ⟨b1, o1, b2, o2, rfl, by simpa using c, rfl, hl, by simpa using d0, by simpa using d1, by simpa using d2⟩
theorem contS_any (L : List ByteArray) (a : Option Addr) (cap : Nat) (x : ByteArray) (w : World) (hl : L.length ≤ 4194401) (ha : SA w a L) :
    Calls Tryz.prog 64 #[.slice a L.length cap, .string x] w fun e w' => e = .returned (.bool (decide (0 ≤ Lib.idxOfS L x))) ∧ w' = w := by
  have HI := hid0 (index_any L a cap x w hl ha)
  generalize L.length = n at *
  generalize Lib.idxOfS L x = ix at *
  clear ha hl
  by_cases h : 0 ≤ ix
  · have hd : decide (0 ≤ ix) = true := decide_eq_true h
    rw [hd]
    go_enter Tryz.func64, Tryz.ntmps64
    go_wp2_with (go_at_call 84; refine HI.out.mono ?_; rintro e w' ⟨rfl, rfl⟩)
    go_ret
    exact ⟨rfl, rfl⟩
  · have hd : decide (0 ≤ ix) = false := decide_eq_false h
    rw [hd]
    go_enter Tryz.func64, Tryz.ntmps64
    go_wp2_with (go_at_call 84; refine HI.out.mono ?_; rintro e w' ⟨rfl, rfl⟩)
    go_ret
    exact ⟨rfl, rfl⟩
set_option maxRecDepth 10000 in
set_option maxHeartbeats 800000 in
theorem checkNames_one (a b : Option Addr) (ca : Nat) (w : World) (h : One w a b) :
    Calls Tryz.prog 38 #[.slice a 1 ca] w fun e w' => e = .returned .nilIface ∧ Below w.heap.size w w' := by
  have HI := hid0 (fun W => isName_any nmU (by decide) W)
  have hnm : isNm nmU.data.toList = true := by decide
  rw [hnm] at HI
  have HC1 := hid0 (fun W (hb : Below w.heap.size w W) => contS_any [nmU] a ca ⟨#[79, 116, 104, 101, 114]⟩ W (by simp) (h.later hb).n)
  have hi1 : decide (0 ≤ Lib.idxOfS [nmU] ⟨#[79, 116, 104, 101, 114]⟩) = false := by decide
  rw [hi1] at HC1
  have HC2 := hid0 (fun W cap => contS_any [] a cap nmU W (by simp) ⟨fun k hk => by simp at hk⟩)
  have hi2 : decide (0 ≤ Lib.idxOfS [] nmU) = false := by decide
  rw [hi2] at HC2
  simp only [List.length_cons, List.length_nil, Nat.zero_add] at HC1 HC2
  obtain ⟨b1, o1, _, _, rfl, c0, _⟩ := h.cells
  clear h hnm hi1 hi2
  generalize nmU = nm at *
  go_enter Tryz.func38, Tryz.ntmps38
  go_wp2
  refine wp_loop_rounds 2 ?_
  rw [rounds_succ]
  go_wp2_with (first
    | (go_at_call 63; refine (HI.out _).mono ?_; rintro e w1 ⟨rfl, rfl⟩)
    | fail)
  rw [rounds_succ]
  go_wp2_with (first
    | (go_at_call 64; refine (HC1.out _ (Below.refl _ _)).mono ?_; rintro e w1 ⟨rfl, rfl⟩)
    | fail)
  refine wp_loop_rounds 2 ?_
  rw [rounds_succ]
  go_wp2_with (first
    | (go_at_call 64; refine (HC2.out _ _).mono ?_; rintro e w1 ⟨rfl, rfl⟩)
    | fail)
  rw [rounds_succ]
  go_wp2
  go_ret
  exact ⟨rfl, Below.refl _ _⟩
set_option maxRecDepth 10000 in
theorem isPoint_yes (n : Int) (h0 : 0 ≤ n) (h1 : n ≤ 1114111) (w : World) : Calls Tryz.prog 65 #[.int .i64 n] w fun e w' => e = .returned (.bool true) ∧ w' = w := by
  go_enter Tryz.func65, Tryz.ntmps65
  go_wp2
  go_ret
  exact ⟨rfl, rfl⟩
set_option maxRecDepth 10000 in
set_option maxHeartbeats 800000 in
theorem checkSpans_one (a b : Option Addr) (cb : Nat) (w : World) (h : One w a b) :
    Calls Tryz.prog 39 #[.slice b 1 cb, .int .i64 1] w fun e w' => e = .returned .nilIface ∧ Below w.heap.size w w' := by
  obtain ⟨_, _, b1, o1, _, _, rfl, hl, d0, d1, d2⟩ := h.cells
  clear h
  have g1 : decide ((65 : Int) > 90) = false := by decide
  have g2 : decide ((0 : Int) > 0) = false := by decide
  go_enter Tryz.func39, Tryz.ntmps39
  go_wp2
  refine wp_loop_rounds 2 ?_
  rw [rounds_succ]
  go_wp2_with (first
    | (go_at_call 65; refine (isPoint_yes 65 (by omega) (by omega) _).mono ?_; rintro e w1 ⟨rfl, rfl⟩)
    | (go_at_call 65; refine (isPoint_yes 90 (by omega) (by omega) _).mono ?_; rintro e w1 ⟨rfl, rfl⟩)
    | fail)
  rw [rounds_succ]
  go_wp2
  refine wp_loop_rounds 2 ?_
  rw [rounds_succ]
  go_wp2
  go_big_quiet (fail)
  go_wp2
  rw [rounds_succ]
  go_wp2
  go_ret
  exact ⟨rfl, below_drewN (((Below.refl _ _).alloc (Nat.le_refl _) _).alloc (by simp) _) _⟩
set_option maxRecDepth 10000 in
set_option maxHeartbeats 800000 in
theorem indexB_one (g ca : Nat) (w : World) (h : w.cell? ⟨g, 0, none⟩ = some (.bool true)) :
    Calls Tryz.prog 67 #[.slice (some ⟨g, 0, none⟩) 1 ca, .bool false] w fun e w' => e = .returned (.bool false) ∧ w' = w := by
  have hI : Calls Tryz.prog 100 #[.slice (some ⟨g, 0, none⟩) 1 ca, .bool false] w fun e w' => e = .returned (.int .i64 (-1)) ∧ w' = w := by
    go_enter Tryz.func100, Tryz.ntmps100
    go_wp2
    refine wp_loop_rounds 2 ?_
    rw [rounds_succ]
    go_wp2
    rw [rounds_succ]
    go_wp2
    go_ret
    exact ⟨rfl, rfl⟩
  go_enter Tryz.func67, Tryz.ntmps67
  go_wp2_with (go_at_call 100; refine hI.mono ?_; rintro e w' ⟨rfl, rfl⟩)
  go_ret
  exact ⟨rfl, rfl⟩
theorem cell_mid (w : World) (o0 o2 : Obj) (c : Array Value) (t : TypeId) (j : Nat) : (((w.alloc o0).alloc (.cells c t)).alloc o2).cell? ⟨w.heap.size + 1, j, none⟩ = c[j]? := by
  have h := heap_alloc_new (w.alloc o0) (.cells c t)
  rw [World.size_alloc] at h
  rw [cell_of_row _ _ _ _ _ _ ((Below.heap_alloc _ o2 _ (by simp)).trans h)]
theorem infoBool : (Tryz.prog.info? 4).map (fun i => (i.zero, i.size, i.bytes)) = some (some (.bool false), 1, 1) := by kernel_rfl
set_option maxRecDepth 10000 in
set_option maxHeartbeats 800000 in
theorem allUsed_one (a b : Option Addr) (ca cb : Nat) (w : World) (h : One w a b) :
    Calls Tryz.prog 40 #[.agg #[.slice a 1 ca, .slice b 1 cb]] w fun e w' => e = .returned (.bool true) ∧ Below w.heap.size w w' := by
  obtain ⟨_, _, b1, o1, _, _, rfl, hl, d0, d1, d2⟩ := h.cells
  obtain ⟨i0, hi, hz0, hz1, hz2⟩ := info_parts infoBool
  have hmc : madeCells #[Value.bool false] 1 = #[.bool false] := by kernel_rfl
  have HM : Hid (∀ o0 o2, (((w.alloc o0).alloc (.cells #[.bool true] 4)).alloc o2).cell? ⟨w.heap.size + 1, 0, none⟩ = some (.bool true)) := hid0 (fun o0 o2 => (cell_mid w o0 o2 _ _ 0).trans rfl)
  clear h
  go_enter Tryz.func40, Tryz.ntmps40
  go_wp2_with (at_make; refine wpList_make_row _ rfl _ _ 112 rfl 4 i0 (.bool false) Tryz.underlying112 hi hz0 hz1 rfl .i64 .i64 1 rfl rfl (by rw [hz2]; omega) (by omega) ?_; rw [hmc])
  refine wp_loop_rounds 2 ?_
  rw [rounds_succ]
  go_wp2
  rw [rounds_succ]
  go_wp2_with (go_at_call 67; refine (indexB_one _ _ _ (HM.out _ _)).mono ?_; rintro e w1 ⟨rfl, rfl⟩)
  go_ret
  exact ⟨rfl, (((Below.refl _ _).alloc (Nat.le_refl _) _).alloc (by simp) _).alloc (by simp; omega) _⟩
set_option maxRecDepth 10000 in
set_option maxHeartbeats 800000 in
theorem check_one (a b : Option Addr) (ca cb : Nat) (w : World) (h : One w a b) :
    Calls Tryz.prog 14 #[.agg #[.slice a 1 ca, .slice b 1 cb]] w fun e w' => e = .returned .nilIface ∧ Below w.heap.size w w' := by
  have H1 := hid0 (fun W (hb : Below w.heap.size w W) => checkNames_one a b ca W (h.later hb))
  have H2 := hid0 (fun W (hb : Below w.heap.size w W) => checkSpans_one a b cb W (h.later hb))
  have H3 := hid0 (fun W (hb : Below w.heap.size w W) => allUsed_one a b ca cb W (h.later hb))
  have HB := hid0 (fun o : Obj => (Below.refl w.heap.size w).alloc (Nat.le_refl _) o)
  have HK := hid0 (heap_alloc_new w (.cells #[.slice a 1 ca, .slice b 1 cb] 25))
  have HC : Hid (∀ W, Below (w.heap.size + 1) (w.alloc (.cells #[.slice a 1 ca, .slice b 1 cb] 25)) W → W.cell? ⟨w.heap.size, 0, none⟩ = some (.slice a 1 ca) ∧ W.cell? ⟨w.heap.size, 1, none⟩ = some (.slice b 1 cb)) := hid0 (fun W hb => by
    have k := (hb.block w.heap.size (Nat.lt_succ_self _)).trans HK.out
    exact ⟨by rw [cell_of_row _ _ _ _ _ _ k]; rfl, by rw [cell_of_row _ _ _ _ _ _ k]; rfl⟩)
  have HBk : Hid (∀ W, Below (w.heap.size + 1) (w.alloc (.cells #[.slice a 1 ca, .slice b 1 cb] 25)) W → Below w.heap.size w W) := hid0 (fun W hb => (HB.out _).trans (hb.mono (Nat.le_succ _)))
  clear h
  go_enter Tryz.func14, Tryz.ntmps14
  go_wp2_with (first
    | (go_at_call 38; refine (H1.out _ (HB.out _)).mono ?_; rintro e w1 ⟨rfl, hb1⟩; have HW1 := hid0 (show Below (w.heap.size + 1) _ w1 from (by simpa using hb1)); obtain ⟨x0, x1⟩ := HC.out w1 HW1.out; clear hb1)
    | (go_at_call 39; refine (H2.out _ (HBk.out _ HW1.out)).mono ?_; rintro e w2 ⟨rfl, hb2⟩; have HW2 := hid0 (HW1.out.trans (hb2.mono (by have := HW1.out.size; simpa using this))); obtain ⟨y0, y1⟩ := HC.out w2 HW2.out; clear hb2)
    | (go_at_call 40; refine (H3.out _ (HBk.out _ HW2.out)).mono ?_; rintro e w3 ⟨rfl, hb3⟩; have HW3 := hid0 (HW2.out.trans (hb3.mono (by have := HW2.out.size; simpa using this))); clear hb3)
    | fail)
  go_ret
  exact ⟨rfl, HBk.out _ HW3.out⟩
end Go.Proofs.YtiiflacadndhcaaGreatDoor
namespace Go.Proofs.YtiiflacadndhcaaGreatDoor
open Go.RowKit Go.Shelf
set_option maxRecDepth 10000 in
set_option maxHeartbeats 400000 in
theorem stable_one (b : Option Addr) (cb : Nat) (w : World) :
    Calls Tryz.prog 57 #[.slice b 1 cb, .func (.func 58) #[] #[]] w fun e w' => e = .returned (.tuple #[]) ∧ w' = w := by
  have h1 : ∀ W, Calls Tryz.prog 115 #[.slice b 1 cb, .int .i64 0, .int .i64 1, .func (.func 58) #[] #[]] W fun e w' => e = .returned (.tuple #[]) ∧ w' = W := fun W => by
    go_enter Tryz.func115, Tryz.ntmps115
    go_wp2
    refine wp_loop_rounds 1 ?_
    rw [rounds_succ]
    go_wp2
    go_end0
    exact ⟨rfl, rfl⟩
  have h2 : ∀ W, Calls Tryz.prog 93 #[.slice b 1 cb, .int .i64 1, .func (.func 58) #[] #[]] W fun e w' => e = .returned (.tuple #[]) ∧ w' = W := fun W => by
    go_enter Tryz.func93, Tryz.ntmps93
    go_wp2
    refine wp_loop_rounds 1 ?_
    rw [rounds_succ]
    go_wp2_with (go_at_call 115; refine (h1 _).mono ?_; rintro e w' ⟨rfl, rfl⟩)
    refine wp_loop_rounds 1 ?_
    rw [rounds_succ]
    go_wp2
    go_end0
    exact ⟨rfl, rfl⟩
  go_enter Tryz.func57, Tryz.ntmps57
  go_wp2_with (go_at_call 93; refine (h2 _).mono ?_; rintro e w' ⟨rfl, rfl⟩)
  go_end0
  exact ⟨rfl, rfl⟩
set_option maxRecDepth 10000 in
set_option maxHeartbeats 400000 in
theorem clone_one (a b : Option Addr) (cb : Nat) (w : World) (h : One w a b) :
    Calls Tryz.prog 56 #[.slice b 1 cb] w fun e w' => ∃ cap, e = .returned (.slice (some ⟨w.heap.size + 1, 0, none⟩) 1 cap) ∧ (∃ C, w'.heap[w.heap.size + 1]? = some (.cells (#[.int .i64 65, .int .i64 90, .int .i64 0] ++ C) 72 (0, 0))) ∧ Below w.heap.size w w' := by
  obtain ⟨_, _, b1, o1, _, _, rfl, hl, d0, d1, d2⟩ := h.cells
  clear h
  go_enter Tryz.func56, Tryz.ntmps56
  have heq : ∀ (w : World) (n c n' c' : Nat), (binOp .eql 23 (.slice (some ⟨b1, o1, none⟩) n c) (.slice none n' c')).run Tryz.prog w = .ok (.bool false) w := fun w n c n' c' => Lib.run_eql_slice_nil w _ _ _ n c n' c' Tryz.underlying23
  go_wp2
  go_ret
  have hn := heap_alloc_new (w.alloc (.cells #[] 72)) (.cells (#[Value.int IntKind.i64 65, Value.int IntKind.i64 90, Value.int IntKind.i64 0] ++ Builtin.zeroCells #[Value.int IntKind.i64 0, Value.int IntKind.i64 0, Value.int IntKind.i64 0] ((Question.appendCap 1 0 72).cut (w.tape w.drawn (Question.appendCap 1 0 72)) - 1)) 72)
  rw [World.size_alloc] at hn
  exact ⟨_, rfl, ⟨_, hn⟩, below_drewN (((Below.refl _ _).alloc (Nat.le_refl _) _).alloc (by simp) _) 1⟩
set_option maxRecDepth 10000 in
theorem tz16 (w : World) (hT : TabAt 19 Lib.deBruijn64tab w) : Calls Tryz.prog 184 #[.int .u64 16] w fun e w' => e = .returned (.int .i64 4) ∧ w' = w := by
  have h := Any7.bits_TrailingZeros Tryz.lays727 16 (by omega) w (fun _ => hT)
  exact h
set_option maxRecDepth 10000 in
set_option maxHeartbeats 400000 in
theorem pow16 (w : World) : Calls Tryz.prog 183 #[.int .i64 16] w fun e w' => e = .returned (.bool true) ∧ w' = w := by
  go_enter Tryz.func183, Tryz.ntmps183
  go_wp2
  go_ret
  exact ⟨rfl, rfl⟩
theorem conv2 (w : World) (C : Array Value) (t : TypeId) (x y : UInt8) (h1 : C[63]? = some (.int .u8 (x.toNat : Int))) (h2 : C[64]? = some (.int .u8 (y.toNat : Int))) :
    (convert 102 9 (.slice (some ⟨w.heap.size, 63, none⟩) 2 2)).run Tryz.prog (w.alloc (.cells C t)) = .ok (.string ⟨#[x, y]⟩) (w.alloc (.cells C t)) := by
  refine run_convert_bytes_back (P := Tryz.prog) (w.alloc (.cells C t)) 102 9 5 ⟨w.heap.size, 63, none⟩ 2 [x, y] Tryz.underlying102 Tryz.underlying5 Tryz.underlying9 (fun j hj => ?_)
  have hj2 : j = 0 ∨ j = 1 := by simp at hj; omega
  rw [Addr.add_lit, cell_of_row _ _ _ _ _ _ (heap_alloc_new w _)]
  rcases hj2 with rfl | rfl
  · exact h1
  · exact h2
set_option maxRecDepth 10000 in
set_option maxHeartbeats 800000 in
theorem fmtBits (n : Nat) (x y : UInt8) (hn : n = 65 ∧ x = 52 ∧ y = 49 ∨ n = 90 ∧ x = 53 ∧ y = 97) (w : World) (hT : TabAt 19 Lib.deBruijn64tab w) :
    Calls Tryz.prog 163 #[.slice none 0 0, .int .u64 (n : Int), .int .i64 16, .bool false, .bool false] w fun e w' => e = .returned (.tuple #[.slice none 0 0, .string ⟨#[x, y]⟩]) ∧ Below w.heap.size w w' := by
  have HT := hid0 (fun W (hb : Below w.heap.size w W) => tz16 W (fun j hj => (hb.cell (p := ⟨19, j, none⟩) (World.block_lt_of_cell? w _ (hT j hj))).trans (hT j hj)))
  have HB := hid0 (fun o : Obj => (Below.refl w.heap.size w).alloc (Nat.le_refl _) o)
  clear hT
  rcases hn with ⟨rfl, rfl, rfl⟩ | ⟨rfl, rfl, rfl⟩
  · go_enter Tryz.func163, Tryz.ntmps163
    go_wp2_with (first
      | (go_at_call 183; refine (pow16 _).mono ?_; rintro e w1 ⟨rfl, rfl⟩)
      | (go_at_call 184; refine (HT.out _ (HB.out _)).mono ?_; rintro e w1 ⟨rfl, rfl⟩)
      | fail)
    refine wp_loop_rounds 2 ?_
    rw [rounds_succ]
    go_wp2
    rw [rounds_succ]
    go_wp2
    rw [conv2 w _ _ 52 49]
    rotate_left
    · kernel_rfl
    · kernel_rfl
    go_wp2
    go_ret2
    exact ⟨rfl, HB.out _⟩
  · go_enter Tryz.func163, Tryz.ntmps163
    go_wp2_with (first
      | (go_at_call 183; refine (pow16 _).mono ?_; rintro e w1 ⟨rfl, rfl⟩)
      | (go_at_call 184; refine (HT.out _ (HB.out _)).mono ?_; rintro e w1 ⟨rfl, rfl⟩)
      | fail)
    refine wp_loop_rounds 2 ?_
    rw [rounds_succ]
    go_wp2
    rw [rounds_succ]
    go_wp2
    rw [conv2 w _ _ 53 97]
    rotate_left
    · kernel_rfl
    · kernel_rfl
    go_wp2
    go_ret2
    exact ⟨rfl, HB.out _⟩
theorem ext158 : Builder.Extra Tryz.prog Tryz.lays158_ren where
  sizeBuilder := by kernel_rfl
  liesBuilder := by kernel_rfl
  t5 := Tryz.underlying5
  a5 := Tryz.isAgg5
  z5 := Tryz.sizeOf5
  v5 := Tryz.zeroValue5
  infoByte := by kernel_rfl
  cellsByte := by kernel_rfl
  sizeByte := by kernel_rfl
  neB5 := by decide
theorem ext105 : Builder.Extra Tryz.prog Tryz.lays105_ren where
  sizeBuilder := by kernel_rfl
  liesBuilder := by kernel_rfl
  t5 := Tryz.underlying5
  a5 := Tryz.isAgg5
  z5 := Tryz.sizeOf5
  v5 := Tryz.zeroValue5
  infoByte := by kernel_rfl
  cellsByte := by kernel_rfl
  sizeByte := by kernel_rfl
  neB5 := by decide
theorem ext169 : Builder.Extra Tryz.prog Tryz.lays169_ren where
  sizeBuilder := by kernel_rfl
  liesBuilder := by kernel_rfl
  t5 := Tryz.underlying5
  a5 := Tryz.isAgg5
  z5 := Tryz.sizeOf5
  v5 := Tryz.zeroValue5
  infoByte := by kernel_rfl
  cellsByte := by kernel_rfl
  sizeByte := by kernel_rfl
  neB5 := by decide
set_option maxRecDepth 10000 in
set_option maxHeartbeats 400000 in
theorem hex_two (n : Nat) (x y X Y : UInt8) (hn : n = 65 ∧ x = 52 ∧ y = 49 ∧ X = 52 ∧ Y = 49 ∨ n = 90 ∧ x = 53 ∧ y = 97 ∧ X = 53 ∧ Y = 65) (w : World) (hT : TabAt 19 Lib.deBruijn64tab w) :
    Calls Tryz.prog 61 #[.int .i64 (n : Int)] w fun e w' => e = .returned (.string ⟨#[48, 48, X, Y]⟩) ∧ Below w.heap.size w w' := by
  have hI : Calls Tryz.prog 130 #[.int .i64 (n : Int), .int .i64 16] w fun e w' => e = .returned (.string ⟨#[x, y]⟩) ∧ Below w.heap.size w w' := by
    have hF := fmtBits n x y (by rcases hn with ⟨h1, h2, h3, _⟩ | ⟨h1, h2, h3, _⟩; exact .inl ⟨h1, h2, h3⟩; exact .inr ⟨h1, h2, h3⟩) w hT
    have hnI : ¬ (n : Int) < 0 := by omega
    have hnu : IntKind.u64.wrap (n : Int) = (n : Int) := by rw [IntKind.wrap_u64]; rcases hn with ⟨rfl, _⟩ | ⟨rfl, _⟩ <;> rfl
    have HF := hid0 hF
    clear hF hT hn
    go_enter Tryz.func130, Tryz.ntmps130
    go_wp2_with (go_at_call 163; refine HF.out.mono ?_; rintro e w1 ⟨rfl, hb⟩; have HB := hid0 hb; clear hb)
    go_ret
    exact ⟨rfl, HB.out⟩
  have hS : Calls Tryz.prog 96 #[.int .i64 (n : Int), .int .i64 16] w fun e w' => e = .returned (.string ⟨#[x, y]⟩) ∧ Below w.heap.size w w' := by
    have HI := hid0 hI
    clear hI hT hn
    go_enter Tryz.func96, Tryz.ntmps96
    go_wp2_with (go_at_call 130; refine HI.out.mono ?_; rintro e w1 ⟨rfl, hb⟩; have HB := hid0 hb; clear hb)
    go_ret
    exact ⟨rfl, HB.out⟩
  have hU : ∀ W, Calls Tryz.prog 95 #[.string ⟨#[x, y]⟩] W fun e w' => e = .returned (.string ⟨#[X, Y]⟩) ∧ Below W.heap.size W w' := fun W => by
    have h := Any.strings_ToUpper_ascii Tryz.lays158 ext158 ⟨#[x, y]⟩ W (by show (2 : Nat) ≤ _; omega) (fun j b hb => by
      rcases hn with ⟨_, rfl, rfl, _⟩ | ⟨_, rfl, rfl, _⟩
      all_goals
        match j, hb with
        | 0, hb => cases hb; decide
        | 1, hb => cases hb; decide
        | j + 2, hb => simp at hb)
    rcases hn with ⟨_, rfl, rfl, rfl, rfl⟩ | ⟨_, rfl, rfl, rfl, rfl⟩
    · exact h
    · exact h
  have hR : ∀ W, Calls Tryz.prog 97 #[.string ⟨#[48]⟩, .int .i64 2] W fun e w' => e = .returned (.string ⟨#[48, 48]⟩) ∧ Below W.heap.size W w' := fun W =>
    Any.strings_Repeat Tryz.lays105 ext105 ⟨#[48]⟩ 2 W (by omega) (by show (1 : Nat) * 2 ≤ _; omega)
  have HS := hid0 hS
  have HU := hid0 hU
  have HR := hid0 hR
  have hz : (⟨#[X, Y]⟩ : ByteArray).size = 2 := rfl
  clear hI hS hU hR hT hn
  go_enter Tryz.func61, Tryz.ntmps61
  go_wp2_with (first
    | (go_at_call 96; refine HS.out.mono ?_; rintro e w1 ⟨rfl, hb1⟩; have HB1 := hid0 hb1; clear hb1)
    | (go_at_call 95; refine (HU.out _).mono ?_; rintro e w2 ⟨rfl, hb2⟩; have HB2 := hid0 (HB1.out.trans (hb2.mono HB1.out.size)); clear hb2)
    | (go_at_call 97; refine (HR.out _).mono ?_; rintro e w3 ⟨rfl, hb3⟩; have HB3 := hid0 (HB2.out.trans (hb3.mono HB2.out.size)); clear hb3)
    | fail)
  go_ret
  exact ⟨rfl, HB3.out⟩
end Go.Proofs.YtiiflacadndhcaaGreatDoor
namespace Go.Proofs.YtiiflacadndhcaaGreatDoor
open Go.RowKit Go.Shelf
theorem bldSize : (Tryz.prog.info? 104).map (·.size) = some 2 := by kernel_rfl
theorem bldLies : liesAt Tryz.prog Tryz.prog.depth 104 (2 / Tryz.prog.cellsOf 104) 0 104 1 = true := by kernel_rfl
theorem infoByte : (Tryz.prog.info? 5).map (fun i => (i.zero, i.size, i.bytes)) = some (some (.int .u8 0), 1, 1) := by kernel_rfl
set_option maxRecDepth 100000 in
set_option maxHeartbeats 800000 in
theorem ccUsed (b : Nat) (w : World) (h0 : w.cell? ⟨b, 0, none⟩ = some (.pointer (some ⟨b, 0, none⟩))) :
    Calls Tryz.prog 94 #[.pointer (some ⟨b, 0, none⟩)] w fun e w' => e = .returned (.tuple #[]) ∧ w' = w := by
  obtain ⟨j, hj, _⟩ := Option.map_eq_some_iff.1 bldSize
  go_enter Tryz.func94, Tryz.ntmps94
  go_wp2
  rw [Lib.run_neq_ptr_same w _ Tryz.underlying101 hj]
  go_wp2
  go_end0
  exact ⟨rfl, rfl⟩
set_option maxRecDepth 100000 in
set_option maxHeartbeats 800000 in
theorem ccNew (b : Nat) (w : World) (h0 : w.cell? ⟨b, 0, none⟩ = some (.pointer none)) (hsh : w.shape? b = some (104, 2)) (hfz : w.frozen? ⟨b, 0, none⟩ = false) :
    Calls Tryz.prog 94 #[.pointer (some ⟨b, 0, none⟩)] w fun e w' => e = .returned (.tuple #[]) ∧ w' = w.setCell ⟨b, 0, none⟩ (.pointer (some ⟨b, 0, none⟩)) := by
  obtain ⟨j, hj, hjs⟩ := Option.map_eq_some_iff.1 bldSize
  go_enter Tryz.func94, Tryz.ntmps94
  go_wp2
  rw [Lib.run_to_unsafe w ⟨b, 0, none⟩ Tryz.underlying101 Tryz.underlying170 hj (by rw [hjs]; decide) hsh (Nat.zero_lt_succ 1)]
  simp only [Result.andThen]
  rw [Oper.upon_value]
  go_wp2
  rw [run_callFunc_extern Tryz.func126 (by kernel_rfl) (by kernel_rfl) (by kernel_rfl) (e := Extern.AbiNoEscape.same) (by kernel_rfl)]
  rw [Lib.run_noEscape]
  simp only [Result.andThen]
  rw [Oper.upon_value]
  go_wp2
  rw [Lib.run_from_unsafe w ⟨b, 0, none⟩ Tryz.underlying170 Tryz.underlying101 hj hsh bldLies]
  simp only [Result.andThen]
  rw [Oper.upon_value]
  go_wp2
  go_end0
  exact ⟨rfl, rfl⟩
/-- A builder in memory, used or not. -/
abbrev Bl (B b : Nat) (bs : List Value) (w : World) : Prop := Lib.IsBuilder 104 5 B b bs w
abbrev Bu (B b : Nat) (bs : List Value) (w : World) : Prop := Lib.BuilderAt 104 5 B b (.pointer (some ⟨b, 0, none⟩)) bs w
/-- A write keeps what is no row of bytes. -/
def Kb (b : Nat) (w w' : World) : Prop := ∀ (i : Nat) (c : Array Value) (t : TypeId) (z : Nat × Nat), w.heap[i]? = some (Obj.cells c t z) → ¬ t = 5 → ¬ i = b → w'.heap[i]? = some (Obj.cells c t z)
theorem cc_any (B b : Nat) (bs : List Value) (w : World) (h : Bl B b bs w) : Calls Tryz.prog 94 #[.pointer (some ⟨b, 0, none⟩)] w fun e w' => e = .returned (.tuple #[]) ∧ Bu B b bs w' ∧ Below B w w' ∧ Kb b w w' := by
  rcases h with h | h
  · exact (ccNew b w h.cell0 h.shape h.frozen0).mono fun e w' ⟨h1, h2⟩ => ⟨h1, h2 ▸ h.used _, h2 ▸ (Below.refl B w).setCell (p := ⟨b, 0, none⟩) h.1 _, h2 ▸ fun i c t z hi _ hn => (Below.heap_setCell w ⟨b, 0, none⟩ _ i hn).trans hi⟩
  · exact (ccUsed b w h.cell0).mono fun e w' ⟨h1, h2⟩ => ⟨h1, h2 ▸ h, h2 ▸ Below.refl B _, h2 ▸ fun i c t z hi _ _ => hi⟩
/-- What a write leaves. -/
theorem bu_grown {B b : Nat} {bs bs' : List Value} {w w1 w2 : World} {v v' : Value} {o : Option Obj} (hB : B ≤ b) (hbk : w1.heap[b]? = some (.cells #[.pointer (some ⟨b, 0, none⟩), v] 104 (0, 0))) (hown : w1.ownsRow B 5 1 v bs.length bs) (hne : v.ownBlock ≠ some b) (hb1 : Below B w w1) (_hBw : B ≤ w.heap.size) (hk1 : Kb b w w1)
    (hgrow : ((match o with | some x => w1.alloc x | none => w1)).grownBy w2 v.ownBlock) (hown' : w2.ownsRow B 5 1 v' bs'.length bs') :
    w2.heap[b]? = some (.cells #[.pointer (some ⟨b, 0, none⟩), v] 104 (0, 0)) ∧ Bu B b bs' (w2.setCell ⟨b, 1, none⟩ v') ∧ Below B w (w2.setCell ⟨b, 1, none⟩ v') ∧ Kb b w (w2.setCell ⟨b, 1, none⟩ v') := by
  have hlt := (Array.getElem?_eq_some_iff.1 hbk).1
  have hb2 : w2.heap[b]? = some (.cells #[.pointer (some ⟨b, 0, none⟩), v] 104 (0, 0)) := by
    cases o with
    | none => exact (hgrow.block b hlt (fun e => hne e.symm)).trans hbk
    | some x => exact (hgrow.block b (by simp; omega) (fun e => hne e.symm)).trans ((Below.heap_alloc w1 x b hlt).trans hbk)
  have hs := hb1.size
  have hrow : ∀ i c t z, w1.heap[i]? = some (.cells c t z) → ¬ t = 5 → some i ≠ v.ownBlock := fun i c t z hi ht e => by
    rcases hown.2 with ⟨rfl, _⟩ | ⟨g, cap, cur, rfl, _, hg, _⟩
    · simp [Value.ownBlock] at e
    · simp only [Value.ownBlock, Option.some.injEq] at e
      subst e
      rw [hi] at hg
      simp only [Option.some.injEq, Obj.cells.injEq] at hg
      exact ht hg.2.1
  refine ⟨hb2, Lib.BuilderAt.put hB hb2 hown' (by decide), ?_, fun i c t z hi ht hn => ?_⟩
  rotate_left
  · have h1 := hk1 i c t z hi ht hn
    have hl := (Array.getElem?_eq_some_iff.1 h1).1
    rw [Below.heap_setCell w2 ⟨b, 1, none⟩ v' i hn]
    cases o with
    | none => exact (hgrow.block i hl (hrow i c t z h1 ht)).trans h1
    | some x => exact (hgrow.block i (by simp; omega) (hrow i c t z h1 ht)).trans ((Below.heap_alloc w1 x i hl).trans h1)
  cases o with
  | none => exact (hb1.grown hgrow (by omega) (fun k hk => (World.ownsRow.lt hown k hk).1)).setCell (p := ⟨b, 1, none⟩) hB _
  | some x => exact ((hb1.alloc (by omega) x).grown hgrow (by simp; omega) (fun k hk => (World.ownsRow.lt hown k hk).1)).setCell (p := ⟨b, 1, none⟩) hB _
theorem row_form {w : World} {B n : Nat} {v : Value} {xs : List Value} (h : w.ownsRow B 5 1 v n xs) : ∃ a c, v = .slice a n c := by
  rcases h.2 with ⟨rfl, hn⟩ | ⟨g, c, cur, rfl, _⟩
  · exact ⟨none, 0, by rw [hn]⟩
  · exact ⟨_, c, rfl⟩
set_option maxRecDepth 10000 in
set_option maxHeartbeats 800000 in
theorem writeByte_any (B b : Nat) (bs : List Value) (c : Int) (w : World) (h : Bl B b bs w) (hlen : bs.length + 1 ≤ 140737488355328) (hBw : B ≤ w.heap.size) :
    Calls Tryz.prog 59 #[.pointer (some ⟨b, 0, none⟩), .int .u8 c] w fun e w' => e = .returned .nilIface ∧ Bu B b (bs ++ [.int .u8 c]) w' ∧ Below B w w' ∧ Kb b w w' := by
  obtain ⟨i0, hi, hz0, hz1, hz2⟩ := info_parts infoByte
  have HC := hid0 (cc_any B b bs w h)
  clear h
  go_enter Tryz.func59, Tryz.ntmps59
  go_wp2_with (first
    | (go_at_call 94; refine HC.out.mono ?_; rintro e w1 ⟨rfl, ⟨hB, v, hbk, hown, hne⟩, hb1, hk1⟩; have HK1 := hid0 hk1; have c1 : w1.cell? ⟨b, 1, none⟩ = some v := (by rw [cell_of_row _ _ _ _ _ _ hbk]; rfl); have HK := hid0 hbk; have HO := hid0 hown; have HNe := hid0 hne; have HB1 := hid0 hb1; have hs1 := hb1.size; clear hbk hown hne hb1 hk1)
    | (at_builtin; refine wpList_append_own _ rfl _ _ 102 rfl B 5 i0 (.int .u8 0) 1 1 Tryz.underlying102 hi hz0 hz1 hz2 rfl (by decide) v bs.length bs rfl (HO.out.alloc _) ⟨w1.heap.size, 0, none⟩ 1 1 [.int .u8 c] rfl rfl (cell_one_new _ _ _) (by simp [Value.oneCell']) (by unfold maxLen; omega) (by omega) (by simp; omega) ?_; intro v' w2 hown' hgrow _; obtain ⟨a', c', rfl⟩ := row_form hown'; obtain ⟨r1, r2, r3, r4⟩ := bu_grown (bs' := bs ++ [.int .u8 c]) (o := some (.cells #[.int .u8 c] 5)) hB HK.out HO.out HNe.out HB1.out hBw HK1.out hgrow (by simpa using hown'); have d1 : w2.cell? ⟨b, 1, none⟩ = some v := (by rw [cell_of_row _ _ _ _ _ _ r1]; rfl); have f1 : w2.frozen? ⟨b, 1, none⟩ = false := frozen_of_row _ _ _ _ _ r1; have HR := hid0 (And.intro r2 (And.intro r3 r4)); clear hown' hgrow r1 r2 r3 r4)
    | fail)
  go_ret
  exact ⟨rfl, HR.out⟩
set_option maxRecDepth 10000 in
set_option maxHeartbeats 800000 in
theorem writeString_any (B b : Nat) (bs : List Value) (s : ByteArray) (w : World) (h : Bl B b bs w) (hlen : bs.length + s.size ≤ 140737488355328) (hBw : B ≤ w.heap.size) :
    Calls Tryz.prog 60 #[.pointer (some ⟨b, 0, none⟩), .string s] w fun e w' => e = .returned (.tuple #[.int .i64 s.size, .nilIface]) ∧ Bu B b (bs ++ Lib.strCells s) w' ∧ Below B w w' ∧ Kb b w w' := by
  obtain ⟨i0, hi, hz0, hz1, hz2⟩ := info_parts infoByte
  have HC := hid0 (cc_any B b bs w h)
  have hsl : (Lib.strCells s).length = s.size := by simp [Lib.strCells]
  have HSl := hid0 hsl
  clear h hsl
  go_enter Tryz.func60, Tryz.ntmps60
  go_wp2_with (first
    | (go_at_call 94; refine HC.out.mono ?_; rintro e w1 ⟨rfl, ⟨hB, v, hbk, hown, hne⟩, hb1, hk1⟩; have HK1 := hid0 hk1; have c1 : w1.cell? ⟨b, 1, none⟩ = some v := (by rw [cell_of_row _ _ _ _ _ _ hbk]; rfl); have HK := hid0 hbk; have HO := hid0 hown; have HNe := hid0 hne; have HB1 := hid0 hb1; have hs1 := hb1.size; clear hbk hown hne hb1 hk1)
    | (at_builtin; refine Go.Lib.wpList_append_own_string _ rfl _ _ 102 9 rfl B 5 i0 Tryz.underlying102 Tryz.underlying9 hi hz0 hz1 hz2 v bs.length bs rfl HO.out s rfl (by unfold maxLen; omega) (by omega) (by omega) ?_; intro v' w2 hown' hgrow _; obtain ⟨a', c', rfl⟩ := row_form hown'; obtain ⟨r1, r2, r3, r4⟩ := bu_grown (bs' := bs ++ Lib.strCells s) (o := none) hB HK.out HO.out HNe.out HB1.out hBw HK1.out hgrow (by rw [List.length_append, HSl.out]; exact hown'); have d1 : w2.cell? ⟨b, 1, none⟩ = some v := (by rw [cell_of_row _ _ _ _ _ _ r1]; rfl); have f1 : w2.frozen? ⟨b, 1, none⟩ = false := frozen_of_row _ _ _ _ _ r1; have HR := hid0 (And.intro r2 (And.intro r3 r4)); clear hown' hgrow r1 r2 r3 r4)
    | fail)
  go_ret2
  exact ⟨rfl, HR.out⟩
end Go.Proofs.YtiiflacadndhcaaGreatDoor
namespace Go.Proofs.YtiiflacadndhcaaGreatDoor
open Go.RowKit Go.Shelf
/-- The short file's making. -/
structure Sf (w w' : World) (a c : Option Addr) (ca cc pb xb b B : Nat) (bs : List Value) : Prop where
  bl : Bl B b bs w'
  pbox : w'.heap[pb]? = some (.cells #[.slice a 1 ca, .slice c 1 cc] 25 (0, 0))
  xbox : w'.heap[xb]? = some (.cells #[.int .i64 65, .int .i64 90, .int .i64 0] 72 (0, 0))
  bel : Below w.heap.size w w'
  sz : B ≤ w'.heap.size
  lo : w.heap.size ≤ B
  nep : ¬ pb = b
  nex : ¬ xb = b
section
variable {w w' w2 : World} {a c : Option Addr} {ca cc pb xb b B : Nat} {bs bs' : List Value}
theorem Sf.later (h : Sf w w' a c ca cc pb xb b B bs) (hb : Below w'.heap.size w' w2) : Sf w w2 a c ca cc pb xb b B bs := by
  have bld : ∀ p, Lib.BuilderAt 104 5 B b p bs w' → Lib.BuilderAt 104 5 B b p bs w2 := fun p ⟨h1, v, h2, h3, h4⟩ => ⟨h1, v, (hb.block b (Array.getElem?_eq_some_iff.1 h2).1).trans h2, row_later h3 hb, h4⟩
  exact ⟨h.bl.elim (fun x => .inl (bld _ x)) (fun x => .inr (bld _ x)), (hb.block _ (Array.getElem?_eq_some_iff.1 h.pbox).1).trans h.pbox, (hb.block _ (Array.getElem?_eq_some_iff.1 h.xbox).1).trans h.xbox, h.bel.trans (hb.mono h.bel.size), Nat.le_trans h.sz hb.size, h.lo, h.nep, h.nex⟩
theorem Sf.wrote (h : Sf w w' a c ca cc pb xb b B bs) (hu : Bu B b bs' w2) (hb : Below B w' w2) (hk : Kb b w' w2) : Sf w w2 a c ca cc pb xb b B bs' :=
  ⟨.inr hu, hk _ _ _ _ h.pbox (by decide) h.nep, hk _ _ _ _ h.xbox (by decide) h.nex, h.bel.trans (hb.mono h.lo), Nat.le_trans h.sz hb.size, h.lo, h.nep, h.nex⟩
theorem Sf.cells (h : Sf w w' a c ca cc pb xb b B bs) : w'.cell? ⟨pb, 0, none⟩ = some (.slice a 1 ca) ∧ w'.cell? ⟨xb, 0, none⟩ = some (.int .i64 65) ∧ w'.cell? ⟨xb, 1, none⟩ = some (.int .i64 90) ∧ w'.cell? ⟨xb, 2, none⟩ = some (.int .i64 0) :=
  ⟨by rw [cell_of_row _ _ _ _ _ _ h.pbox]; rfl, by rw [cell_of_row _ _ _ _ _ _ h.xbox]; rfl, by rw [cell_of_row _ _ _ _ _ _ h.xbox]; rfl, by rw [cell_of_row _ _ _ _ _ _ h.xbox]; rfl⟩
end
theorem tab_later {w w' : World} (h : TabAt 19 Lib.deBruijn64tab w) (hb : Below w.heap.size w w') : TabAt 19 Lib.deBruijn64tab w' := fun j hj => (hb.cell (p := ⟨19, j, none⟩) (World.block_lt_of_cell? w _ (h j hj))).trans (h j hj)
set_option maxRecDepth 10000 in
set_option maxHeartbeats 1600000 in
theorem shortFile_one (a c : Option Addr) (ca cc : Nat) (w : World) (h : One w a c) (hT : TabAt 19 Lib.deBruijn64tab w) :
    Calls Tryz.prog 37 #[.agg #[.slice a 1 ca, .slice c 1 cc]] w fun e w' => e = .returned (.string ⟨#[48, 48, 52, 49, 46, 46, 48, 48, 53, 65, 59, 85, 112, 112, 101, 114]⟩) ∧ Below w.heap.size w w' := by
  have HCl := hid0 (fun W (hb : Below w.heap.size w W) => clone_one a c cc W (h.later hb))
  have HX := hid0 (fun W (hb : Below w.heap.size w W) => hex_two 65 52 49 52 49 (.inl ⟨rfl, rfl, rfl, rfl, rfl⟩) W (tab_later hT hb))
  have HY := hid0 (fun W (hb : Below w.heap.size w W) => hex_two 90 53 97 53 65 (.inr ⟨rfl, rfl, rfl, rfl, rfl⟩) W (tab_later hT hb))
  obtain ⟨b1, o1, rfl, cn⟩ : ∃ b1 o1, a = some ⟨b1, o1, none⟩ ∧ w.cell? ⟨b1, o1, none⟩ = some (.string nmU) := by
    obtain ⟨b1, o1, _, _, h1, h2, _⟩ := h.cells
    exact ⟨b1, o1, h1, h2⟩
  have HN := hid0 (fun W (hb : Below w.heap.size w W) => (hb.cell (p := ⟨b1, o1, none⟩) (World.block_lt_of_cell? w _ cn)).trans cn)
  have HB0 := hid0 (fun o : Obj => (Below.refl w.heap.size w).alloc (Nat.le_refl _) o)
  have HP0 := hid0 (heap_alloc_new w (.cells #[.slice (some ⟨b1, o1, none⟩) 1 ca, .slice c 1 cc] 25))
  clear h hT cn
  go_enter Tryz.func37, Tryz.ntmps37
  go_wp2_with (first
    | (go_at_call 56; refine (HCl.out _ (HB0.out _)).mono ?_; rintro e w1 ⟨cap, rfl, ⟨C, hC⟩, hb1⟩; have HC := hid0 hC; have HB1 := hid0 hb1; clear hC hb1)
    | (go_at_call 57; refine (stable_one _ _ _).mono ?_; rintro e w2 ⟨rfl, hw⟩; rw [hw]; clear hw w2)
    | fail)
  obtain ⟨W2, hW2⟩ : ∃ W2, W2 = w1.alloc (.cells #[.pointer none, .slice none 0 0] 104) := ⟨_, rfl⟩
  rw [← hW2]
  have hs1 := HB1.out.size
  simp only [World.size_alloc] at hs1
  have HBw1 : Hid (Below w.heap.size w w1) := hid0 ((HB0.out _).trans (HB1.out.mono (by simp)))
  have hC := HC.out
  rw [World.size_alloc] at hC
  have hlt1 := (Array.getElem?_eq_some_iff.1 hC).1
  have hC2 : W2.heap[w.heap.size + 1 + 1]? = some (.cells (#[.int .i64 65, .int .i64 90, .int .i64 0] ++ C) 72 (0, 0)) := by rw [hW2]; exact (Below.heap_alloc _ _ _ hlt1).trans hC
  have d0 : W2.cell? ⟨w.heap.size + 1 + 1, 0, none⟩ = some (.int .i64 65) := by rw [cell_of_row _ _ _ _ _ _ hC2]; exact (Array.getElem?_append_left (show 0 < 3 by omega)).trans rfl
  have d1 : W2.cell? ⟨w.heap.size + 1 + 1, 1, none⟩ = some (.int .i64 90) := by rw [cell_of_row _ _ _ _ _ _ hC2]; exact (Array.getElem?_append_left (show 1 < 3 by omega)).trans rfl
  have d2 : W2.cell? ⟨w.heap.size + 1 + 1, 2, none⟩ = some (.int .i64 0) := by rw [cell_of_row _ _ _ _ _ _ hC2]; exact (Array.getElem?_append_left (show 2 < 3 by omega)).trans rfl
  have hz2 : W2.heap.size = w1.heap.size + 1 := by rw [hW2]; simp
  have HS0 : Hid (Sf w (W2.alloc (.cells #[.int .i64 65, .int .i64 90, .int .i64 0] 72)) (some ⟨b1, o1, none⟩) c ca cc w.heap.size W2.heap.size w1.heap.size w1.heap.size []) := hid0 (by
    have hb : (W2.alloc (.cells #[.int .i64 65, .int .i64 90, .int .i64 0] 72)).heap[w1.heap.size]? = some (.cells #[.pointer none, .slice none 0 0] 104 (0, 0)) := (Below.heap_alloc _ _ _ (by omega)).trans (by rw [hW2]; exact heap_alloc_new w1 _)
    have hp : (W2.alloc (.cells #[.int .i64 65, .int .i64 90, .int .i64 0] 72)).heap[w.heap.size]? = some (.cells #[.slice (some ⟨b1, o1, none⟩) 1 ca, .slice c 1 cc] 25 (0, 0)) := (Below.heap_alloc _ _ _ (by omega)).trans (by rw [hW2]; exact (Below.heap_alloc _ _ _ (by omega)).trans ((HB1.out.block _ (by simp)).trans HP0.out))
    refine ⟨.inl ⟨Nat.le_refl _, _, hb, World.ownsRow_nil _ _ _ _, by simp [Value.ownBlock]⟩, hp, heap_alloc_new W2 _, ?_, by simp; omega, by omega, by omega, by omega⟩
    rw [hW2]
    exact (HBw1.out.alloc HBw1.out.size _).alloc (by have := HBw1.out.size; simp; omega) _)
  have HL : Hid (∀ n : Nat, n ≤ 1000 → n ≤ 140737488355328) := hid0 (fun n h => by omega)
  clear hC hlt1 hC2 hz2 HC HB1 hs1 hW2 HBw1 HB0 HP0 HCl
  refine wp_loop_rounds 2 ?_
  rw [rounds_succ]
  go_wp2_with (first
    | (go_at_call 61; refine (HX.out _ HS0.out.bel).mono ?_; rintro e u1 ⟨rfl, hb⟩; have HS1 := hid0 (HS0.out.later hb); clear hb HS0 HX d0 d1 d2; obtain ⟨x0, x1, x2, x3⟩ := HS1.out.cells; have xn := HN.out _ HS1.out.bel)
    | (go_at_call 61; refine (HY.out _ HS3.out.bel).mono ?_; rintro e u2 ⟨rfl, hb⟩; have HS4 := hid0 (HS3.out.later hb); clear hb HS3 HY; obtain ⟨x0, x1, x2, x3⟩ := HS4.out.cells; have xn := HN.out _ HS4.out.bel)
    | (go_at_call 60; refine (writeString_any _ _ _ ⟨#[48, 48, 52, 49]⟩ _ HS1.out.bl (HL.out _ (by decide)) HS1.out.sz).mono ?_; rintro e v1 ⟨rfl, h1, h2, h3⟩; have HS2 := hid0 (HS1.out.wrote h1 h2 h3); clear HS1 h1 h2 h3; obtain ⟨x0, x1, x2, x3⟩ := HS2.out.cells; have xn := HN.out _ HS2.out.bel)
    | (go_at_call 60; refine (writeString_any _ _ _ ⟨#[46, 46]⟩ _ HS2.out.bl (HL.out _ (by decide)) HS2.out.sz).mono ?_; rintro e v2 ⟨rfl, h1, h2, h3⟩; have HS3 := hid0 (HS2.out.wrote h1 h2 h3); clear HS2 h1 h2 h3; obtain ⟨x0, x1, x2, x3⟩ := HS3.out.cells; have xn := HN.out _ HS3.out.bel)
    | (go_at_call 60; refine (writeString_any _ _ _ ⟨#[48, 48, 53, 65]⟩ _ HS4.out.bl (HL.out _ (by decide)) HS4.out.sz).mono ?_; rintro e v4 ⟨rfl, h1, h2, h3⟩; have HS5 := hid0 (HS4.out.wrote h1 h2 h3); clear HS4 h1 h2 h3; obtain ⟨x0, x1, x2, x3⟩ := HS5.out.cells; have xn := HN.out _ HS5.out.bel)
    | (go_at_call 59; refine (writeByte_any _ _ _ 59 _ HS5.out.bl (HL.out _ (by decide)) HS5.out.sz).mono ?_; rintro e u3 ⟨rfl, h1, h2, h3⟩; have HS6 := hid0 (HS5.out.wrote h1 h2 h3); clear HS5 h1 h2 h3; obtain ⟨x0, x1, x2, x3⟩ := HS6.out.cells; have xn := HN.out _ HS6.out.bel)
    | (go_at_call 60; refine (writeString_any _ _ _ nmU _ HS6.out.bl (HL.out _ (by decide)) HS6.out.sz).mono ?_; rintro e v6 ⟨rfl, h1, h2, h3⟩; have HS7 := hid0 (HS6.out.wrote h1 h2 h3); clear HS6 h1 h2 h3; obtain ⟨x0, x1, x2, x3⟩ := HS7.out.cells; have xn := HN.out _ HS7.out.bel)
    | fail)
  rw [rounds_succ]
  have HStr := hid0 (fun W (h : Bl w1.heap.size w1.heap.size (Lib.byteCells [48, 48, 52, 49, 46, 46, 48, 48, 53, 65, 59, 85, 112, 112, 101, 114]) W) (hz : w1.heap.size ≤ W.heap.size) => Any.Builder_String_any_k Tryz.lays169 ext169 w1.heap.size w1.heap.size [48, 48, 52, 49, 46, 46, 48, 48, 53, 65, 59, 85, 112, 112, 101, 114] W (Lib.IsBuilderF.of h) hz)
  change Hid (∀ W, _ → _ → Calls Tryz.prog 62 _ _ _) at HStr
  go_wp2_with (go_at_call 62; refine (HStr.out _ HS7.out.bl HS7.out.sz).mono ?_; rintro e u4 ⟨rfl, _, hb, _⟩; have HB9 := hid0 (HS7.out.bel.trans (hb.mono HS7.out.lo)); clear hb)
  go_ret
  exact ⟨rfl, HB9.out⟩
set_option maxRecDepth 10000 in
set_option maxHeartbeats 800000 in
theorem print_one (a c : Option Addr) (ca cc : Nat) (w : World) (h : One w a c) (hT : TabAt 19 Lib.deBruijn64tab w) :
    Calls Tryz.prog 13 #[.agg #[.slice a 1 ca, .slice c 1 cc]] w fun e w' => e = .returned (.tuple #[.string ⟨#[48, 48, 52, 49, 46, 46, 48, 48, 53, 65, 59, 85, 112, 112, 101, 114]⟩, .nilIface]) ∧ Below w.heap.size w w' := by
  have H1 := hid0 (fun W (hb : Below w.heap.size w W) => check_one a c ca cc W (h.later hb))
  have H2 := hid0 (fun W (hb : Below w.heap.size w W) => shortFile_one a c ca cc W (h.later hb) (tab_later hT hb))
  have HB := hid0 (fun o : Obj => (Below.refl w.heap.size w).alloc (Nat.le_refl _) o)
  have HK := hid0 (heap_alloc_new w (.cells #[.slice a 1 ca, .slice c 1 cc] 25))
  clear h hT
  go_enter Tryz.func13, Tryz.ntmps13
  go_wp2_with (first
    | (go_at_call 14; refine (H1.out _ (HB.out _)).mono ?_; rintro e w1 ⟨rfl, hb1⟩; have k := (hb1.block w.heap.size (by simp)).trans HK.out; have x0 : w1.cell? ⟨w.heap.size, 0, none⟩ = some (.slice a 1 ca) := (by rw [cell_of_row _ _ _ _ _ _ k]; rfl); have x1 : w1.cell? ⟨w.heap.size, 1, none⟩ = some (.slice c 1 cc) := (by rw [cell_of_row _ _ _ _ _ _ k]; rfl); have HW1 := hid0 ((HB.out _).trans (hb1.mono (by simp))); clear hb1 k)
    | (go_at_call 37; refine (H2.out _ HW1.out).mono ?_; rintro e w2 ⟨rfl, hb2⟩; have HW2 := hid0 (HW1.out.trans (hb2.mono HW1.out.size)); clear hb2)
    | fail)
  go_ret2
  exact ⟨rfl, HW2.out⟩
/-- The known line. -/
def knownL : By := [48, 48, 52, 49, 46, 46, 48, 48, 53, 65, 32, 59, 32, 85, 112, 112, 101, 114, 32, 35, 32, 120]
theorem known_parse : parseL knownL = .ok ⟨[nmU], [((65 : Int), (90 : Int), (0 : Int))], [((65 : Int), (90 : Int), (0 : Int))]⟩ := by kernel_rfl
set_option maxRecDepth 10000 in
set_option maxHeartbeats 800000 in
theorem known_any (A : Nat → Addr) (w : World) (hE : Sents w A) (hT : TabAt 19 Lib.deBruijn64tab w) :
    Calls Tryz.prog 12 #[] w fun e w' => e = .returned (.bool true) ∧ Below w.heap.size w w' := by
  have hP := parse_any knownL (by decide) A w hE
  rw [known_parse] at hP
  have HP := hid0 hP
  have HPr := hid0 (fun a c ca cc W (h : One W a c) (hb : Below w.heap.size w W) => print_one a c ca cc W h (tab_later hT hb))
  clear hE hT hP
  go_enter Tryz.func12, Tryz.ntmps12
  go_wp2_with (first
    | (go_at_call 8; refine HP.out.mono ?_; rintro e w1 ⟨⟨vN, vS, rfl, hN, hS, _⟩, hb1⟩; obtain ⟨a, ca, rfl, ha⟩ := hN.sa; obtain ⟨c, cc, rfl, hc⟩ := hS.pa; have HO := hid0 (One.mk ha hc); have HB1 := hid0 hb1; have HK := hid0 (heap_alloc_new w1 (.cells #[.slice a 1 ca, .slice c 1 cc] 25)); clear hN hS ha hc hb1)
    | (go_at_call 13; refine (HPr.out a c ca cc _ (HO.out.later ((Below.refl _ _).alloc (Nat.le_refl _) _)) (HB1.out.alloc HB1.out.size _)).mono ?_; rintro e w2 ⟨rfl, hb2⟩; have k := (hb2.block w1.heap.size (by simp)).trans HK.out; have x1 : w2.cell? ⟨w1.heap.size, 1, none⟩ = some (.slice c 1 cc) := (by rw [cell_of_row _ _ _ _ _ _ k]; rfl); have HB2 := hid0 ((HB1.out.alloc HB1.out.size _).trans (hb2.mono (by have := HB1.out.size; simp; omega))); clear hb2 k)
    | fail)
  go_ret
  exact ⟨rfl, HB2.out⟩
end Go.Proofs.YtiiflacadndhcaaGreatDoor
namespace Go.Proofs.YtiiflacadndhcaaGreatDoor
open Go.RowKit Go.Shelf
structure Sents6 (w : World) (A : Nat → Addr) : Prop where
  c0 : w.cell? ⟨1, 0, none⟩ = some (.iface 236 (.pointer (some (A 0))))
  c1 : w.cell? ⟨2, 0, none⟩ = some (.iface 236 (.pointer (some (A 1))))
  c2 : w.cell? ⟨0, 0, none⟩ = some (.iface 236 (.pointer (some (A 2))))
  c4 : w.cell? ⟨4, 0, none⟩ = some (.iface 236 (.pointer (some (A 4))))
  c5 : w.cell? ⟨6, 0, none⟩ = some (.iface 236 (.pointer (some (A 5))))
  c6 : w.cell? ⟨5, 0, none⟩ = some (.iface 236 (.pointer (some (A 6))))
theorem Sents6.below {w w' : World} {A : Nat → Addr} (h : Sents6 w A) (hb : Below w.heap.size w w') : Sents6 w' A where
  c0 := (hb.cell (p := ⟨1, 0, none⟩) (World.block_lt_of_cell? w _ h.c0)).trans h.c0
  c1 := (hb.cell (p := ⟨2, 0, none⟩) (World.block_lt_of_cell? w _ h.c1)).trans h.c1
  c2 := (hb.cell (p := ⟨0, 0, none⟩) (World.block_lt_of_cell? w _ h.c2)).trans h.c2
  c4 := (hb.cell (p := ⟨4, 0, none⟩) (World.block_lt_of_cell? w _ h.c4)).trans h.c4
  c5 := (hb.cell (p := ⟨6, 0, none⟩) (World.block_lt_of_cell? w _ h.c5)).trans h.c5
  c6 := (hb.cell (p := ⟨5, 0, none⟩) (World.block_lt_of_cell? w _ h.c6)).trans h.c6
set_option maxRecDepth 10000 in
set_option maxHeartbeats 800000 in
theorem check6 (lo hi : Nat) (nm : By) (A : Nat → Addr) (w : World) (hE : Sents6 w A) :
    Calls Tryz.prog 47 #[claimVal (lo : Int) (hi : Int) (rd nm)] w fun e w' => e = .returned (errOf A (chkNo lo hi nm)) ∧ Below w.heap.size w w' := by
  have hb : ∀ o, Below w.heap.size w (w.alloc o) := fun o => (Below.refl _ _).alloc (Nat.le_refl _) o
  have g0 : ∀ o, (w.alloc o).cell? ⟨1, 0, none⟩ = some (.iface 236 (.pointer (some (A 0)))) := fun o => (hE.below (hb o)).c0
  have g6 : ∀ o, (w.alloc o).cell? ⟨5, 0, none⟩ = some (.iface 236 (.pointer (some (A 6)))) := fun o => (hE.below (hb o)).c6
  have HB := hid0 hb
  clear hb hE
  unfold claimVal
  by_cases h1 : 1114111 < lo
  · have HV : Hid (errOf A (chkNo lo hi nm) = .iface 236 (.pointer (some (A 0)))) := hid0 (by rw [chkNo, if_pos (.inl h1)]; rfl)
    have h1I : (1114111 : Int) < (lo : Int) := by omega
    go_enter Tryz.func47, Tryz.ntmps47
    go_wp2
    go_ret
    exact ⟨by rw [HV.out]; rfl, HB.out _⟩
  · have h1I : ¬ (1114111 : Int) < (lo : Int) := by omega
    by_cases h2 : 1114111 < hi
    · have HV : Hid (errOf A (chkNo lo hi nm) = .iface 236 (.pointer (some (A 0)))) := hid0 (by rw [chkNo, if_pos (.inr (.inl h2))]; rfl)
      have h2I : (1114111 : Int) < (hi : Int) := by omega
      go_enter Tryz.func47, Tryz.ntmps47
      go_wp2
      go_ret
      exact ⟨by rw [HV.out]; rfl, HB.out _⟩
    · have h2I : ¬ (1114111 : Int) < (hi : Int) := by omega
      by_cases h3 : nm = otherL
      · have HV : Hid (errOf A (chkNo lo hi nm) = .iface 236 (.pointer (some (A 0)))) := hid0 (by rw [chkNo, if_pos (.inr (.inr h3))]; rfl)
        subst h3
        unfold otherL at HV ⊢
        go_enter Tryz.func47, Tryz.ntmps47
        go_wp2
        go_ret
        exact ⟨by rw [HV.out]; rfl, HB.out _⟩
      · have hne : ((rd nm).toList == [79, 116, 104, 101, 114]) = false := by
          have h5 := rd_ne _ _ h3
          rw [show (rd otherL).toList = [79, 116, 104, 101, 114] by rw [ByteArray.toList_eq]; rfl] at h5
          exact h5
        by_cases h4 : hi < lo
        · have HV : Hid (errOf A (chkNo lo hi nm) = .iface 236 (.pointer (some (A 6)))) := hid0 (by rw [chkNo, if_neg (by rintro (h | h | h) <;> contradiction), if_pos h4]; rfl)
          have h4I : (hi : Int) < (lo : Int) := by omega
          clear h3
          generalize rd nm = s at hne ⊢
          go_enter Tryz.func47, Tryz.ntmps47
          go_wp2
          go_ret
          exact ⟨by rw [HV.out]; rfl, HB.out _⟩
        · have HV : Hid (errOf A (chkNo lo hi nm) = .nilIface) := hid0 (by rw [chkNo, if_neg (by rintro (h | h | h) <;> contradiction), if_neg h4]; rfl)
          have h4I : ¬ (hi : Int) < (lo : Int) := by omega
          clear h3
          generalize rd nm = s at hne ⊢
          go_enter Tryz.func47, Tryz.ntmps47
          go_wp2
          go_ret
          exact ⟨by rw [HV.out]; rfl, HB.out _⟩
set_option maxRecDepth 10000 in
set_option maxHeartbeats 800000 in
theorem take6 (st : PS) (line : By) (hl : line.length ≤ 4194400) (base R G N cap : Nat) (A : Nat → Addr) (w : World) (h : RSt w base R G N cap st) (hE : Sents6 w A) (hg2 : 0 < base) (hg4 : 4 < base)
    (hbs : base ≤ w.heap.size) (hN2 : 1114111 < 64 * N) (hN : N ≤ 1000000) :
    Calls Tryz.prog 26 #[.pointer (some ⟨R, 0, none⟩), .string (rd line)] w fun e w' => ∃ v, e = .returned v ∧ Frm base R G w w' ∧ LineOut A (lineStep st (bareOf line)) v (RSt w' base R G N cap) := by
  have hbl := bare_len line
  have HCut : Hid (∀ W, Calls Tryz.prog 43 #[.string (rd line), .string ⟨#[35]⟩] W fun e w' => e = .returned (.tuple #[.string (rd (aheadOf 35 line)), .string (rd (behindOf 35 line)), .bool (decide ((35 : UInt8) ∈ line))]) ∧ ∃ n, w' = W.drewN n) := hid0 (fun W => cut_any (rd line) 35 (by simpa [ByteArray.size] using hl) W)
  have HTr : Hid (∀ W, Calls Tryz.prog 45 #[.string (rd (aheadOf 35 line)), .string ⟨#[32, 9]⟩] W fun e w' => e = .returned (.string (rd (bareOf line))) ∧ Below W.heap.size W w') := hid0 (fun W => trim_any (rd (aheadOf 35 line)) (by
    have : (aheadOf 35 line).length ≤ line.length := (List.takeWhile_sublist _).length_le
    simp [ByteArray.size]; omega) W)
  obtain ⟨b, hb⟩ : ∃ b, b = bareOf line := ⟨_, rfl⟩
  rw [← hb] at HTr hbl ⊢
  clear hb
  generalize rd (aheadOf 35 line) = t1 at HCut HTr
  generalize rd (behindOf 35 line) = t2 at HCut
  generalize decide ((35 : UInt8) ∈ line) = t3 at HCut
  generalize rd line = tl at HCut ⊢
  have H0 := hid0 h
  have HE := hid0 hE
  have hbl2 : b.length ≤ 4194400 := by omega
  clear h hE hl hbl
  by_cases hb0 : b = []
  · subst hb0
    have HL : Hid (lineStep st [] = .go st) := hid0 rfl
    generalize lineStep st [] = r at HL ⊢
    go_enter Tryz.func26, Tryz.ntmps26
    go_wp2_with (first
      | (go_at_call 43; refine (HCut.out _).mono ?_; rintro e w1 ⟨rfl, n1, rfl⟩)
      | (go_at_call 45; refine (HTr.out _).mono ?_; rintro e w2 ⟨rfl, hb2⟩; have HB2 := hid0 hb2; clear hb2)
      | fail)
    go_ret
    have hB := (drewN_below w n1).trans HB2.out
    exact ⟨_, rfl, Frm.ofBelow hB, by rw [HL.out]; exact ⟨rfl, H0.out.later hB⟩⟩
  · have hemp : (rd b).toList.isEmpty = false := by
      rw [← decide_eq_emptyBytes]
      exact decide_eq_false (fun h => hb0 (by have := congrArg (fun x : ByteArray => x.data.toList) h; simpa using this))
    have HRc := hid0 (fun W (hW : Sents6 W A) => readClaim_any b hbl2 (A 1) W hW.c1)
    have HSm := hid0 (fun lo hi nm (h : saidL b = some (lo, hi, nm)) => said_nm h)
    have hls : lineStep st b = match saidL b with
      | none => .stop 1
      | some (lo, hi, nm) => match chkNo lo hi nm with
        | some i => .stop i
        | none => addStep st lo hi (rd nm) := by rw [lineStep, if_neg hb0]; rfl
    have HOk := hid0 (fun s' (h : lineStep st b = .go s') => H0.out.ok.step h)
    rw [hls] at HOk ⊢
    clear hls hb0
    generalize rd b = tb at HTr HRc hemp
    cases hsd : saidL b with
    | none =>
      rw [hsd] at HRc
      simp only
      clear HSm HOk hsd
      unfold claimOut claimVal at HRc
      go_enter Tryz.func26, Tryz.ntmps26
      go_wp2_with (first
        | (go_at_call 43; refine (HCut.out _).mono ?_; rintro e w1 ⟨rfl, n1, rfl⟩)
        | (go_at_call 45; refine (HTr.out _).mono ?_; rintro e w2 ⟨rfl, hb2⟩; have HB2 := hid0 ((drewN_below w n1).trans hb2); clear hb2)
        | (go_at_call 46; refine (HRc.out _ (HE.out.below HB2.out)).mono ?_; rintro e w3 ⟨rfl, hb3⟩; have HB3 := hid0 (HB2.out.trans (hb3.mono HB2.out.size)); clear hb3)
        | fail)
      go_ret
      exact ⟨_, rfl, Frm.ofBelow (HB3.out.alloc HB3.out.size _), rfl⟩
    | some x =>
      obtain ⟨lo, hi, nm⟩ := x
      have hnm := HSm.out lo hi nm hsd
      rw [hsd] at HRc HOk
      simp only at HOk ⊢
      clear HSm hsd
      unfold claimOut claimVal at HRc
      have HCk := hid0 (fun W (hW : Sents6 W A) => check6 lo hi nm A W hW)
      unfold claimVal at HCk
      have W0 : ∀ w3 : World, (w3.alloc (.cells #[.int .i64 (lo : Int), .int .i64 (hi : Int), .string (rd nm)] 88)).heap[w3.heap.size]? = some (.cells #[.int .i64 (lo : Int), .int .i64 (hi : Int), .string (rd nm)] 88 (0, 0)) := fun w3 => heap_alloc_new w3 _
      have HW0 := hid0 W0
      clear W0
      cases hck : chkNo lo hi nm with
      | some i =>
        rw [hck] at HCk
        simp only
        unfold errOf errAt at HCk
        clear HOk hck hnm
        go_enter Tryz.func26, Tryz.ntmps26
        go_wp2_with (first
          | (go_at_call 43; refine (HCut.out _).mono ?_; rintro e w1 ⟨rfl, n1, rfl⟩)
          | (go_at_call 45; refine (HTr.out _).mono ?_; rintro e w2 ⟨rfl, hb2⟩; have HB2 := hid0 ((drewN_below w n1).trans hb2); clear hb2)
          | (go_at_call 46; refine (HRc.out _ (HE.out.below HB2.out)).mono ?_; rintro e w3 ⟨rfl, hb3⟩; have HB3 := hid0 (HB2.out.trans (hb3.mono HB2.out.size)); clear hb3)
          | (go_at_call 47; refine (HCk.out _ (HE.out.below (HB3.out.alloc HB3.out.size _))).mono ?_; rintro e w4 ⟨rfl, hb4⟩; have HB4 := hid0 ((HB3.out.alloc HB3.out.size _).trans (hb4.mono (by have := HB3.out.size; simp; omega))); clear hb4)
          | fail)
        go_ret
        exact ⟨_, rfl, Frm.ofBelow HB4.out, rfl⟩
      | none =>
        rw [hck] at HCk HOk
        simp only at HOk ⊢
        unfold errOf at HCk
        have hlh := chk_ok hck
        have HAd := hid0 (fun W (hb : Below w.heap.size w W) => add_any st lo hi (rd nm) base R G N cap A W (H0.out.later hb) (HE.out.below hb).c2 (HE.out.below hb).c4 hg2 hg4 (Nat.le_trans hbs hb.size) (by simp [ByteArray.size]; omega) hlh.1 (by omega) hN HOk.out)
        clear hck hnm HOk hlh
        go_enter Tryz.func26, Tryz.ntmps26
        go_wp2_with (first
          | (go_at_call 43; refine (HCut.out _).mono ?_; rintro e w1 ⟨rfl, n1, rfl⟩)
          | (go_at_call 45; refine (HTr.out _).mono ?_; rintro e w2 ⟨rfl, hb2⟩; have HB2 := hid0 ((drewN_below w n1).trans hb2); clear hb2)
          | (go_at_call 46; refine (HRc.out _ (HE.out.below HB2.out)).mono ?_; rintro e w3 ⟨rfl, hb3⟩; have HB3 := hid0 (HB2.out.trans (hb3.mono HB2.out.size)); clear hb3)
          | (go_at_call 47; refine (HCk.out _ (HE.out.below (HB3.out.alloc HB3.out.size _))).mono ?_; rintro e w4 ⟨rfl, hb4⟩; have hk4 := (hb4.block w3.heap.size (by simp)).trans (HW0.out w3); have k0 : w4.cell? ⟨w3.heap.size, 0, none⟩ = some (.int .i64 (lo : Int)) := (by rw [cell_of_row _ _ _ _ _ _ hk4]; rfl); have k1 : w4.cell? ⟨w3.heap.size, 1, none⟩ = some (.int .i64 (hi : Int)) := (by rw [cell_of_row _ _ _ _ _ _ hk4]; rfl); have k2 : w4.cell? ⟨w3.heap.size, 2, none⟩ = some (.string (rd nm)) := (by rw [cell_of_row _ _ _ _ _ _ hk4]; rfl); have HB4 := hid0 ((HB3.out.alloc HB3.out.size _).trans (hb4.mono (by have := HB3.out.size; simp; omega))); clear hb4 hk4)
          | (go_at_call 48; refine (HAd.out _ HB4.out).mono ?_; rintro e w5 ⟨v5, rfl, hf5, ho5⟩; have HF5 := hid0 hf5; have HO5 := hid0 ho5; clear hf5 ho5)
          | fail)
        go_ret
        exact ⟨_, rfl, (Frm.ofBelow HB4.out).trans HF5.out, HO5.out⟩
section
attribute [local go_sem] Oper.semAt_some
set_option maxRecDepth 100000 in
set_option maxHeartbeats 2000000 in
theorem parse6 (s : By) (hs : s.length ≤ 1048576) (A : Nat → Addr) (w : World) (hE : Sents6 w A) :
    Calls Tryz.prog 8 #[.string (rd s)] w fun e w' => GoParse A w w' (parseL s) e ∧ Below w.heap.size w w' := by
  obtain ⟨i0, hi, hz0, hz1, hz2⟩ := info_parts infoU64
  have hsI : ¬ (1048576 : Int) < ((rd s).size : Int) := by simp [ByteArray.size]; omega
  have hg2 : 0 < w.heap.size := World.block_lt_of_cell? w _ hE.c2
  have hg4 : 4 < w.heap.size := World.block_lt_of_cell? w _ hE.c4
  have HE := hid0 hE
  obtain ⟨t, ht⟩ : ∃ t, t = rd s := ⟨_, rfl⟩
  rw [← ht] at hsI ⊢
  have HT := hid0 ht
  have HS := hid0 hs
  clear hE ht hs
  refine (callsIn_wide (n := 8)).1 ?_
  refine callsIn_of_wp_marks Tryz.func8 rfl trivial ?_ rfl
  simp only [Tryz.ntmps8, List.size_toArray, List.length_cons, List.length_nil, Nat.reduceAdd, Nat.reduceSub, Array.replicate_succ, Array.replicate_zero, List.push_toArray, List.append_toArray, List.nil_append, List.cons_append]
  gi_wp2_with (first
    | (gi_at_make; refine wpListIn_make_rowN _ rfl _ _ 55 rfl 151 i0 (.int .u64 0) Tryz.underlying55 hi hz0 hz1 rfl .i64 .i64 17408 17408 rfl rfl rfl (by rw [hz2]; omega) (by omega) ?_; intro N o5 hN ho5; have HN := hid0 hN; have HO5 := hid0 ho5; clear hN ho5)
    | (refine ⟨trivial, ?_⟩; gi_at_call 25; refine (lines_in' _ t _).mono ?_; rintro e w' ⟨rfl, rfl⟩)
    | fail)
  obtain ⟨W5, hW5⟩ : ∃ W5, W5 = ((((((w.alloc (.cells #[.slice none 0 0, .slice none 0 0] 25)).alloc (.cells #[.int .i64 0] 3)).alloc (.cells #[.nilIface] 27)).alloc o5).alloc (.cells #[.int .i64 0, .slice none 0 0, .slice none 0 0, .slice (some ⟨w.heap.size + 1 + 1 + 1, 0, none⟩) N N] 58)).alloc (.cells #[.string t] 9)) := ⟨_, rfl⟩
  obtain ⟨b0, b1, b2, b3, b4, b5, bs, bb⟩ := six w _ _ _ _ _ _ W5 hW5
  rw [← hW5]
  have hN := HN.out
  have HR0 := hid0 (rst_start W5 w.heap.size N hN (b3.trans (by rw [HO5.out])) b4)
  have HB5 := hid0 bb
  rw [HT.out] at b5
  have hsz : w.heap.size + 6 ≤ W5.heap.size := by omega
  have HB0 := hid0 b0
  have HB1 := hid0 b1
  have HB2 := hid0 b2
  have hN2 : 1114111 < 64 * N := by omega
  have hN3 : N ≤ 1000000 := by omega
  clear hW5 b0 b1 b2 b3 b4 bb bs hN HN HO5
  refine wpIn_rangeFunc_ownH rfl (by omega) (gf := 42) (lb := #[.pointer (some ⟨w.heap.size + 1 + 1 + 1 + 1 + 1, 0, none⟩)]) rfl trivial (enters_of Tryz.func42 (by kernel_rfl) rfl)
    (lines_stops 7 (by omega) (w.heap.size + 1 + 1 + 1 + 1 + 1) s HS.out W5 b5) (fun _ _ => trivial) (fun _ _ _ _ _ _ _ _ => trivial) (Below.refl _ _) (fun _ => rfl)
    (ParI W5 (w.heap.size + 5) (w.heap.size + 1 + 1 + 1 + 1) (w.heap.size + 1 + 1 + 1) N) (ParX A w)
    (parI_own _ _ _ _ _ _ (by omega)) (fun c => parX_own A w c _ (by omega)) ⟨ps0, rfl, HR0.out, Only.refl _ _⟩
    (fun x a' _ => a' = { tmps := #[.string t, undef, .pointer (some ⟨w.heap.size, 0, none⟩), .pointer (some ⟨w.heap.size + 1, 0, none⟩), .pointer (some ⟨w.heap.size + 1 + 1, 0, none⟩), .pointer (some ⟨w.heap.size + 1 + 1 + 1 + 1, 0, none⟩), .int .i64 (x.num : Int), .string (rd x.body), undef, .string t, .int .i64 (t.size : Int), .bool false, undef, undef, .slice (some ⟨w.heap.size + 1 + 1 + 1, 0, none⟩) N N, .agg #[.int .i64 0, .slice none 0 0, .slice none 0 0, .slice (some ⟨w.heap.size + 1 + 1 + 1, 0, none⟩) N N], .string t, .func (.func 42) #[] #[.pointer (some ⟨w.heap.size + 1 + 1 + 1 + 1 + 1, 0, none⟩)], .int .i64 (x.num : Int), .string (rd x.body), undef, undef, undef, undef, undef, undef, undef, undef], defers := [] })
    (fun x a' _ _ _ _ h _ _ => h) ?assign ?body ?done ?stop
  case assign =>
    rintro l pre x W K hI hK
    gi_wp2
    exact hK _ _ (KeepsFrom.refl _ _) trivial hI rfl
  case body =>
    rintro l pre x a' W hl ⟨r, hr⟩ ⟨st, hf, hrs, hon⟩ rfl hlt
    have hBW : Below w.heap.size w W := HB5.out.trans ((hon.below (B := w.heap.size + 3) (by omega) (rest_lt _)).mono (by omega))
    have hTk := take6 st x.body (Nat.le_trans x.short (by omega)) (w.heap.size + 5) (w.heap.size + 1 + 1 + 1 + 1) (w.heap.size + 1 + 1 + 1) N N A W hrs (HE.out.below hBW) (by omega) (by omega) (by have := hon.size; omega) hN2 hN3
    have hb0 : W.heap[w.heap.size]? = some (.cells #[.slice none 0 0, .slice none 0 0] 25 (0, 0)) := (hon.block _ (by omega) (fun h => by have := rest_lt _ _ h; omega)).trans HB0.out
    have hb1 : W.heap[w.heap.size + 1]? = some (.cells #[.int .i64 0] 3 (0, 0)) := (hon.block _ (by omega) (fun h => by have := rest_lt _ _ h; omega)).trans HB1.out
    have hb2 : W.heap[w.heap.size + 1 + 1]? = some (.cells #[.nilIface] 27 (0, 0)) := (hon.block _ (by omega) (fun h => by have := rest_lt _ _ h; omega)).trans HB2.out
    have HF := hid0 hf
    have HOn := hid0 hon
    have HBW := hid0 hBW
    cases hls : lineStep st (bareOf x.body) with
    | go s' =>
      rw [hls] at hTk
      have HLs := hid0 hls
      have HTk := hid0 hTk
      clear hTk hb0 hb1 hb2 hf hon hrs hls hBW hr
      gi_wp2_with (first
        | (refine ⟨trivial, ?_⟩; gi_at_call 26; refine (callsIn_wide.2 HTk.out).mono ?_; rintro e w1 ⟨v, rfl, hf1, rfl, hr1⟩; have HF1 := hid0 hf1; have HR1 := hid0 hr1; clear hf1 hr1)
        | fail)
      exact ⟨HF1.out.others.from _, trivial, s', by rw [List.map_append]; exact foldL_snoc _ _ _ _ HF.out HLs.out, HR1.out, HOn.out.frm HF1.out⟩
    | stop i =>
      rw [hls] at hTk
      have HLs := hid0 hls
      have HTk : Hid (Calls Tryz.prog 26 #[.pointer (some ⟨w.heap.size + 1 + 1 + 1 + 1, 0, none⟩), .string (rd x.body)] W fun e w' => e = .returned (errAt A i) ∧ Frm (w.heap.size + 5) (w.heap.size + 1 + 1 + 1 + 1) (w.heap.size + 1 + 1 + 1) W w') := hid0 (hTk.mono (by rintro e w' ⟨v, rfl, h1, rfl⟩; exact ⟨rfl, h1⟩))
      unfold errAt at HTk
      have HK0 : Hid (∀ w1, Frm (w.heap.size + 5) (w.heap.size + 1 + 1 + 1 + 1) (w.heap.size + 1 + 1 + 1) W w1 → w1.heap[w.heap.size]? = some (.cells #[.slice none 0 0, .slice none 0 0] 25 (0, 0)) ∧ w1.heap[w.heap.size + 1]? = some (.cells #[.int .i64 0] 3 (0, 0)) ∧ w1.heap[w.heap.size + 1 + 1]? = some (.cells #[.nilIface] 27 (0, 0))) := hid0 (fun w1 h => ⟨(h.kept _ (by omega) (Array.getElem?_eq_some_iff.1 hb0).1 (by omega) (by omega)).trans hb0, (h.kept _ (by omega) (Array.getElem?_eq_some_iff.1 hb1).1 (by omega) (by omega)).trans hb1, (h.kept _ (by omega) (Array.getElem?_eq_some_iff.1 hb2).1 (by omega) (by omega)).trans hb2⟩)
      have hWl := HBW.out.size
      clear hTk hb0 hb1 hb2 hf hon hrs hls hBW hr
      gi_wp2_with (first
        | (refine ⟨trivial, ?_⟩; gi_at_call 26; refine (callsIn_wide.2 HTk.out).mono ?_; rintro e w1 ⟨rfl, hf1⟩; obtain ⟨k0, k1, k2⟩ := HK0.out w1 hf1; have x0 : w1.cell? ⟨w.heap.size, 0, none⟩ = some (.slice none 0 0) := (by rw [cell_of_row _ _ _ _ _ _ k0]; rfl); have x1 : w1.cell? ⟨w.heap.size, 1, none⟩ = some (.slice none 0 0) := (by rw [cell_of_row _ _ _ _ _ _ k0]; rfl); have x2 : w1.cell? ⟨w.heap.size + 1, 0, none⟩ = some (.int .i64 0) := (by rw [cell_of_row _ _ _ _ _ _ k1]; rfl); have x3 : w1.cell? ⟨w.heap.size + 1 + 1, 0, none⟩ = some .nilIface := (by rw [cell_of_row _ _ _ _ _ _ k2]; rfl); have y0 : ∀ j, w1.frozen? ⟨w.heap.size, j, none⟩ = false := (fun j => frozen_of_row _ _ _ _ _ k0); have y1 : ∀ j, w1.frozen? ⟨w.heap.size + 1, j, none⟩ = false := (fun j => frozen_of_row _ _ _ _ _ k1); have y2 : ∀ j, w1.frozen? ⟨w.heap.size + 1 + 1, j, none⟩ = false := (fun j => frozen_of_row _ _ _ _ _ k2); have HK1 := hid0 k0; have HK2 := hid0 k1; have HK3 := hid0 k2; have HF1 := hid0 hf1; clear hf1 k0 k1 k2)
        | fail)
      obtain ⟨r0, r1, r2, _, r4, r5⟩ := four_set w1 w.heap.size _ _ _ _ (.slice none 0 0) (.slice none 0 0) (.int .i64 (x.num : Int)) (.iface 236 (.pointer (some (A i)))) _ _ _ HK1.out HK2.out HK3.out _ rfl
      exact ⟨(HF1.out.others.trans r4).from _, rfl, pre, x, i, st, rfl, HF.out, HLs.out, r0, r1, r2, r5 _ _ (Nat.le_refl _) (HBW.out.trans (HF1.out.below (by omega) (by omega) (by omega) hWl))⟩
  case done =>
    rintro D ys W hD hS ⟨st, hf, hrs, hon⟩ hK
    have hBW : Below w.heap.size w W := HB5.out.trans ((hon.below (B := w.heap.size + 3) (by omega) (rest_lt _)).mono (by omega))
    have HPr : Hid (parseL s = .ok st) := hid0 (all_fold s ys hS st hf)
    have hb0 : W.heap[w.heap.size]? = some (.cells #[.slice none 0 0, .slice none 0 0] 25 (0, 0)) := (hon.block _ (by omega) (fun h => by have := rest_lt _ _ h; omega)).trans HB0.out
    have hb1 : W.heap[w.heap.size + 1]? = some (.cells #[.int .i64 0] 3 (0, 0)) := (hon.block _ (by omega) (fun h => by have := rest_lt _ _ h; omega)).trans HB1.out
    have hb2 : W.heap[w.heap.size + 1 + 1]? = some (.cells #[.nilIface] 27 (0, 0)) := (hon.block _ (by omega) (fun h => by have := rest_lt _ _ h; omega)).trans HB2.out
    have HPy := hid0 (property_any st _ _ _ _ _ A W hrs (HE.out.below hBW).c0)
    have HOk := hid0 hrs.ok
    have HBW := hid0 hBW
    have HKD := hid0 hK
    have HBs := hid0 (And.intro hb0 (And.intro hb1 hb2))
    have hWl := hBW.size
    have hDn : w.heap.size + 6 ≤ D := by omega
    have hWl6 : w.heap.size + 6 ≤ W.heap.size := Nat.le_trans hsz hon.size
    clear hb0 hb1 hb2 hf hS hon hrs hBW hK
    gi_wp2_with (first
      | (refine ⟨trivial, ?_⟩; gi_at_call 27; refine (callsIn_wide.2 HPy.out).mono ?_; rintro e w1 ⟨vN, vS, rfl, hn1, hs1, hb1⟩; obtain ⟨aN, cN, rfl, _⟩ := hn1.sa; obtain ⟨aS, cS, rfl, _⟩ := hs1.pa; have k0 := (hb1.block _ (Array.getElem?_eq_some_iff.1 HBs.out.1).1).trans HBs.out.1; have k1 := (hb1.block _ (Array.getElem?_eq_some_iff.1 HBs.out.2.1).1).trans HBs.out.2.1; have k2 := (hb1.block _ (Array.getElem?_eq_some_iff.1 HBs.out.2.2).1).trans HBs.out.2.2; have x0 : w1.cell? ⟨w.heap.size, 0, none⟩ = some (.slice none 0 0) := (by rw [cell_of_row _ _ _ _ _ _ k0]; rfl); have x1 : w1.cell? ⟨w.heap.size, 1, none⟩ = some (.slice none 0 0) := (by rw [cell_of_row _ _ _ _ _ _ k0]; rfl); have x2 : w1.cell? ⟨w.heap.size + 1, 0, none⟩ = some (.int .i64 0) := (by rw [cell_of_row _ _ _ _ _ _ k1]; rfl); have x3 : w1.cell? ⟨w.heap.size + 1 + 1, 0, none⟩ = some .nilIface := (by rw [cell_of_row _ _ _ _ _ _ k2]; rfl); have y0 : ∀ j, w1.frozen? ⟨w.heap.size, j, none⟩ = false := (fun j => frozen_of_row _ _ _ _ _ k0); have y1 : ∀ j, w1.frozen? ⟨w.heap.size + 1, j, none⟩ = false := (fun j => frozen_of_row _ _ _ _ _ k1); have y2 : ∀ j, w1.frozen? ⟨w.heap.size + 1 + 1, j, none⟩ = false := (fun j => frozen_of_row _ _ _ _ _ k2); have HK1 := hid0 k0; have HK2 := hid0 k1; have HK3 := hid0 k2; have HN1 := hid0 hn1; have HS1 := hid0 hs1; have HB1' := hid0 hb1; clear hn1 hs1 hb1 k0 k1 k2)
      | fail)
    obtain ⟨r0, r1, r2, r3, _, r5⟩ := four_set w1 w.heap.size _ _ _ _ (.slice aN st.names.length cN) (.slice aS (joinL st.sp).length cS) (.int .i64 0) .nilIface _ _ _ HK1.out HK2.out HK3.out _ rfl
    generalize (((w1.setCell ⟨w.heap.size, 0, none⟩ (.slice aN st.names.length cN)).setCell ⟨w.heap.size, 1, none⟩ (.slice aS (joinL st.sp).length cS)).setCell ⟨w.heap.size + 1, 0, none⟩ (.int .i64 0)).setCell ⟨w.heap.size + 1 + 1, 0, none⟩ .nilIface = W6 at r0 r1 r2 r3 r5 ⊢
    have hK' : W6.heap[D]? = some (.deferred (some [])) := (r3 D (by omega) (by omega) (by omega)).trans ((HB1'.out.block D (Array.getElem?_eq_some_iff.1 HKD.out).1).trans HKD.out)
    refine ⟨by simp, .inl ⟨_, _, rfl, run_takeDeferred hK', ?_⟩⟩
    have hck := ckp_own (grownBy_putObj' W6 D (.deferred none)) (fun r e => by cases e; exact ⟨_, hK', rfl⟩)
    have k0 := hck _ _ _ _ r0
    have k1 := hck _ _ _ _ r1
    have k2 := hck _ _ _ _ r2
    have z0 : (W6.putObj D (.deferred none)).cell? ⟨w.heap.size, 0, none⟩ = some (.slice aN st.names.length cN) := by rw [cell_of_row _ _ _ _ _ _ k0]; rfl
    have z1 : (W6.putObj D (.deferred none)).cell? ⟨w.heap.size, 1, none⟩ = some (.slice aS (joinL st.sp).length cS) := by rw [cell_of_row _ _ _ _ _ _ k0]; rfl
    have z2 : (W6.putObj D (.deferred none)).cell? ⟨w.heap.size + 1, 0, none⟩ = some (.int .i64 0) := by rw [cell_of_row _ _ _ _ _ _ k1]; rfl
    have z3 : (W6.putObj D (.deferred none)).cell? ⟨w.heap.size + 1 + 1, 0, none⟩ = some .nilIface := by rw [cell_of_row _ _ _ _ _ _ k2]; rfl
    refine ⟨.tuple #[.agg #[.slice aN st.names.length cN, .slice aS (joinL st.sp).length cS], .int .i64 0, .nilIface], by simp [results, Tryz.results8, go_sem, z0, z1, z2, z3]; try rfl, ?_, ?_⟩
    · rw [HPr.out]
      have hoN : OwnS (W6.putObj D (.deferred none)) (w.heap.size + 5) (.slice aN st.names.length cN) st.names := row_ck (row_keep HN1.out (fun i hi _ => r3 i (by omega) (by omega) (by omega))) hck
      have hoS : OwnP (W6.putObj D (.deferred none)) W.heap.size (.slice aS (joinL st.sp).length cS) (joinL st.sp) := row_ck (row_keep HS1.out (fun i hi _ => r3 i (by omega) (by omega) (by omega))) hck
      exact ⟨_, _, rfl, hoN.base (by omega), hoS.base hWl, HOk.out⟩
    · exact (r5 _ _ (Nat.le_refl _) (HBW.out.trans (HB1'.out.mono hWl))).trans (belowK_b (w := w) (Nat.le_refl _) W6 D _ _ (by omega) hK' rfl rfl)
  case stop =>
    rintro D c pre W hD hsp ⟨rfl, p, x, i, st, rfl, hf, hls, h0, h1, h2, hB⟩ hK
    gi_wp2
    refine ⟨by simp, .inl ⟨_, _, rfl, run_takeDeferred hK, ?_⟩⟩
    have hck := ckp_own (grownBy_putObj' W D (.deferred none)) (fun r e => by cases e; exact ⟨_, hK, rfl⟩)
    have k0 := hck _ _ _ _ h0
    have k1 := hck _ _ _ _ h1
    have k2 := hck _ _ _ _ h2
    have x0 : (W.putObj D (.deferred none)).cell? ⟨w.heap.size, 0, none⟩ = some (.slice none 0 0) := by rw [cell_of_row _ _ _ _ _ _ k0]; rfl
    have x1 : (W.putObj D (.deferred none)).cell? ⟨w.heap.size, 1, none⟩ = some (.slice none 0 0) := by rw [cell_of_row _ _ _ _ _ _ k0]; rfl
    have x2 : (W.putObj D (.deferred none)).cell? ⟨w.heap.size + 1, 0, none⟩ = some (.int .i64 (x.num : Int)) := by rw [cell_of_row _ _ _ _ _ _ k1]; rfl
    have x3 : (W.putObj D (.deferred none)).cell? ⟨w.heap.size + 1 + 1, 0, none⟩ = some (errAt A i) := by rw [cell_of_row _ _ _ _ _ _ k2]; rfl
    refine ⟨.tuple #[.agg #[.slice none 0 0, .slice none 0 0], .int .i64 (x.num : Int), errAt A i], by simp [results, Tryz.results8, go_sem, x0, x1, x2, x3]; try rfl, ?_, ?_⟩
    · rw [stop_fold s p x hsp st hf i hls]; rfl
    · exact hB.trans (belowK_b (w := w) (Nat.le_refl _) W D _ _ (by omega) hK rfl rfl)
end
set_option maxRecDepth 10000 in
set_option maxHeartbeats 400000 in
theorem parse_long6 (s : ByteArray) (hs : 1048576 < s.size) (A : Nat → Addr) (w : World) (hE : Sents6 w A) :
    Calls Tryz.prog 8 #[.string s] w fun e w' => e = .returned (.tuple #[.agg #[.slice none 0 0, .slice none 0 0], .int .i64 0, errAt A 2]) ∧ Below w.heap.size w w' := by
  have hsI : (1048576 : Int) < (s.size : Int) := by omega
  have c2 := hE.c2
  have hg2 : 0 < w.heap.size := World.block_lt_of_cell? w _ hE.c2
  clear hE
  go_enter Tryz.func8, Tryz.ntmps8
  go_wp2
  have n0 := heap_alloc_new w (.cells #[.slice none 0 0, .slice none 0 0] 25)
  have n1 := heap_alloc_new (w.alloc (.cells #[.slice none 0 0, .slice none 0 0] 25)) (.cells #[.int .i64 0] 3)
  have n2 := heap_alloc_new ((w.alloc (.cells #[.slice none 0 0, .slice none 0 0] 25)).alloc (.cells #[.int .i64 0] 3)) (.cells #[.nilIface] 27)
  simp only [World.size_alloc] at n1 n2
  have k0 : (((w.alloc (.cells #[.slice none 0 0, .slice none 0 0] 25)).alloc (.cells #[.int .i64 0] 3)).alloc (.cells #[.nilIface] 27)).heap[w.heap.size]? = some (.cells #[.slice none 0 0, .slice none 0 0] 25 (0, 0)) := by
    rw [Below.heap_alloc _ _ _ (by simp only [World.size_alloc]; omega), Below.heap_alloc _ _ _ (by simp only [World.size_alloc]; omega)]; exact n0
  have k1 : (((w.alloc (.cells #[.slice none 0 0, .slice none 0 0] 25)).alloc (.cells #[.int .i64 0] 3)).alloc (.cells #[.nilIface] 27)).heap[w.heap.size + 1]? = some (.cells #[.int .i64 0] 3 (0, 0)) := by
    rw [Below.heap_alloc _ _ _ (by simp only [World.size_alloc]; omega)]; exact n1
  have hB3 : Below w.heap.size w (((w.alloc (.cells #[.slice none 0 0, .slice none 0 0] 25)).alloc (.cells #[.int .i64 0] 3)).alloc (.cells #[.nilIface] 27)) := (((Below.refl _ w).alloc (Nat.le_refl _) _).alloc (by simp only [World.size_alloc]; omega) _).alloc (by simp only [World.size_alloc]; omega) _
  generalize ((w.alloc (.cells #[.slice none 0 0, .slice none 0 0] 25)).alloc (.cells #[.int .i64 0] 3)).alloc (.cells #[.nilIface] 27) = W3 at k0 k1 n2 hB3 ⊢
  have cE := (hB3.cell (p := ⟨0, 0, none⟩) hg2).trans c2
  have x0 : W3.cell? ⟨w.heap.size, 0, none⟩ = some (.slice none 0 0) := by rw [cell_of_row _ _ _ _ _ _ k0]; rfl
  have x1 : W3.cell? ⟨w.heap.size, 1, none⟩ = some (.slice none 0 0) := by rw [cell_of_row _ _ _ _ _ _ k0]; rfl
  have x2 : W3.cell? ⟨w.heap.size + 1, 0, none⟩ = some (.int .i64 0) := by rw [cell_of_row _ _ _ _ _ _ k1]; rfl
  have x3 : W3.cell? ⟨w.heap.size + 1 + 1, 0, none⟩ = some .nilIface := by rw [cell_of_row _ _ _ _ _ _ n2]; rfl
  have y0 : ∀ j, W3.frozen? ⟨w.heap.size, j, none⟩ = false := fun j => frozen_of_row _ _ _ _ _ k0
  have y1 : ∀ j, W3.frozen? ⟨w.heap.size + 1, j, none⟩ = false := fun j => frozen_of_row _ _ _ _ _ k1
  have y2 : ∀ j, W3.frozen? ⟨w.heap.size + 1 + 1, j, none⟩ = false := fun j => frozen_of_row _ _ _ _ _ n2
  have HK := hid0 (And.intro k0 (And.intro k1 n2))
  have HB := hid0 hB3
  have e1 : ¬ w.heap.size = 0 := by omega
  have e2 : ¬ w.heap.size + 1 = 0 := by omega
  have e3 : ¬ w.heap.size + 1 + 1 = 0 := by omega
  clear k0 k1 n2 n0 n1 hB3 c2
  go_region
  go_wp2
  obtain ⟨r0, r1, r2, _, _, r5⟩ := four_set W3 w.heap.size _ _ _ _ (.slice none 0 0) (.slice none 0 0) (.int .i64 0) (.iface 236 (.pointer (some (A 2)))) _ _ _ HK.out.1 HK.out.2.1 HK.out.2.2 _ rfl
  generalize (((W3.setCell ⟨w.heap.size, 0, none⟩ (.slice none 0 0)).setCell ⟨w.heap.size, 1, none⟩ (.slice none 0 0)).setCell ⟨w.heap.size + 1, 0, none⟩ (.int .i64 0)).setCell ⟨w.heap.size + 1 + 1, 0, none⟩ (.iface 236 (.pointer (some (A 2)))) = W6 at r0 r1 r2 r5 ⊢
  have z0 : W6.cell? ⟨w.heap.size, 0, none⟩ = some (.slice none 0 0) := by rw [cell_of_row _ _ _ _ _ _ r0]; rfl
  have z1 : W6.cell? ⟨w.heap.size, 1, none⟩ = some (.slice none 0 0) := by rw [cell_of_row _ _ _ _ _ _ r0]; rfl
  have z2 : W6.cell? ⟨w.heap.size + 1, 0, none⟩ = some (.int .i64 0) := by rw [cell_of_row _ _ _ _ _ _ r1]; rfl
  have z3 : W6.cell? ⟨w.heap.size + 1 + 1, 0, none⟩ = some (.iface 236 (.pointer (some (A 2)))) := by rw [cell_of_row _ _ _ _ _ _ r2]; rfl
  refine bodyPost_ret (by simp [results, Tryz.results8, go_sem, z0, z1, z2, z3]; try rfl) rfl ?_
  exact ⟨rfl, below_drewN (r5 _ _ (Nat.le_refl _) HB.out) 1⟩
set_option maxRecDepth 10000 in
set_option maxHeartbeats 800000 in
theorem known6 (A : Nat → Addr) (w : World) (hE : Sents6 w A) (hT : TabAt 19 Lib.deBruijn64tab w) :
    Calls Tryz.prog 12 #[] w fun e w' => e = .returned (.bool true) ∧ Below w.heap.size w w' := by
  have hP := parse6 knownL (by decide) A w hE
  rw [known_parse] at hP
  have HP := hid0 hP
  have HPr := hid0 (fun a c ca cc W (h : One W a c) (hb : Below w.heap.size w W) => print_one a c ca cc W h (tab_later hT hb))
  clear hE hT hP
  go_enter Tryz.func12, Tryz.ntmps12
  go_wp2_with (first
    | (go_at_call 8; refine HP.out.mono ?_; rintro e w1 ⟨⟨vN, vS, rfl, hN, hS, _⟩, hb1⟩; obtain ⟨a, ca, rfl, ha⟩ := hN.sa; obtain ⟨c, cc, rfl, hc⟩ := hS.pa; have HO := hid0 (One.mk ha hc); have HB1 := hid0 hb1; have HK := hid0 (heap_alloc_new w1 (.cells #[.slice a 1 ca, .slice c 1 cc] 25)); clear hN hS ha hc hb1)
    | (go_at_call 13; refine (HPr.out a c ca cc _ (HO.out.later ((Below.refl _ _).alloc (Nat.le_refl _) _)) (HB1.out.alloc HB1.out.size _)).mono ?_; rintro e w2 ⟨rfl, hb2⟩; have k := (hb2.block w1.heap.size (by simp)).trans HK.out; have x1 : w2.cell? ⟨w1.heap.size, 1, none⟩ = some (.slice c 1 cc) := (by rw [cell_of_row _ _ _ _ _ _ k]; rfl); have HB2 := hid0 ((HB1.out.alloc HB1.out.size _).trans (hb2.mono (by have := HB1.out.size; simp; omega))); clear hb2 k)
    | fail)
  go_ret
  exact ⟨rfl, HB2.out⟩
end Go.Proofs.YtiiflacadndhcaaGreatDoor
namespace Go.Proofs.YtiiflacadndhcaaGreatDoor
open Go.RowKit
section
variable {P : Program} (w : World)
theorem run_append_own_front (base : Nat) (t ty e : TypeId) (i : TypeInfo) (z : Value) (size bytes : Nat) (ht : P.underlying t = some (.slice e)) (hi : P.info? e = some i) (hz : i.zero = some z)
    (hsize : i.size = size) (hby : i.bytes = bytes) (hzs : z.cells.size = size) (hsz : 0 < size)
    (v : Value) (n : Nat) (xs : List Value) (hown : w.ownsRow base e size v n xs)
    (a : Addr) (m c : Nat) (news : List Value) (hl : news.length = m * size) (hnews : ∀ j u, news[j]? = some u → w.cell? (a.add j) = some u) (h1 : ∀ u ∈ news, u.oneCell' = true)
    (h63 : n + m ≤ maxLen) (hbytes : (n + m) * bytes ≤ 140737488355328) (hbase : base ≤ w.heap.size) :
    ∃ v' w', (Builtin.append_ #[t, t] ty #[v, .slice (some a) m c]).run P w = .ok v' w' ∧ w'.ownsRow base e size v' (n + m) (xs ++ news) ∧ w.grownBy w' v.ownBlock ∧
      (v'.ownBlock = v.ownBlock ∨ v'.ownBlock = some w.heap.size) ∧ (∀ g j u, v.ownBlock = some g → j < n * size → w.cell? ⟨g, j, none⟩ = some u → w'.cell? ⟨g, j, none⟩ = some u) := by
  obtain ⟨v', w', hr, h2, h3, _, h5⟩ := run_append_own_at (P := P) w base t ty e i z size bytes ht hi hz hsize hby hzs hsz v n xs hown a m c news hl hnews h1 h63 hbytes hbase
  refine ⟨v', w', hr, h2, h3, h5, ?_⟩
  intro g j u hg hj hc
  have hjx : j < xs.length := by rw [hown.1]; exact hj
  have hxu : xs[j]? = some u := by
    have e1 := hown.cells hg j xs[j] (List.getElem?_eq_getElem hjx)
    rw [Addr.add_lit, Nat.zero_add, hc] at e1
    rw [List.getElem?_eq_getElem hjx, ← Option.some.inj e1]
  rcases h5 with h5 | h5
  · have e2 := h2.cells (h5.trans hg) j u (by rw [List.getElem?_append_left hjx]; exact hxu)
    rw [Addr.add_lit, Nat.zero_add] at e2
    exact e2
  · have hglt := (hown.lt g hg).2
    rcases hown.2 with ⟨rfl, _⟩ | ⟨g', cap, cur, rfl, hbg, hgg, hnc, hcm, hcs, htake⟩
    · simp [Value.ownBlock] at hg
    · have hge : g' = g := by simpa [Value.ownBlock] using hg
      subst hge
      by_cases hroom : n + m ≤ cap
      · obtain ⟨w2, hr2, _⟩ := run_append_own_spare (P := P) w base t ty e i size ht hi hsize g' n cap xs hown a m c news hl hnews h1 hroom
        rw [hr] at hr2
        cases hr2
        simp [Value.ownBlock] at h5
        omega
      · subst hsize hby
        have holds : ∀ j u, xs[j]? = some u → w.cell? ((⟨g', 0, none⟩ : Addr).add j) = some u := hown.cells (g := g') rfl
        have hr2 := run_append_grow (P := P) w t ty e i z ht hi hz ⟨g', 0, none⟩ n cap xs hown.1 holds a m c news hl hnews (by omega) (by simp only [maxLen] at h63; omega) (growslice_fits (by omega) hbytes)
        rw [hr] at hr2
        cases hr2
        exact (World.cell?_of_block (w := w) (a := ⟨g', j, none⟩) (heap_alloc_old w.drew _ (r := g') hglt)).trans hc
theorem wpList_append_own_front {ops : Array Oper} {rest : List Oper} {o : Oper} {a : Act} {Q : Exit → Act → World → Prop} (hgd : o.guard = none) (s x : Operand) (t : TypeId)
    (ho : o.op = .call { callee := .builtin .append, args := #[s, x], argTypes := #[t, t] })
    (base : Nat) (e : TypeId) (i : TypeInfo) (z : Value) (size bytes : Nat) (ht : P.underlying t = some (.slice e)) (hi : P.info? e = some i) (hz : i.zero = some z)
    (hsize : i.size = size) (hby : i.bytes = bytes) (hzs : z.cells.size = size) (hsz : 0 < size)
    (v : Value) (n : Nat) (xs : List Value) (hs : a.eval s = v) (hown : w.ownsRow base e size v n xs)
    (ad : Addr) (m c : Nat) (news : List Value) (hx : a.eval x = .slice (some ad) m c) (hl : news.length = m * size) (hnews : ∀ j u, news[j]? = some u → w.cell? (ad.add j) = some u) (h1 : ∀ u ∈ news, u.oneCell' = true)
    (h63 : n + m ≤ maxLen) (hbytes : (n + m) * bytes ≤ 140737488355328) (hbase : base ≤ w.heap.size)
    (h : ∀ v' w', w'.ownsRow base e size v' (n + m) (xs ++ news) → w.grownBy w' v.ownBlock → (v'.ownBlock = v.ownBlock ∨ v'.ownBlock = some w.heap.size) → (∀ g j u, v.ownBlock = some g → j < n * size → w.cell? ⟨g, j, none⟩ = some u → w'.cell? ⟨g, j, none⟩ = some u) → wpList P ops Q rest (a.put o.dst v') w') :
    wpList P ops Q (o :: rest) a w := by
  refine wpList_plain hgd fun K hK => ?_
  obtain ⟨v', w', hr, h2, h3, h4, h5⟩ := run_append_own_front (P := P) w base t o.type e i z size bytes ht hi hz hsize hby hzs hsz v n xs hown ad m c news hl hnews h1 h63 hbytes hbase
  unfold Oper.wp execOp
  simp only [ho, resolve, invoke, builtin, Sem.run_bind, Sem.run_pure, Result.andThen_ok, List.map_toArray, List.map_cons, List.map_nil, hs, hx, hr]
  exact hK _ _ (h v' w' h2 h3 h4 h5)
end
end Go.Proofs.YtiiflacadndhcaaGreatDoor
namespace Go.Proofs.YtiiflacadndhcaaGreatDoor
open Go.RowKit Go.Shelf
theorem fill_set {α : Type} (l : List α) (u : α) (k : Nat) (h : k < l.length) : (List.replicate k u ++ l.drop k).set k u = List.replicate (k + 1) u ++ l.drop (k + 1) := by
  rw [List.set_append_right _ _ (by simp), List.length_replicate, Nat.sub_self, List.drop_eq_getElem_cons h, List.set_cons_zero, List.replicate_succ', List.append_assoc]
  rfl
theorem cellsP_set (l : List Sp) (k : Nat) (u : Sp) : (((cellsP l).set (k * 3) (.int .i64 u.1)).set (k * 3 + 1) (.int .i64 u.2.1)).set (k * 3 + 2) (.int .i64 u.2.2) = cellsP (l.set k u) := by
  induction l generalizing k with
  | nil => simp [cellsP]
  | cons x l ih =>
    cases k with
    | zero => simp [cellsP]
    | succ k =>
      have e : (k + 1) * 3 = k * 3 + 1 + 1 + 1 := by omega
      have h := ih k
      simp only [cellsP, List.flatMap_cons, List.cons_append, List.nil_append, List.set_cons_succ, e] at h ⊢
      rw [h]
theorem only3 {w wr : World} {S : Nat → Prop} (h : Only w wr S) {g : Nat} (hS : S g) (j0 j1 j2 : Nat) (a b c : Value) : Only w (((wr.setCell ⟨g, j0, none⟩ a).setCell ⟨g, j1, none⟩ b).setCell ⟨g, j2, none⟩ c) S :=
  ((h.trans (Only.setCell _ g _ _) (fun _ hi => .inl (hi ▸ hS))).trans (Only.setCell _ g _ _) (fun _ hi => .inl (hi ▸ hS))).trans (Only.setCell _ g _ _) (fun _ hi => .inl (hi ▸ hS))
theorem heap3 (wr : World) (g j0 j1 j2 : Nat) (a b c : Value) (i : Nat) (hi : ¬ i = g) : (((wr.setCell ⟨g, j0, none⟩ a).setCell ⟨g, j1, none⟩ b).setCell ⟨g, j2, none⟩ c).heap[i]? = wr.heap[i]? := by
  rw [Below.heap_setCell _ ⟨g, j2, none⟩ _ i hi, Below.heap_setCell _ ⟨g, j1, none⟩ _ i hi, Below.heap_setCell _ ⟨g, j0, none⟩ _ i hi]
theorem own1 {wr : World} {lo : Nat} {t : TypeId} {s n : Nat} {v : Value} {xs : List Value} (h : wr.ownsRow lo t s v n xs) {g : Nat} (hne : v.ownBlock ≠ some g) (j : Nat) (a : Value) : (wr.setCell ⟨g, j, none⟩ a).ownsRow lo t s v n xs := ownsRow_setCell_other (a := ⟨g, j, none⟩) h hne a
theorem own3 {wr : World} {lo : Nat} {t : TypeId} {s n : Nat} {v : Value} {xs : List Value} (h : wr.ownsRow lo t s v n xs) {g : Nat} (hne : v.ownBlock ≠ some g) (j0 j1 j2 : Nat) (a b c : Value) : (((wr.setCell ⟨g, j0, none⟩ a).setCell ⟨g, j1, none⟩ b).setCell ⟨g, j2, none⟩ c).ownsRow lo t s v n xs := own1 (own1 (own1 h hne _ _) hne _ _) hne _ _
/-- Two rows, their blocks. -/
def Two (vN vS : Value) (i : Nat) : Prop := some i = vN.ownBlock ∨ some i = vS.ownBlock
theorem own_lt {w : World} {lo : Nat} {t : TypeId} {s n : Nat} {v : Value} {xs : List Value} (h : w.ownsRow lo t s v n xs) : ∀ i, some i = v.ownBlock → i < w.heap.size := fun i e => (World.ownsRow.lt h i e.symm).2
set_option maxRecDepth 10000 in
set_option maxHeartbeats 800000 in
theorem fill_any (vN vS : Value) (ns : List ByteArray) (ss : List Sp) (m : ByteArray) (lo : Nat) (w : World) (hm : m.size ≤ 100) (hnl : ns.length ≤ 100000000) (hsl : ss.length ≤ 100000000) (hN : OwnS w lo vN ns) (hS : OwnP w lo vS ss) :
    Calls Tryz.prog 22 #[.agg #[vN, vS], .string m] w fun e w' => e = .returned (.tuple #[]) ∧ OwnS w' lo vN (List.replicate ns.length m) ∧ OwnP w' lo vS (List.replicate ss.length (-(m.size : Int), (0 : Int), (0 : Int))) ∧ Only w w' (Two vN vS) := by
  have hltN := own_lt hN
  have hltS := own_lt hS
  obtain ⟨aN, cN, rfl, _⟩ := hN.sa
  obtain ⟨aS, cS, rfl, _⟩ := hS.pa
  have HltN := hid0 hltN
  have HltS := hid0 hltS
  have HN0 := hid0 hN
  have HS0 := hid0 hS
  have HK := hid0 (heap_alloc_new w (.cells #[.slice aN ns.length cN, .slice aS ss.length cS] 25))
  clear hN hS hltN hltS
  go_enter Tryz.func22, Tryz.ntmps22
  go_wp2
  go_loopw [4] (fun i wr => ∃ k : Nat, k ≤ ns.length ∧ i = .int .i64 (k : Int) ∧ Hid (OwnS wr lo (.slice aN ns.length cN) (List.replicate k m ++ ns.drop k)) ∧ Hid (OwnP wr lo (.slice aS ss.length cS) ss) ∧ Hid (Only w wr (Two (.slice aN ns.length cN) (.slice aS ss.length cS))) ∧ Hid (wr.heap[w.heap.size]? = some (.cells #[.slice aN ns.length cN, .slice aS ss.length cS] 25 (0, 0)))) (fun i _ => ns.length - (intOf i).toNat)
  case atStart => exact ⟨0, Nat.zero_le _, rfl, World.ownsRow.alloc HN0.out _, World.ownsRow.alloc HS0.out _, Only.alloc _ _ _, HK⟩
  case round =>
    obtain ⟨k, hk, rfl, HN, HS, HO, HX⟩ := hrel
    have x0 : wr.cell? ⟨w.heap.size, 0, none⟩ = some (.slice aN ns.length cN) := by rw [cell_of_row _ _ _ _ _ _ HX.out]; rfl
    by_cases hlt : k < ns.length
    · have hkI : (k : Int) < (ns.length : Int) := by omega
      have hkI0 : (0 : Int) ≤ (k : Int) := by omega
      have hlen : (List.replicate k m ++ ns.drop k).length = ns.length := by simp; omega
      have hN1 : wr.ownsRow lo 9 1 (.slice aN ns.length cN) ns.length (cellsS (List.replicate k m ++ ns.drop k)) := by have h := HN.out; unfold OwnS at h; rw [hlen] at h; exact h
      obtain ⟨g, cap, e0, hg1, hg2⟩ := World.ownsRow.form hN1 (by omega)
      simp only [Value.slice.injEq, true_and] at e0
      obtain ⟨rfl, rfl⟩ := e0
      have c0 : ∃ u, wr.cell? ⟨g, k, none⟩ = some u := by
        rw [World.ownsRow.cellAt hN1 k (by omega)]
        exact ⟨_, List.getElem?_eq_getElem (by simp [cellsS]; omega)⟩
      obtain ⟨u, c0⟩ := c0
      have f0 : wr.frozen? ⟨g, k, none⟩ = false := World.ownsRow.frozenAt hN1 k
      have hgX : ¬ w.heap.size = g := fun e => by have := HltN.out g rfl; omega
      have HN2 : Hid (OwnS (wr.setCell ⟨g, k, none⟩ (.string m)) lo (.slice (some ⟨g, 0, none⟩) ns.length cN) (List.replicate (k + 1) m ++ ns.drop (k + 1))) := hid0 (by
        have h := (World.ownsRow.stored hN1 k (.string m)).1
        unfold OwnS
        rw [← fill_set ns m k hlt, List.length_set, hlen, cellsS, List.map_set]
        exact h)
      have HS2 : Hid (OwnP (wr.setCell ⟨g, k, none⟩ (.string m)) lo (.slice aS ss.length cS) ss) := hid0 (own1 HS.out (rows_ne' HS.out hN1 (by decide) rfl) _ _)
      have HO2 : Hid (Only w (wr.setCell ⟨g, k, none⟩ (.string m)) (Two (.slice (some ⟨g, 0, none⟩) ns.length cN) (.slice aS ss.length cS))) := hid0 (HO.out.trans (Only.setCell wr g k _) (fun i hi => .inl (.inl (by subst hi; rfl))))
      have HX2 : Hid ((wr.setCell ⟨g, k, none⟩ (.string m)).heap[w.heap.size]? = some (.cells #[.slice (some ⟨g, 0, none⟩) ns.length cN, .slice aS ss.length cS] 25 (0, 0))) := hid0 ((Below.heap_setCell wr ⟨g, k, none⟩ _ _ hgX).trans HX.out)
      clear hN1 hlen hgX HN HS HO HX HN0 HK HltN
      go_wp2
      go_roundw
      case rel => exact ⟨k + 1, by omega, by go_num, HN2, HS2, HO2, HX2⟩
      case measure => simp [intOf]; omega
    · have hkI : ¬ (k : Int) < (ns.length : Int) := by omega
      have HN1 : Hid (OwnS wr lo (.slice aN ns.length cN) (List.replicate ns.length m)) := hid0 (by
        have h := HN.out
        rw [List.drop_of_length_le (by omega), List.append_nil, show k = ns.length by omega] at h
        exact h)
      clear HN HN0
      go_wp2
      clear x0
      go_loopw [5] (fun i wr => ∃ k : Nat, k ≤ ss.length ∧ i = .int .i64 (k : Int) ∧ Hid (OwnS wr lo (.slice aN ns.length cN) (List.replicate ns.length m)) ∧ Hid (OwnP wr lo (.slice aS ss.length cS) (List.replicate k (-(m.size : Int), (0 : Int), (0 : Int)) ++ ss.drop k)) ∧ Hid (Only w wr (Two (.slice aN ns.length cN) (.slice aS ss.length cS))) ∧ Hid (wr.heap[w.heap.size]? = some (.cells #[.slice aN ns.length cN, .slice aS ss.length cS] 25 (0, 0)))) (fun i _ => ss.length - (intOf i).toNat)
      case atStart => exact ⟨0, Nat.zero_le _, rfl, HN1, HS, HO, HX⟩
      case round =>
        clear HN1 HS HO HX
        obtain ⟨k, hk, rfl, HN, HS, HO, HX⟩ := hrel
        have x1 : wr.cell? ⟨w.heap.size, 1, none⟩ = some (.slice aS ss.length cS) := by rw [cell_of_row _ _ _ _ _ _ HX.out]; rfl
        by_cases hlt : k < ss.length
        · have hkI : (k : Int) < (ss.length : Int) := by omega
          have hkI0 : (0 : Int) ≤ (k : Int) := by omega
          have hlen : (List.replicate k (-(m.size : Int), (0 : Int), (0 : Int)) ++ ss.drop k).length = ss.length := by simp; omega
          have hS1 : wr.ownsRow lo 72 3 (.slice aS ss.length cS) ss.length (cellsP (List.replicate k (-(m.size : Int), (0 : Int), (0 : Int)) ++ ss.drop k)) := by have h := HS.out; unfold OwnP at h; rw [hlen] at h; exact h
          obtain ⟨g, cap, e0, hg1, hg2⟩ := World.ownsRow.form hS1 (by omega)
          simp only [Value.slice.injEq, true_and] at e0
          obtain ⟨rfl, rfl⟩ := e0
          have cc : ∀ j, j < ss.length * 3 → ∃ u, wr.cell? ⟨g, j, none⟩ = some u := fun j hj => by
            rw [World.ownsRow.cellAt hS1 j hj]
            exact ⟨_, List.getElem?_eq_getElem (by rw [cellsP_length, hlen]; exact hj)⟩
          obtain ⟨u0, c0⟩ := cc (k * 3) (by omega)
          obtain ⟨u1, c1⟩ := cc (k * 3 + 1) (by omega)
          obtain ⟨u2, c2⟩ := cc (k * 3 + 2) (by omega)
          have f0 : ∀ j, wr.frozen? ⟨g, j, none⟩ = false := fun j => World.ownsRow.frozenAt hS1 j
          have hgX : ¬ w.heap.size = g := fun e => by have := HltS.out g rfl; omega
          have HS2 : Hid (OwnP (((wr.setCell ⟨g, k * 3, none⟩ (.int .i64 (-(m.size : Int)))).setCell ⟨g, k * 3 + 1, none⟩ (.int .i64 0)).setCell ⟨g, k * 3 + 2, none⟩ (.int .i64 0)) lo (.slice (some ⟨g, 0, none⟩) ss.length cS) (List.replicate (k + 1) (-(m.size : Int), (0 : Int), (0 : Int)) ++ ss.drop (k + 1))) := hid0 (by
            have h1 := (World.ownsRow.stored hS1 (k * 3) (.int .i64 (-(m.size : Int)))).1
            have h2 := (World.ownsRow.stored h1 (k * 3 + 1) (.int .i64 0)).1
            have h3 := (World.ownsRow.stored h2 (k * 3 + 2) (.int .i64 0)).1
            unfold OwnP
            rw [← fill_set ss (-(m.size : Int), (0 : Int), (0 : Int)) k hlt, List.length_set, hlen, ← cellsP_set]
            exact h3)
          have HN2 : Hid (OwnS (((wr.setCell ⟨g, k * 3, none⟩ (.int .i64 (-(m.size : Int)))).setCell ⟨g, k * 3 + 1, none⟩ (.int .i64 0)).setCell ⟨g, k * 3 + 2, none⟩ (.int .i64 0)) lo (.slice aN ns.length cN) (List.replicate ns.length m)) := hid0 (own3 HN.out (rows_ne' HN.out hS1 (by decide) rfl) _ _ _ _ _ _)
          have HO2 : Hid (Only w (((wr.setCell ⟨g, k * 3, none⟩ (.int .i64 (-(m.size : Int)))).setCell ⟨g, k * 3 + 1, none⟩ (.int .i64 0)).setCell ⟨g, k * 3 + 2, none⟩ (.int .i64 0)) (Two (.slice aN ns.length cN) (.slice (some ⟨g, 0, none⟩) ss.length cS))) := hid0 (only3 HO.out (.inr rfl) _ _ _ _ _ _)
          have HX2 : Hid ((((wr.setCell ⟨g, k * 3, none⟩ (.int .i64 (-(m.size : Int)))).setCell ⟨g, k * 3 + 1, none⟩ (.int .i64 0)).setCell ⟨g, k * 3 + 2, none⟩ (.int .i64 0)).heap[w.heap.size]? = some (.cells #[.slice aN ns.length cN, .slice (some ⟨g, 0, none⟩) ss.length cS] 25 (0, 0))) := hid0 ((heap3 wr g _ _ _ _ _ _ _ hgX).trans HX.out)
          clear hS1 hlen hgX HN HS HO HX HK HltS cc
          go_wp2
          go_roundw
          case rel => exact ⟨k + 1, by omega, by go_num, HN2, HS2, HO2, HX2⟩
          case measure => simp [intOf]; omega
        · have hkI : ¬ (k : Int) < (ss.length : Int) := by omega
          have HS1 : Hid (OwnP wr lo (.slice aS ss.length cS) (List.replicate ss.length (-(m.size : Int), (0 : Int), (0 : Int)))) := hid0 (by
            have h := HS.out
            rw [List.drop_of_length_le (by omega), List.append_nil, show k = ss.length by omega] at h
            exact h)
          clear HS
          go_wp2
          go_end0
          exact ⟨rfl, HN.out, HS1.out, HO.out⟩
set_option maxRecDepth 10000 in
set_option maxHeartbeats 800000 in
theorem full_any (a b : Option Addr) (ca cb : Nat) (ns : List ByteArray) (ss : List Sp) (m : ByteArray) (w : World) (hm : m.size ≤ 100) (hnl : ns.length ≤ 100000000) (hsl : ss.length ≤ 100000000) (ha : SA w a ns) (hb : PA w b ss) (hn : ∀ x ∈ ns, x = m) (hs : ∀ t ∈ ss, t.1 = -(m.size : Int)) :
    Calls Tryz.prog 24 #[.agg #[.slice a ns.length ca, .slice b ss.length cb], .string m] w fun e w' => e = .returned (.bool true) ∧ Below w.heap.size w w' := by
  have HB := hid0 ((Below.refl w.heap.size w).alloc (Nat.le_refl _) (.cells #[.slice a ns.length ca, .slice b ss.length cb] 25))
  have HA := hid0 (ha.later HB.out)
  have HP := hid0 (hb.later HB.out)
  have HN := hid0 hn
  have HS := hid0 hs
  have hK := heap_alloc_new w (.cells #[.slice a ns.length ca, .slice b ss.length cb] 25)
  have x0 : (w.alloc (.cells #[.slice a ns.length ca, .slice b ss.length cb] 25)).cell? ⟨w.heap.size, 0, none⟩ = some (.slice a ns.length ca) := by rw [cell_of_row _ _ _ _ _ _ hK]; rfl
  have x1 : (w.alloc (.cells #[.slice a ns.length ca, .slice b ss.length cb] 25)).cell? ⟨w.heap.size, 1, none⟩ = some (.slice b ss.length cb) := by rw [cell_of_row _ _ _ _ _ _ hK]; rfl
  clear ha hb hn hs hK
  go_enter Tryz.func24, Tryz.ntmps24
  go_wp2
  generalize w.alloc (.cells #[.slice a ns.length ca, .slice b ss.length cb] 25) = W at *
  go_loop [5] (fun i => ∃ k : Nat, k ≤ ns.length ∧ i = .int .i64 (k : Int)) (fun i => ns.length - (intOf i).toNat)
  case atStart => exact ⟨0, Nat.zero_le _, rfl⟩
  case round =>
    obtain ⟨k, hk, rfl⟩ := hrel
    by_cases hlt : k < ns.length
    · obtain ⟨b1, o1, rfl, c0⟩ := HA.out.at' k hlt
      rw [HN.out ns[k] (List.getElem_mem hlt)] at c0
      have hkI : (k : Int) < (ns.length : Int) := by omega
      clear HA
      go_wp2
      go_round
      case rel => exact ⟨k + 1, by omega, by go_num⟩
      case measure => simp [intOf]; omega
    · have hkI : ¬ (k : Int) < (ns.length : Int) := by omega
      go_wp2
      go_loop [6] (fun i => ∃ k : Nat, k ≤ ss.length ∧ i = .int .i64 (k : Int)) (fun i => ss.length - (intOf i).toNat)
      case atStart => exact ⟨0, Nat.zero_le _, rfl⟩
      case round =>
        obtain ⟨k, hk, rfl⟩ := hrel
        by_cases hlt : k < ss.length
        · obtain ⟨b1, o1, rfl, _, c0, _, _⟩ := HP.out.at' k hlt
          rw [HS.out ss[k] (List.getElem_mem hlt)] at c0
          have hkI : (k : Int) < (ss.length : Int) := by omega
          clear HP
          go_wp2
          go_round
          case rel => exact ⟨k + 1, by omega, by go_num⟩
          case measure => simp [intOf]; omega
        · have hkI : ¬ (k : Int) < (ss.length : Int) := by omega
          go_wp2
          go_ret
          exact ⟨rfl, HB.out⟩
end Go.Proofs.YtiiflacadndhcaaGreatDoor
namespace Go.Proofs.YtiiflacadndhcaaGreatDoor
open Go.RowKit Go.Shelf
/-- Lists that have grown; what the old ones read. -/
structure Gs (w wr : World) (lo : Nat) (vN vS uN uS : Value) (ns : List ByteArray) (ss : List Sp) (m : ByteArray) (z : Sp) (k l : Nat) : Prop where
  box : wr.heap[w.heap.size]? = some (.cells #[uN, uS] 25 (0, 0))
  res : wr.heap[w.heap.size + 1]? = some (.cells #[.slice none 0 0, .slice none 0 0] 25 (0, 0))
  n : OwnS wr lo uN (ns ++ List.replicate k m)
  s : OwnP wr lo uS (ss ++ List.replicate l z)
  fn : ∀ g j c, vN.ownBlock = some g → j < ns.length → w.cell? ⟨g, j, none⟩ = some c → wr.cell? ⟨g, j, none⟩ = some c
  fs : ∀ g j c, vS.ownBlock = some g → j < ss.length * 3 → w.cell? ⟨g, j, none⟩ = some c → wr.cell? ⟨g, j, none⟩ = some c
  on : Only w wr (Two vN vS)
  bn : ∀ g, uN.ownBlock = some g → vN.ownBlock = some g ∨ w.heap.size ≤ g
  bs : ∀ g, uS.ownBlock = some g → vS.ownBlock = some g ∨ w.heap.size ≤ g
/-- The two rows at the start. -/
structure Gz (w : World) (vN vS : Value) : Prop where
  ln : ∀ g, vN.ownBlock = some g → g < w.heap.size
  ls : ∀ g, vS.ownBlock = some g → g < w.heap.size
  ne : ∀ g, vN.ownBlock = some g → vS.ownBlock ≠ some g
section
variable {w wr w1 : World} {lo : Nat} {vN vS uN uS u' : Value} {ns : List ByteArray} {ss : List Sp} {m : ByteArray} {z : Sp} {k l n : Nat} {o : Obj}
theorem Gs.name (hz : Gz w vN vS) (h : Gs w wr lo vN vS uN uS ns ss m z k l) (hn : n = ns.length + k)
    (hown' : w1.ownsRow lo 9 1 u' (n + 1) (cellsS (ns ++ List.replicate k m) ++ [.string m])) (hgrow : (wr.alloc o).grownBy w1 uN.ownBlock) (hat : u'.ownBlock = uN.ownBlock ∨ u'.ownBlock = some (wr.alloc o).heap.size)
    (hfr : ∀ g j c, uN.ownBlock = some g → j < n * 1 → (wr.alloc o).cell? ⟨g, j, none⟩ = some c → w1.cell? ⟨g, j, none⟩ = some c) :
    w1.heap[w.heap.size]? = some (.cells #[uN, uS] 25 (0, 0)) ∧ Gs w (w1.setCell ⟨w.heap.size, 0, none⟩ u') lo vN vS u' uS ns ss m z (k + 1) l := by
  have hlB := (Array.getElem?_eq_some_iff.1 h.box).1
  have hlR := (Array.getElem?_eq_some_iff.1 h.res).1
  have hbB : (wr.alloc o).heap[w.heap.size]? = _ := (Below.heap_alloc wr o _ hlB).trans h.box
  have hbR : (wr.alloc o).heap[w.heap.size + 1]? = _ := (Below.heap_alloc wr o _ hlR).trans h.res
  have hNa : (wr.alloc o).ownsRow lo 9 1 uN (ns ++ List.replicate k m).length (cellsS (ns ++ List.replicate k m)) := World.ownsRow.alloc h.n o
  have hSa : (wr.alloc o).ownsRow lo 72 3 uS (ss ++ List.replicate l z).length (cellsP (ss ++ List.replicate l z)) := World.ownsRow.alloc h.s o
  have hB1 : w1.heap[w.heap.size]? = some (.cells #[uN, uS] 25 (0, 0)) := (hgrow.block _ (by simp; omega) (row_not hNa hbB (by decide))).trans hbB
  have hR1 : w1.heap[w.heap.size + 1]? = some (.cells #[.slice none 0 0, .slice none 0 0] 25 (0, 0)) := (hgrow.block _ (by simp; omega) (row_not hNa hbR (by decide))).trans hbR
  have hN1 : OwnS w1 lo u' (ns ++ List.replicate (k + 1) m) := by
    unfold OwnS
    rw [List.replicate_succ', ← List.append_assoc, List.length_append, List.length_singleton, cellsS, List.map_append, show (ns ++ List.replicate k m).length = n by simp; omega]
    exact hown'
  have hS1 : OwnP w1 lo uS (ss ++ List.replicate l z) := World.ownsRow.kept hSa hgrow (rows_ne hSa hNa (by decide))
  have hs1 := hgrow.size
  simp only [World.size_alloc] at hs1
  have hws := h.on.size
  refine ⟨hB1, heap_setCell_same w1 _ 0 _ _ _ hB1, (Below.heap_setCell w1 ⟨w.heap.size, 0, none⟩ _ _ (by simp)).trans hR1, own1 hN1 (fun e => row_not hN1 hB1 (by decide) e.symm) _ _, own1 hS1 (fun e => row_not hS1 hB1 (by decide) e.symm) _ _, fun g j c hg hj hc => ?_, fun g j c hg hj hc => ?_, ⟨?_, ?_, ?_, ?_, fun i hi hni => ?_⟩, fun g hg => ?_, h.bs⟩
  · have hgl := hz.ln g hg
    have h1 := h.fn g j c hg hj hc
    have h2 : (wr.alloc o).cell? ⟨g, j, none⟩ = some c := (World.cell?_of_block (w := wr) (a := ⟨g, j, none⟩) (Below.heap_alloc wr o g (by omega))).trans h1
    refine (World.cell?_of_block (w := w1) (a := ⟨g, j, none⟩) (Below.heap_setCell w1 ⟨w.heap.size, 0, none⟩ _ g (by simp; omega))).trans ?_
    by_cases e : uN.ownBlock = some g
    · exact hfr g j c e (by omega) h2
    · exact (World.cell?_of_block (w := wr.alloc o) (a := ⟨g, j, none⟩) (hgrow.block g (by simp; omega) (fun e2 => e e2.symm))).trans h2
  · have hgl := hz.ls g hg
    have h1 := h.fs g j c hg hj hc
    have h2 : (wr.alloc o).cell? ⟨g, j, none⟩ = some c := (World.cell?_of_block (w := wr) (a := ⟨g, j, none⟩) (Below.heap_alloc wr o g (by omega))).trans h1
    refine (World.cell?_of_block (w := w1) (a := ⟨g, j, none⟩) (Below.heap_setCell w1 ⟨w.heap.size, 0, none⟩ _ g (by simp; omega))).trans ?_
    exact (World.cell?_of_block (w := wr.alloc o) (a := ⟨g, j, none⟩) (hgrow.block g (by simp; omega) (fun e => by
      rcases h.bn g e.symm with e1 | e1
      · exact hz.ne g e1 hg
      · omega))).trans h2
  · exact hgrow.os.trans h.on.os
  · exact hgrow.tape.trans h.on.tape
  · exact hgrow.output.trans h.on.output
  · simp [World.setCell]; omega
  · refine (Below.heap_setCell w1 ⟨w.heap.size, 0, none⟩ _ i (by simp; omega)).trans ((hgrow.block i (by simp; omega) (fun e => ?_)).trans ((Below.heap_alloc wr o i (by omega)).trans (h.on.block i hi hni)))
    rcases h.bn i e.symm with e1 | e1
    · exact hni (.inl e1.symm)
    · omega
  · rcases hat with e | e
    · exact h.bn g (e ▸ hg)
    · rw [e] at hg
      simp at hg
      exact .inr (by omega)
theorem Gs.span (hz : Gz w vN vS) (h : Gs w wr lo vN vS uN uS ns ss m z k l) (hn : n = ss.length + l)
    (hown' : w1.ownsRow lo 72 3 u' (n + 1) (cellsP (ss ++ List.replicate l z) ++ [.int .i64 z.1, .int .i64 z.2.1, .int .i64 z.2.2])) (hgrow : (wr.alloc o).grownBy w1 uS.ownBlock) (hat : u'.ownBlock = uS.ownBlock ∨ u'.ownBlock = some (wr.alloc o).heap.size)
    (hfr : ∀ g j c, uS.ownBlock = some g → j < n * 3 → (wr.alloc o).cell? ⟨g, j, none⟩ = some c → w1.cell? ⟨g, j, none⟩ = some c) :
    w1.heap[w.heap.size]? = some (.cells #[uN, uS] 25 (0, 0)) ∧ Gs w (w1.setCell ⟨w.heap.size, 1, none⟩ u') lo vN vS uN u' ns ss m z k (l + 1) := by
  have hlB := (Array.getElem?_eq_some_iff.1 h.box).1
  have hlR := (Array.getElem?_eq_some_iff.1 h.res).1
  have hbB : (wr.alloc o).heap[w.heap.size]? = _ := (Below.heap_alloc wr o _ hlB).trans h.box
  have hbR : (wr.alloc o).heap[w.heap.size + 1]? = _ := (Below.heap_alloc wr o _ hlR).trans h.res
  have hNa : (wr.alloc o).ownsRow lo 9 1 uN (ns ++ List.replicate k m).length (cellsS (ns ++ List.replicate k m)) := World.ownsRow.alloc h.n o
  have hSa : (wr.alloc o).ownsRow lo 72 3 uS (ss ++ List.replicate l z).length (cellsP (ss ++ List.replicate l z)) := World.ownsRow.alloc h.s o
  have hB1 : w1.heap[w.heap.size]? = some (.cells #[uN, uS] 25 (0, 0)) := (hgrow.block _ (by simp; omega) (row_not hSa hbB (by decide))).trans hbB
  have hR1 : w1.heap[w.heap.size + 1]? = some (.cells #[.slice none 0 0, .slice none 0 0] 25 (0, 0)) := (hgrow.block _ (by simp; omega) (row_not hSa hbR (by decide))).trans hbR
  have hS1 : OwnP w1 lo u' (ss ++ List.replicate (l + 1) z) := by
    unfold OwnP
    rw [List.replicate_succ', ← List.append_assoc, List.length_append, List.length_singleton, cellsP_append, show (ss ++ List.replicate l z).length = n by simp; omega]
    exact hown'
  have hN1 : OwnS w1 lo uN (ns ++ List.replicate k m) := World.ownsRow.kept hNa hgrow (rows_ne hNa hSa (by decide))
  have hs1 := hgrow.size
  simp only [World.size_alloc] at hs1
  have hws := h.on.size
  refine ⟨hB1, heap_setCell_same w1 _ 1 _ _ _ hB1, (Below.heap_setCell w1 ⟨w.heap.size, 1, none⟩ _ _ (by simp)).trans hR1, own1 hN1 (fun e => row_not hN1 hB1 (by decide) e.symm) _ _, own1 hS1 (fun e => row_not hS1 hB1 (by decide) e.symm) _ _, fun g j c hg hj hc => ?_, fun g j c hg hj hc => ?_, ⟨?_, ?_, ?_, ?_, fun i hi hni => ?_⟩, h.bn, fun g hg => ?_⟩
  · have hgl := hz.ln g hg
    have h1 := h.fn g j c hg hj hc
    have h2 : (wr.alloc o).cell? ⟨g, j, none⟩ = some c := (World.cell?_of_block (w := wr) (a := ⟨g, j, none⟩) (Below.heap_alloc wr o g (by omega))).trans h1
    refine (World.cell?_of_block (w := w1) (a := ⟨g, j, none⟩) (Below.heap_setCell w1 ⟨w.heap.size, 1, none⟩ _ g (by simp; omega))).trans ?_
    exact (World.cell?_of_block (w := wr.alloc o) (a := ⟨g, j, none⟩) (hgrow.block g (by simp; omega) (fun e => by
      rcases h.bs g e.symm with e1 | e1
      · exact hz.ne g hg e1
      · omega))).trans h2
  · have hgl := hz.ls g hg
    have h1 := h.fs g j c hg hj hc
    have h2 : (wr.alloc o).cell? ⟨g, j, none⟩ = some c := (World.cell?_of_block (w := wr) (a := ⟨g, j, none⟩) (Below.heap_alloc wr o g (by omega))).trans h1
    refine (World.cell?_of_block (w := w1) (a := ⟨g, j, none⟩) (Below.heap_setCell w1 ⟨w.heap.size, 1, none⟩ _ g (by simp; omega))).trans ?_
    by_cases e : uS.ownBlock = some g
    · exact hfr g j c e (by omega) h2
    · exact (World.cell?_of_block (w := wr.alloc o) (a := ⟨g, j, none⟩) (hgrow.block g (by simp; omega) (fun e2 => e e2.symm))).trans h2
  · exact hgrow.os.trans h.on.os
  · exact hgrow.tape.trans h.on.tape
  · exact hgrow.output.trans h.on.output
  · simp [World.setCell]; omega
  · refine (Below.heap_setCell w1 ⟨w.heap.size, 1, none⟩ _ i (by simp; omega)).trans ((hgrow.block i (by simp; omega) (fun e => ?_)).trans ((Below.heap_alloc wr o i (by omega)).trans (h.on.block i hi hni)))
    rcases h.bs i e.symm with e1 | e1
    · exact hni (.inr e1.symm)
    · omega
  · rcases hat with e | e
    · exact h.bs g (e ▸ hg)
    · rw [e] at hg
      simp at hg
      exact .inr (by omega)
theorem Gs.cells (h : Gs w wr lo vN vS uN uS ns ss m z k l) : wr.cell? ⟨w.heap.size, 0, none⟩ = some uN ∧ wr.cell? ⟨w.heap.size, 1, none⟩ = some uS ∧ ∀ j, wr.frozen? ⟨w.heap.size, j, none⟩ = false :=
  ⟨by rw [cell_of_row _ _ _ _ _ _ h.box]; rfl, by rw [cell_of_row _ _ _ _ _ _ h.box]; rfl, fun j => frozen_of_row _ _ _ _ _ h.box⟩
end
theorem cell3p_at (w : World) (B : Nat) (hB : w.heap.size = B) (a b c : Value) (t : TypeId) : ∀ j u, [a, b, c][j]? = some u → (w.alloc (.cells #[a, b, c] t)).cell? ((⟨B, 0, none⟩ : Addr).add j) = some u := by
  subst hB; exact cell3p_new w a b c t
theorem size_set (w : World) (a : Addr) (v : Value) : (w.setCell a v).heap.size = w.heap.size := by simp [World.setCell]
set_option maxRecDepth 10000 in
set_option maxHeartbeats 800000 in
theorem grown_any (vN vS : Value) (ns : List ByteArray) (ss : List Sp) (m : ByteArray) (lo : Nat) (w : World) (hm : m.size ≤ 100) (hnl : ns.length ≤ 100000000) (hsl : ss.length ≤ 100000000) (hlo : lo ≤ w.heap.size) (hN : OwnS w lo vN ns) (hS : OwnP w lo vS ss) :
    Calls Tryz.prog 23 #[.agg #[vN, vS], .string m] w fun e w' => ∃ uN uS, e = .returned (.agg #[uN, uS]) ∧ OwnS w' lo uN (ns ++ List.replicate 64 m) ∧ OwnP w' lo uS (ss ++ List.replicate 64 (-(m.size : Int), (0 : Int), (0 : Int))) ∧
      (∀ g j c, vN.ownBlock = some g → j < ns.length → w.cell? ⟨g, j, none⟩ = some c → w'.cell? ⟨g, j, none⟩ = some c) ∧ (∀ g j c, vS.ownBlock = some g → j < ss.length * 3 → w.cell? ⟨g, j, none⟩ = some c → w'.cell? ⟨g, j, none⟩ = some c) ∧ Only w w' (Two vN vS) ∧ (∀ g, uN.ownBlock = some g → vN.ownBlock = some g ∨ w.heap.size ≤ g) ∧ (∀ g, uS.ownBlock = some g → vS.ownBlock = some g ∨ w.heap.size ≤ g) := by
  obtain ⟨i0, hi, hz0, hz1, hz2⟩ := info_parts infoStr
  obtain ⟨p0, hp, pz0, pz1, pz2⟩ := info_parts infoSpan
  have HZ : Hid (Gz w vN vS) := hid0 ⟨fun g e => (World.ownsRow.lt hN g e).2, fun g e => (World.ownsRow.lt hS g e).2, fun g e e2 => by
    rcases rows_ne hN hS (by decide) with e3 | e3
    · rw [e] at e3; cases e3
    · exact e3 (e.trans e2.symm)⟩
  obtain ⟨aN, cN, rfl, _⟩ := hN.sa
  obtain ⟨aS, cS, rfl, _⟩ := hS.pa
  have HG0 : Hid (Gs w ((w.alloc (.cells #[.slice aN ns.length cN, .slice aS ss.length cS] 25)).alloc (.cells #[.slice none 0 0, .slice none 0 0] 25)) lo (.slice aN ns.length cN) (.slice aS ss.length cS) (.slice aN ns.length cN) (.slice aS ss.length cS) ns ss m (-(m.size : Int), (0 : Int), (0 : Int)) 0 0) := hid0 (by
    have hb : Below w.heap.size w ((w.alloc (.cells #[.slice aN ns.length cN, .slice aS ss.length cS] 25)).alloc (.cells #[.slice none 0 0, .slice none 0 0] 25)) := ((Below.refl _ w).alloc (Nat.le_refl _) _).alloc (by simp) _
    have h1 := heap_alloc_new (w.alloc (.cells #[.slice aN ns.length cN, .slice aS ss.length cS] 25)) (.cells #[.slice none 0 0, .slice none 0 0] 25)
    rw [World.size_alloc] at h1
    refine ⟨(Below.heap_alloc _ _ _ (by simp)).trans (heap_alloc_new w _), h1, ?_, ?_, fun g j c hg _ hc => (hb.cell (p := ⟨g, j, none⟩) (HZ.out.ln g hg)).trans hc, fun g j c hg _ hc => (hb.cell (p := ⟨g, j, none⟩) (HZ.out.ls g hg)).trans hc, ⟨hb.os, hb.tape, hb.output, hb.size, fun i hi _ => hb.block i hi⟩, fun g hg => .inl hg, fun g hg => .inl hg⟩
    · rw [List.replicate_zero, List.append_nil]; exact row_later hN hb
    · rw [List.replicate_zero, List.append_nil]; exact row_later hS hb)
  clear hN hS
  generalize hvN : Value.slice aN ns.length cN = vN at *
  generalize hvS : Value.slice aS ss.length cS = vS at *
  clear hvN hvS
  go_enter Tryz.func23, Tryz.ntmps23
  go_wp2
  go_loopw [5] (fun i wr => ∃ (k : Nat) (uN uS : Value), k ≤ 64 ∧ i = .int .i64 (k : Int) ∧ Hid (Gs w wr lo vN vS uN uS ns ss m (-(m.size : Int), (0 : Int), (0 : Int)) k k)) (fun i _ => 64 - (intOf i).toNat)
  case atStart => exact ⟨0, vN, vS, Nat.zero_le _, rfl, HG0⟩
  case round =>
    clear HG0
    obtain ⟨k, uN, uS, hk, rfl, HG⟩ := hrel
    obtain ⟨x0, x1, xf⟩ := HG.out.cells
    have hws := HG.out.on.size
    by_cases hlt : k < 64
    · have hkI : (k : Int) < 64 := by omega
      obtain ⟨n1, hn1⟩ : ∃ n1, n1 = ns.length + k := ⟨_, rfl⟩
      obtain ⟨n2, hn2⟩ : ∃ n2, n2 = ss.length + k := ⟨_, rfl⟩
      have HOn : Hid (wr.ownsRow lo 9 1 uN n1 (cellsS (ns ++ List.replicate k m))) := hid0 (by have h := HG.out.n; unfold OwnS at h; rw [show (ns ++ List.replicate k m).length = n1 by simp; omega] at h; exact h)
      have HN1 := hid0 hn1
      have HN2 := hid0 hn2
      have hb1 : n1 ≤ 200000000 := by omega
      have hb2 : n2 ≤ 200000000 := by omega
      obtain ⟨xs, hxs⟩ : ∃ xs, cellsS (ns ++ List.replicate k m) = xs := ⟨_, rfl⟩
      rw [hxs] at HOn
      have HXs := hid0 hxs
      obtain ⟨ys, hys⟩ : ∃ ys, cellsP (ss ++ List.replicate k (-(m.size : Int), (0 : Int), (0 : Int))) = ys := ⟨_, rfl⟩
      have HYs := hid0 hys
      have hsl2 : (ss ++ List.replicate k (-(m.size : Int), (0 : Int), (0 : Int))).length = n2 := by simp; omega
      have HSl2 := hid0 hsl2
      clear hn1 hn2 hxs hys hsl2
      go_wp2_with (first
        | (at_builtin; refine wpList_append_own_front _ rfl _ _ 22 rfl lo 9 i0 (.string ⟨#[]⟩) 1 16 Tryz.underlying22 hi hz0 hz1 hz2 rfl (by decide) uN n1 xs rfl (World.ownsRow.alloc HOn.out _) ⟨wr.heap.size, 0, none⟩ 1 1 [.string m] rfl rfl (cell_one_new _ _ _) (by simp [Value.oneCell']) (by unfold maxLen; omega) (by omega) (by simp; omega) ?_; intro v1 w1 hown1 hgrow1 hat1 hfr1; obtain ⟨g1, c1, rfl, h11, h12⟩ := World.ownsRow.form hown1 (by omega); obtain ⟨r1, r2⟩ := HG.out.name HZ.out HN1.out (by rw [HXs.out]; exact hown1) hgrow1 hat1 hfr1; have y0 : w1.cell? ⟨w.heap.size, 0, none⟩ = some uN := (by rw [cell_of_row _ _ _ _ _ _ r1]; rfl); have yf : ∀ j, w1.frozen? ⟨w.heap.size, j, none⟩ = false := (fun j => frozen_of_row _ _ _ _ _ r1); obtain ⟨z0, z1, zf⟩ := r2.cells; have HG1 := hid0 r2; have HOs : Hid ((w1.setCell ⟨w.heap.size, 0, none⟩ (.slice (some ⟨g1, 0, none⟩) (n1 + 1) c1)).ownsRow lo 72 3 uS n2 ys) := hid0 (by have h := r2.s; unfold OwnP at h; rw [HSl2.out, HYs.out] at h; exact h); have hws1 : lo ≤ w1.heap.size := (by have h := r2.on.size; rw [size_set] at h; omega); clear hown1 hgrow1 hat1 hfr1 r1 r2 h11 h12 HG x0 x1 xf)
        | (at_builtin; refine wpList_append_own_front _ rfl _ _ 23 rfl lo 72 p0 (.agg #[.int .i64 0, .int .i64 0, .int .i64 0]) 3 24 Tryz.underlying23 hp pz0 pz1 pz2 rfl (by decide) uS n2 ys rfl (World.ownsRow.alloc HOs.out _) ⟨w1.heap.size, 0, none⟩ 1 1 [.int .i64 (-(m.size : Int)), .int .i64 0, .int .i64 0] rfl rfl (cell3p_at _ _ (size_set _ _ _) _ _ _ _) (by simp [Value.oneCell']) (by unfold maxLen; omega) (by omega) (by simp; omega) ?_; intro v2 w2 hown2 hgrow2 hat2 hfr2; obtain ⟨g2, c2, rfl, h21, h22⟩ := World.ownsRow.form hown2 (by omega); obtain ⟨r1, r2⟩ := HG1.out.span HZ.out HN2.out (by rw [HYs.out]; exact hown2) hgrow2 hat2 hfr2; have t0 : w2.cell? ⟨w.heap.size, 1, none⟩ = some uS := (by rw [cell_of_row _ _ _ _ _ _ r1]; rfl); have tf : ∀ j, w2.frozen? ⟨w.heap.size, j, none⟩ = false := (fun j => frozen_of_row _ _ _ _ _ r1); have HG2 := hid0 r2; clear hown2 hgrow2 hat2 hfr2 r1 r2 h21 h22 HG1 z0 z1 zf y0 yf)
        | fail)
      go_roundw
      case rel => exact ⟨k + 1, _, _, by omega, by go_num, HG2⟩
      case measure => simp [intOf]; omega
    · have hkI : ¬ (k : Int) < 64 := by omega
      obtain rfl : k = 64 := by omega
      obtain ⟨aU, cU, rfl, _⟩ := HG.out.n.sa
      obtain ⟨aV, cV, rfl, _⟩ := HG.out.s.pa
      have q0 : wr.cell? ⟨w.heap.size + 1, 0, none⟩ = some (.slice none 0 0) := by rw [cell_of_row _ _ _ _ _ _ HG.out.res]; rfl
      have q1 : wr.cell? ⟨w.heap.size + 1, 1, none⟩ = some (.slice none 0 0) := by rw [cell_of_row _ _ _ _ _ _ HG.out.res]; rfl
      have qf : ∀ j, wr.frozen? ⟨w.heap.size + 1, j, none⟩ = false := fun j => frozen_of_row _ _ _ _ _ HG.out.res
      obtain ⟨n1, hn1⟩ : ∃ n1, (ns ++ List.replicate 64 m).length = n1 := ⟨_, rfl⟩
      obtain ⟨n2, hn2⟩ : ∃ n2, (ss ++ List.replicate 64 (-(m.size : Int), (0 : Int), (0 : Int))).length = n2 := ⟨_, rfl⟩
      rw [hn1, hn2] at HG
      rw [hn1] at x0
      rw [hn2] at x1
      clear hn1 hn2
      go_wp2
      have b1' := heap_setCell_same _ (w.heap.size + 1) 0 _ _ (.slice aU n1 cU) HG.out.res
      have b2' := heap_setCell_same _ (w.heap.size + 1) 1 _ _ (.slice aV n2 cV) b1'
      have hon : Only w ((wr.setCell ⟨w.heap.size + 1, 0, none⟩ (.slice aU n1 cU)).setCell ⟨w.heap.size + 1, 1, none⟩ (.slice aV n2 cV)) (Two vN vS) := (HG.out.on.trans (Only.setCell _ _ _ _) (fun i hi => .inr (by omega))).trans (Only.setCell _ _ _ _) (fun i hi => .inr (by omega))
      have hoN := own1 (own1 HG.out.n (fun e => row_not HG.out.n HG.out.res (by decide) e.symm) 0 (.slice aU n1 cU)) (fun e => row_not HG.out.n HG.out.res (by decide) e.symm) 1 (.slice aV n2 cV)
      have hoS := own1 (own1 HG.out.s (fun e => row_not HG.out.s HG.out.res (by decide) e.symm) 0 (.slice aU n1 cU)) (fun e => row_not HG.out.s HG.out.res (by decide) e.symm) 1 (.slice aV n2 cV)
      have hkp : ∀ g j, g < w.heap.size → ((wr.setCell ⟨w.heap.size + 1, 0, none⟩ (.slice aU n1 cU)).setCell ⟨w.heap.size + 1, 1, none⟩ (.slice aV n2 cV)).cell? ⟨g, j, none⟩ = wr.cell? ⟨g, j, none⟩ := fun g j hg => World.cell?_of_block (w := wr) (a := ⟨g, j, none⟩) ((Below.heap_setCell _ ⟨w.heap.size + 1, 1, none⟩ _ g (by simp; omega)).trans (Below.heap_setCell wr ⟨w.heap.size + 1, 0, none⟩ _ g (by simp; omega)))
      have z0 : ((wr.setCell ⟨w.heap.size + 1, 0, none⟩ (.slice aU n1 cU)).setCell ⟨w.heap.size + 1, 1, none⟩ (.slice aV n2 cV)).cell? ⟨w.heap.size + 1, 0, none⟩ = some (.slice aU n1 cU) := by rw [cell_of_row _ _ _ _ _ _ b2']; rfl
      have z1 : ((wr.setCell ⟨w.heap.size + 1, 0, none⟩ (.slice aU n1 cU)).setCell ⟨w.heap.size + 1, 1, none⟩ (.slice aV n2 cV)).cell? ⟨w.heap.size + 1, 1, none⟩ = some (.slice aV n2 cV) := by rw [cell_of_row _ _ _ _ _ _ b2']; rfl
      clear b1' b2'
      generalize (wr.setCell ⟨w.heap.size + 1, 0, none⟩ (.slice aU n1 cU)).setCell ⟨w.heap.size + 1, 1, none⟩ (.slice aV n2 cV) = W at hon hoN hoS hkp z0 z1 ⊢
      refine bodyPost_ret (by simp [results, Tryz.results23, go_sem, z0, z1]; try rfl) rfl ?_
      exact ⟨_, _, rfl, hoN, hoS, fun g j c hg hj hc => (hkp g j (HZ.out.ln g hg)).trans (HG.out.fn g j c hg hj hc), fun g j c hg hj hc => (hkp g j (HZ.out.ls g hg)).trans (HG.out.fs g j c hg hj hc), hon, HG.out.bn, HG.out.bs⟩
end Go.Proofs.YtiiflacadndhcaaGreatDoor
namespace Go.Proofs.YtiiflacadndhcaaGreatDoor
open Go.RowKit Go.Shelf
def Rg (lo hi g : Nat) : Prop := lo ≤ g ∧ g < hi
/-- An answer in its box, readable; where its rows lie. -/
structure Rd (w : World) (p : Nat) (vN vS : Value) (ns : List ByteArray) (ss : List Sp) (lo hi l2 h2 : Nat) : Prop where
  box : w.heap[p]? = some (.cells #[vN, vS] 25 (0, 0))
  sn : ∃ a c, vN = .slice a ns.length c ∧ SA w a ns
  sp : ∃ a c, vS = .slice a ss.length c ∧ PA w a ss
  dn : ∀ g, Two vN vS g → Rg lo hi g ∨ Rg l2 h2 g
/-- An answer in its box, its rows its own. -/
structure Vr (w : World) (lo hi : Nat) (vN vS : Value) (ns : List ByteArray) (ss : List Sp) : Prop where
  box : w.heap[hi]? = some (.cells #[vN, vS] 25 (0, 0))
  n : OwnS w lo vN ns
  s : OwnP w lo vS ss
  lt : ∀ g, Two vN vS g → g < hi
section
variable {w w' : World} {p lo hi l2 h2 a b : Nat} {vN vS uN uS : Value} {ns : List ByteArray} {ss : List Sp}
theorem row_only {base : Nat} {t : TypeId} {size n : Nat} {v : Value} {xs : List Value} {S : Nat → Prop} (h : w.ownsRow base t size v n xs) (ho : Only w w' S) (hn : ∀ g, some g = v.ownBlock → ¬ S g) : w'.ownsRow base t size v n xs := by
  obtain ⟨h1, h2⟩ := h
  refine ⟨h1, ?_⟩
  rcases h2 with h2 | ⟨g, cap, cur, rfl, hg, hh, r⟩
  · exact .inl h2
  · exact .inr ⟨g, cap, cur, rfl, hg, (ho.block g (Array.getElem?_eq_some_iff.1 hh).1 (hn g rfl)).trans hh, r⟩
theorem only_below (h : Below w.heap.size w w') : Only w w' (Rg 0 0) := Only.ofBelow h _ (fun i h1 h2 => by omega)
theorem Rd.cells (h : Rd w p vN vS ns ss lo hi l2 h2) : w.cell? ⟨p, 0, none⟩ = some vN ∧ w.cell? ⟨p, 1, none⟩ = some vS ∧ p < w.heap.size :=
  ⟨by rw [cell_of_row _ _ _ _ _ _ h.box]; rfl, by rw [cell_of_row _ _ _ _ _ _ h.box]; rfl, (Array.getElem?_eq_some_iff.1 h.box).1⟩
theorem Rd.apart (h : Rd w p vN vS ns ss lo hi l2 h2) (ho : Only w w' (Rg a b)) (hp : p < a ∨ b ≤ p) (e1 : b ≤ lo ∨ hi ≤ a) (e2 : b ≤ l2 ∨ h2 ≤ a) : Rd w' p vN vS ns ss lo hi l2 h2 := by
  have hd : ∀ g, Two vN vS g → ¬ Rg a b g := fun g hg hr => by
    obtain ⟨r1, r2⟩ := hr
    rcases h.dn g hg with ⟨q1, q2⟩ | ⟨q1, q2⟩ <;> omega
  refine ⟨(ho.block p h.cells.2.2 (fun hr => by obtain ⟨r1, r2⟩ := hr; omega)).trans h.box, ?_, ?_, h.dn⟩
  · obtain ⟨x, c, rfl, hs⟩ := h.sn
    refine ⟨x, c, rfl, ⟨fun k hk => ?_⟩⟩
    obtain ⟨g, off, rfl, h1⟩ := hs.at' k hk
    exact ⟨g, off, rfl, (ho.cell (p := ⟨g, off + k, none⟩) (World.block_lt_of_cell? w _ h1) (hd g (.inl rfl))).trans h1⟩
  · obtain ⟨x, c, rfl, hs⟩ := h.sp
    refine ⟨x, c, rfl, ⟨fun k hk => ?_⟩⟩
    obtain ⟨g, off, rfl, hl, c0, c1, c2⟩ := hs.at' k hk
    have hg := hd g (.inr rfl)
    exact ⟨g, off, rfl, Nat.lt_of_lt_of_le hl ho.size, (ho.cell (p := ⟨g, off + k * 3, none⟩) hl hg).trans c0, (ho.cell (p := ⟨g, off + k * 3 + 1, none⟩) hl hg).trans c1, (ho.cell (p := ⟨g, off + k * 3 + 2, none⟩) hl hg).trans c2⟩
theorem Rd.below (h : Rd w p vN vS ns ss lo hi l2 h2) (hb : Below w.heap.size w w') : Rd w' p vN vS ns ss lo hi l2 h2 := h.apart (only_below hb) (.inr (Nat.zero_le _)) (.inl (Nat.zero_le _)) (.inl (Nat.zero_le _))
theorem Vr.cells (h : Vr w lo hi vN vS ns ss) : w.cell? ⟨hi, 0, none⟩ = some vN ∧ w.cell? ⟨hi, 1, none⟩ = some vS ∧ hi < w.heap.size :=
  ⟨by rw [cell_of_row _ _ _ _ _ _ h.box]; rfl, by rw [cell_of_row _ _ _ _ _ _ h.box]; rfl, (Array.getElem?_eq_some_iff.1 h.box).1⟩
theorem Vr.rd (h : Vr w lo hi vN vS ns ss) : Rd w hi vN vS ns ss lo hi 0 0 :=
  ⟨h.box, h.n.sa, h.s.pa, fun g hg => .inl ⟨by
    rcases hg with e | e
    · exact (World.ownsRow.lt h.n g e.symm).1
    · exact (World.ownsRow.lt h.s g e.symm).1, h.lt g hg⟩⟩
theorem Vr.apart (h : Vr w lo hi vN vS ns ss) (ho : Only w w' (Rg a b)) (e : b ≤ lo ∨ hi < a) (hl : lo ≤ hi) : Vr w' lo hi vN vS ns ss := by
  have hd : ∀ g, Two vN vS g → ¬ Rg a b g := fun g hg hr => by
    obtain ⟨r1, r2⟩ := hr
    rcases h.rd.dn g hg with ⟨q1, q2⟩ | ⟨q1, q2⟩ <;> omega
  exact ⟨(ho.block hi h.cells.2.2 (fun hr => by obtain ⟨r1, r2⟩ := hr; omega)).trans h.box, row_only h.n ho (fun g hg => hd g (.inl hg)), row_only h.s ho (fun g hg => hd g (.inr hg)), h.lt⟩
theorem Vr.below (h : Vr w lo hi vN vS ns ss) (hb : Below w.heap.size w w') : Vr w' lo hi vN vS ns ss :=
  ⟨(hb.block hi h.cells.2.2).trans h.box, row_later h.n hb, row_later h.s hb, h.lt⟩
theorem Vr.born (hN : OwnS w' w.heap.size vN ns) (hS : OwnP w' w.heap.size vS ss) : Vr (w'.alloc (.cells #[vN, vS] 25)) w.heap.size w'.heap.size vN vS ns ss :=
  ⟨heap_alloc_new w' _, World.ownsRow.alloc hN _, World.ownsRow.alloc hS _, fun g hg => by
    rcases hg with e | e
    · exact (World.ownsRow.lt hN g e.symm).2
    · exact (World.ownsRow.lt hS g e.symm).2⟩
theorem below_alloc (h : Below w.heap.size w w') (o : Obj) : Below w.heap.size w (w'.alloc o) := h.alloc h.size o
/-- All is m. -/
structure Full (m : ByteArray) (ns : List ByteArray) (ss : List Sp) : Prop where
  n : ∀ x ∈ ns, x = m
  s : ∀ t ∈ ss, t.1 = -(m.size : Int)
  nl : ns.length ≤ 100000000
  sl : ss.length ≤ 100000000
theorem fullR (m : ByteArray) (hm : m.size ≤ 100) (h : Rd w p vN vS ns ss lo hi l2 h2) (hf : Full m ns ss) :
    Calls Tryz.prog 24 #[.agg #[vN, vS], .string m] w fun e w' => e = .returned (.bool true) ∧ Below w.heap.size w w' := by
  obtain ⟨a, c, rfl, h1⟩ := h.sn
  obtain ⟨b, d, rfl, h2⟩ := h.sp
  exact full_any a b c d ns ss m w hm hf.nl hf.sl h1 h2 hf.n hf.s
theorem sameR {p' lo' hi' l2' h2' : Nat} (h : Rd w p vN vS ns ss lo hi l2 h2) (h' : Rd w p' uN uS ns ss lo' hi' l2' h2') (hn : ns.length ≤ 1000000) (hs : ss.length ≤ 1000000) :
    Calls Tryz.prog 10 #[.agg #[vN, vS], .agg #[uN, uS]] w fun e w' => e = .returned (.bool true) ∧ Below w.heap.size w w' := by
  obtain ⟨a, c, rfl, h1⟩ := h.sn
  obtain ⟨b, d, rfl, h2⟩ := h.sp
  obtain ⟨a', c', rfl, h3⟩ := h'.sn
  obtain ⟨b', d', rfl, h4⟩ := h'.sp
  exact same_eq ns ss a b a' b' c d c' d' w (by omega) (by omega) h1 h2 h3 h4
theorem fillV (m : ByteArray) (hm : m.size ≤ 100) (h : Vr w lo hi vN vS ns ss) (hn : ns.length ≤ 1000000) (hs : ss.length ≤ 1000000) :
    Calls Tryz.prog 22 #[.agg #[vN, vS], .string m] w fun e w' => e = .returned (.tuple #[]) ∧ Only w w' (Rg lo hi) ∧ ∃ ns' ss', Vr w' lo hi vN vS ns' ss' ∧ Full m ns' ss' ∧ ns'.length ≤ 1000000 ∧ ss'.length ≤ 1000000 := by
  refine (fill_any vN vS ns ss m lo w hm (by omega) (by omega) h.n h.s).mono ?_
  rintro e w' ⟨rfl, h1, h2, h3⟩
  have h4 : Only w w' (Rg lo hi) := h3.mono (fun g hg => (h.rd.dn g hg).elim id (fun q => absurd q.2 (Nat.not_lt_zero _)))
  refine ⟨rfl, h4, _, _, ⟨(h4.block hi h.cells.2.2 (fun q => Nat.lt_irrefl _ q.2)).trans h.box, h1, h2, h.lt⟩, ⟨fun x hx => List.eq_of_mem_replicate hx, fun t ht => by rw [List.eq_of_mem_replicate ht], ?_, ?_⟩, ?_, ?_⟩ <;> simp <;> omega
theorem sa_front {g0 : World} {L : List ByteArray} {x : Option Addr} {n c : Nat} (h : OwnS w lo (.slice x n c) L) (hs : SA w x L) (hf : ∀ g j u, (Value.slice x n c).ownBlock = some g → j < L.length → w.cell? ⟨g, j, none⟩ = some u → g0.cell? ⟨g, j, none⟩ = some u) : SA g0 x L := ⟨fun k hk => by
  obtain ⟨g, cap, e, _, _⟩ := World.ownsRow.form h (by omega)
  obtain ⟨b, off, rfl, h1⟩ := hs.at' k hk
  simp only [Value.slice.injEq, Option.some.injEq, Addr.mk.injEq] at e
  obtain ⟨⟨rfl, rfl, _⟩, _⟩ := e
  exact ⟨b, 0, rfl, hf b (0 + k) _ rfl (by omega) h1⟩⟩
theorem pa_front {g0 : World} {L : List Sp} {x : Option Addr} {n c : Nat} (h : OwnP w lo (.slice x n c) L) (hs : PA w x L) (hz : w.heap.size ≤ g0.heap.size) (hf : ∀ g j u, (Value.slice x n c).ownBlock = some g → j < L.length * 3 → w.cell? ⟨g, j, none⟩ = some u → g0.cell? ⟨g, j, none⟩ = some u) : PA g0 x L := ⟨fun k hk => by
  obtain ⟨g, cap, e, _, _⟩ := World.ownsRow.form h (by omega)
  obtain ⟨b, off, rfl, hl, h0, h1, h2⟩ := hs.at' k hk
  simp only [Value.slice.injEq, Option.some.injEq, Addr.mk.injEq] at e
  obtain ⟨⟨rfl, rfl, _⟩, _⟩ := e
  exact ⟨b, 0, rfl, Nat.lt_of_lt_of_le hl hz, hf b _ _ rfl (by omega) h0, hf b _ _ rfl (by omega) h1, hf b _ _ rfl (by omega) h2⟩⟩
theorem grownV (m : ByteArray) (hm : m.size ≤ 100) (h : Vr w lo hi vN vS ns ss) (hl : lo ≤ hi) (hf : Full m ns ss) (hn : ns.length ≤ 1000000) (hs : ss.length ≤ 1000000) :
    Calls Tryz.prog 23 #[.agg #[vN, vS], .string m] w fun e w' => ∃ a n c b k d, e = .returned (.agg #[.slice a n c, .slice b k d]) ∧ Only w w' (Rg lo hi) ∧ Rd w' hi vN vS ns ss lo hi 0 0 ∧
      ∃ ns' ss', Rd (w'.alloc (.cells #[.slice a n c, .slice b k d] 25)) w'.heap.size (.slice a n c) (.slice b k d) ns' ss' lo hi w.heap.size w'.heap.size ∧ Full m ns' ss' := by
  refine (grown_any vN vS ns ss m lo w hm (by omega) (by omega) (by have := h.cells.2.2; omega) h.n h.s).mono ?_
  rintro e w' ⟨uN, uS, rfl, h1, h2, f1, f2, ho, b1, b2⟩
  have h4 : Only w w' (Rg lo hi) := ho.mono (fun g hg => (h.rd.dn g hg).elim id (fun q => absurd q.2 (Nat.not_lt_zero _)))
  obtain ⟨a, c, rfl, s1⟩ := h1.sa
  obtain ⟨b, d, rfl, s2⟩ := h2.pa
  refine ⟨a, _, c, b, _, d, rfl, h4, ⟨(h4.block hi h.cells.2.2 (fun q => Nat.lt_irrefl _ q.2)).trans h.box, ?_, ?_, h.rd.dn⟩, _, _, ⟨heap_alloc_new w' _, OwnS.sa (World.ownsRow.alloc h1 _), OwnP.pa (World.ownsRow.alloc h2 _), fun g hg => ?_⟩, ⟨?_, ?_, ?_, ?_⟩⟩
  · obtain ⟨x, cx, rfl, hx⟩ := h.n.sa
    exact ⟨x, cx, rfl, sa_front h.n hx f1⟩
  · obtain ⟨x, cx, rfl, hx⟩ := h.s.pa
    exact ⟨x, cx, rfl, pa_front h.s hx h4.size f2⟩
  · rcases hg with e | e
    · rcases b1 g e.symm with q | q
      · exact (h.rd.dn g (.inl q.symm)).elim .inl (fun q => absurd q.2 (Nat.not_lt_zero _))
      · exact .inr ⟨q, (World.ownsRow.lt h1 g e.symm).2⟩
    · rcases b2 g e.symm with q | q
      · exact (h.rd.dn g (.inr q.symm)).elim .inl (fun q => absurd q.2 (Nat.not_lt_zero _))
      · exact .inr ⟨q, (World.ownsRow.lt h2 g e.symm).2⟩
  · intro x hx
    rcases List.mem_append.1 hx with q | q
    · exact hf.n x q
    · exact List.eq_of_mem_replicate q
  · intro t ht
    rcases List.mem_append.1 ht with q | q
    · exact hf.s t q
    · rw [List.eq_of_mem_replicate q]
  · simp; omega
  · simp; omega
end
end Go.Proofs.YtiiflacadndhcaaGreatDoor
namespace Go.Proofs.YtiiflacadndhcaaGreatDoor
open Go.RowKit Go.Shelf
def Sq (B la pa lb pb lc pc lw pw : Nat) : Prop := B ≤ la ∧ la ≤ pa ∧ pa < lb ∧ lb ≤ pb ∧ pb < lc ∧ lc ≤ pc ∧ pc < lw ∧ lw ≤ pw
set_option maxRecDepth 10000 in
set_option maxHeartbeats 1600000 in
theorem apart_nil (s : ByteArray) (w : World) (names names2 : List ByteArray) (sp sp2 : List Sp) (line line2 : Int) (num num2 : Int) (hn : names.length ≤ 1000000) (hs : sp.length ≤ 1000000) (hn2 : names2.length ≤ 1000000) (hs2 : sp2.length ≤ 1000000)
    (hK : Calls Tryz.prog 12 #[] w fun e w' => e = .returned (.bool true) ∧ Below w.heap.size w w')
    (hP : ∀ W, Below w.heap.size w W → Calls Tryz.prog 8 #[.string s] W fun e w' => ∃ vN vS, e = .returned (.tuple #[.agg #[vN, vS], .int .i64 line, .nilIface]) ∧ OwnS w' W.heap.size vN names ∧ OwnP w' W.heap.size vS sp ∧ Below W.heap.size W w')
    (hP2 : ∀ W, Below w.heap.size w W → Calls Tryz.prog 8 #[.string ⟨#[48, 48, 52, 49, 59, 97, 10, 48, 48, 52, 51, 59, 98]⟩] W fun e w' => ∃ vN vS, e = .returned (.tuple #[.agg #[vN, vS], .int .i64 line2, .nilIface]) ∧ OwnS w' W.heap.size vN names2 ∧ OwnP w' W.heap.size vS sp2 ∧ Below W.heap.size W w')
    (hR : ∀ W, Below w.heap.size w W → Calls Tryz.prog 9 #[.string s] W fun e w' => ∃ vN vS, e = .returned (.tuple #[.agg #[vN, vS], .int .i64 line, .int .i64 num]) ∧ OwnS w' W.heap.size vN names ∧ OwnP w' W.heap.size vS sp ∧ Below W.heap.size W w')
    (hR2 : ∀ W, Below w.heap.size w W → Calls Tryz.prog 9 #[.string ⟨#[48, 48, 52, 49, 59, 97, 10, 48, 48, 52, 51, 59, 98]⟩] W fun e w' => ∃ vN vS, e = .returned (.tuple #[.agg #[vN, vS], .int .i64 line2, .int .i64 num2]) ∧ OwnS w' W.heap.size vN names2 ∧ OwnP w' W.heap.size vS sp2 ∧ Below W.heap.size W w') :
    Calls Tryz.prog 7 #[.string s] w fun e w' => e = .returned (.bool true) ∧ Below w.heap.size w w' := by
  have HK := hid0 hK
  have HP := hid0 hP
  have HP2 := hid0 hP2
  have HR := hid0 hR
  have HR2 := hid0 hR2
  have HN := hid0 (And.intro hn hs)
  have HN2 := hid0 (And.intro hn2 hs2)
  clear hK hP hP2 hR hR2 hn hs hn2 hs2
  go_enter Tryz.func7, Tryz.ntmps7
  have mk := hid0 True.intro
  go_wp2_with (first | (clear mk; go_at_call 12; refine HK.out.mono ?_; rintro e w1 ⟨rfl, hb⟩; have HB : Hid (Below w.heap.size w w1) := hid0 hb; have HQ0 := hid0 hb.size; clear hb HK) | fail)
  have mk := hid0 True.intro
  go_wp2_with (first | (clear mk; go_at_call 8; refine (HP.out _ HB.out).mono ?_; rintro e w2 ⟨vN, vS, rfl, hN, hS, hb⟩; obtain ⟨a2, c2, rfl, _⟩ := hN.sa; obtain ⟨b2, d2, rfl, _⟩ := hS.pa; have HVa := hid0 (Vr.born hN hS); have hbb := below_alloc hb (.cells #[.slice a2 names.length c2, .slice b2 sp.length d2] 25); have HQ2 := hid0 hb.size; replace HB := hid0 (HB.out.trans (hbb.mono HB.out.size)); clear hN hS hb hbb) | fail)
  generalize World.alloc w2 (.cells #[.slice a2 names.length c2, .slice b2 sp.length d2] 25) = W2 at HVa HB ⊢
  have mk := hid0 True.intro
  go_wp2_with (first | (clear mk; go_at_call 8; refine (HP.out _ HB.out).mono ?_; rintro e w3 ⟨vN, vS, rfl, hN, hS, hb⟩; obtain ⟨a3, c3, rfl, _⟩ := hN.sa; obtain ⟨b3, d3, rfl, _⟩ := hS.pa; have HVb := hid0 (Vr.born hN hS); have hbb := below_alloc hb (.cells #[.slice a3 names.length c3, .slice b3 sp.length d3] 25); have HQ3 := hid0 (And.intro HVa.out.cells.2.2 hb.size); replace HVa := hid0 (HVa.out.below hbb); replace HB := hid0 (HB.out.trans (hbb.mono HB.out.size)); clear hN hS hb hbb) | fail)
  generalize World.alloc w3 (.cells #[.slice a3 names.length c3, .slice b3 sp.length d3] 25) = W3 at HVa HVb HB ⊢
  have mk := hid0 True.intro
  go_wp2_with (first | (clear mk; go_at_call 8; refine (HP2.out _ HB.out).mono ?_; rintro e w4 ⟨vN, vS, rfl, hN, hS, hb⟩; obtain ⟨a4, c4, rfl, _⟩ := hN.sa; obtain ⟨b4, d4, rfl, _⟩ := hS.pa; have HVc := hid0 (Vr.born hN hS); have hbb := below_alloc hb (.cells #[.slice a4 names2.length c4, .slice b4 sp2.length d4] 25); have HQ4 := hid0 (And.intro HVb.out.cells.2.2 hb.size); replace HVa := hid0 (HVa.out.below hbb); replace HVb := hid0 (HVb.out.below hbb); replace HB := hid0 (HB.out.trans (hbb.mono HB.out.size)); clear hN hS hb hbb) | fail)
  generalize World.alloc w4 (.cells #[.slice a4 names2.length c4, .slice b4 sp2.length d4] 25) = W4 at HVa HVb HVc HB ⊢
  have mk := hid0 True.intro
  go_wp2_with (first | (clear mk; go_at_call 9; refine (HR.out _ HB.out).mono ?_; rintro e w5 ⟨vN, vS, rfl, hN, hS, hb⟩; obtain ⟨a5, c5, rfl, _⟩ := hN.sa; obtain ⟨b5, d5, rfl, _⟩ := hS.pa; have HVw := hid0 (Vr.born hN hS); have hbb := below_alloc hb (.cells #[.slice a5 names.length c5, .slice b5 sp.length d5] 25); have HQ5 := hid0 (And.intro HVc.out.cells.2.2 hb.size); replace HVa := hid0 (HVa.out.below hbb); replace HVb := hid0 (HVb.out.below hbb); replace HVc := hid0 (HVc.out.below hbb); replace HB := hid0 (HB.out.trans (hbb.mono HB.out.size)); clear hN hS hb hbb) | fail)
  generalize World.alloc w5 (.cells #[.slice a5 names.length c5, .slice b5 sp.length d5] 25) = W5 at HVa HVb HVc HVw HB ⊢
  have mk := hid0 True.intro
  go_wp2_with (first | (clear mk; go_at_call 9; refine (HR2.out _ HB.out).mono ?_; rintro e w6 ⟨vN, vS, rfl, hN, hS, hb⟩; obtain ⟨a6, c6, rfl, _⟩ := hN.sa; obtain ⟨b6, d6, rfl, _⟩ := hS.pa; have HVt := hid0 (Vr.born hN hS); have hbb := below_alloc hb (.cells #[.slice a6 names2.length c6, .slice b6 sp2.length d6] 25); have HQ6 := hid0 (And.intro HVw.out.cells.2.2 hb.size); obtain ⟨x0, x1, xz⟩ := (HVa.out.below hb).cells; obtain ⟨y0, y1, yz⟩ := (HVw.out.below hb).cells; replace HVa := hid0 (HVa.out.below hbb); replace HVb := hid0 (HVb.out.below hbb); replace HVc := hid0 (HVc.out.below hbb); replace HVw := hid0 (HVw.out.below hbb); replace HB := hid0 (HB.out.trans (hbb.mono HB.out.size)); clear hN hS hb hbb; have HQ : Hid (Sq w.heap.size w1.heap.size w2.heap.size W2.heap.size w3.heap.size W3.heap.size w4.heap.size W4.heap.size w5.heap.size) := hid0 ⟨HQ0.out, HQ2.out, HQ3.out.1, HQ3.out.2, HQ4.out.1, HQ4.out.2, HQ5.out.1, HQ5.out.2⟩; clear HQ0 HQ2 HQ3 HQ4 HQ5 HQ6) | fail)
  generalize World.alloc w6 (.cells #[.slice a6 names2.length c6, .slice b6 sp2.length d6] 25) = W6 at HVa HVb HVc HVw HVt HB ⊢
  clear x0 x1 xz y0 y1 yz
  have mk := hid0 True.intro
  go_wp2_with (first | (clear mk; go_at_call 10; refine (sameR HVa.out.rd HVw.out.rd HN.out.1 HN.out.2).mono ?_; rintro e w7 ⟨rfl, hb⟩; replace HVa := hid0 (HVa.out.below hb); replace HVb := hid0 (HVb.out.below hb); replace HVc := hid0 (HVc.out.below hb); replace HVw := hid0 (HVw.out.below hb); replace HVt := hid0 (HVt.out.below hb); replace HB := hid0 (HB.out.trans (hb.mono HB.out.size)); clear hb; obtain ⟨x0, x1, xz⟩ := HVb.out.cells; obtain ⟨y0, y1, yz⟩ := HVw.out.cells) | fail)
  have mk := hid0 True.intro
  go_wp2_with (first | (clear mk; go_at_call 10; refine (sameR HVb.out.rd HVw.out.rd HN.out.1 HN.out.2).mono ?_; rintro e w8 ⟨rfl, hb⟩; replace HVa := hid0 (HVa.out.below hb); replace HVb := hid0 (HVb.out.below hb); replace HVc := hid0 (HVc.out.below hb); replace HVw := hid0 (HVw.out.below hb); replace HVt := hid0 (HVt.out.below hb); replace HB := hid0 (HB.out.trans (hb.mono HB.out.size)); clear hb; clear x0 x1 xz y0 y1 yz; obtain ⟨x0, x1, xz⟩ := HVc.out.cells; obtain ⟨y0, y1, yz⟩ := HVt.out.cells) | fail)
  have mk := hid0 True.intro
  go_wp2_with (first | (clear mk; go_at_call 10; refine (sameR HVc.out.rd HVt.out.rd HN2.out.1 HN2.out.2).mono ?_; rintro e w9 ⟨rfl, hb⟩; replace HVa := hid0 (HVa.out.below hb); replace HVb := hid0 (HVb.out.below hb); replace HVc := hid0 (HVc.out.below hb); replace HVw := hid0 (HVw.out.below hb); replace HVt := hid0 (HVt.out.below hb); replace HB := hid0 (HB.out.trans (hb.mono HB.out.size)); clear hb; clear x0 x1 xz y0 y1 yz; obtain ⟨x0, x1, xz⟩ := HVa.out.cells; clear HVt) | fail)
  have mk := hid0 True.intro
  go_wp2_with (first | (clear mk; go_at_call 22; refine (fillV ⟨#[109]⟩ (by decide) HVa.out HN.out.1 HN.out.2).mono ?_; rintro e w10 ⟨rfl, ho, nsa, ssa, hv, hf, hna, hsa⟩; have HFa := hid0 (And.intro hf (And.intro hna hsa)); replace HVb := hid0 (HVb.out.apart ho (by have q := HQ.out; unfold Sq at q; omega) (by have q := HQ.out; unfold Sq at q; omega)); replace HVc := hid0 (HVc.out.apart ho (by have q := HQ.out; unfold Sq at q; omega) (by have q := HQ.out; unfold Sq at q; omega)); replace HVw := hid0 (HVw.out.apart ho (by have q := HQ.out; unfold Sq at q; omega) (by have q := HQ.out; unfold Sq at q; omega)); clear HVa; have HVa := hid0 hv; replace HB := hid0 (HB.out.trans (ho.below HB.out.size (fun i hi => by have q := HQ.out; unfold Sq at q; have q2 := hi.1; omega))); clear ho hv hf hna hsa x0 x1 xz; obtain ⟨x0, x1, xz⟩ := HVb.out.cells) | fail)
  have mk := hid0 True.intro
  go_wp2_with (first | (clear mk; go_at_call 22; refine (fillV ⟨#[109, 109]⟩ (by decide) HVb.out HN.out.1 HN.out.2).mono ?_; rintro e w11 ⟨rfl, ho, nsb, ssb, hv, hf, hna, hsa⟩; have HFb := hid0 (And.intro hf (And.intro hna hsa)); replace HVa := hid0 (HVa.out.apart ho (by have q := HQ.out; unfold Sq at q; omega) (by have q := HQ.out; unfold Sq at q; omega)); replace HVc := hid0 (HVc.out.apart ho (by have q := HQ.out; unfold Sq at q; omega) (by have q := HQ.out; unfold Sq at q; omega)); replace HVw := hid0 (HVw.out.apart ho (by have q := HQ.out; unfold Sq at q; omega) (by have q := HQ.out; unfold Sq at q; omega)); clear HVb; have HVb := hid0 hv; replace HB := hid0 (HB.out.trans (ho.below HB.out.size (fun i hi => by have q := HQ.out; unfold Sq at q; have q2 := hi.1; omega))); clear ho hv hf hna hsa x0 x1 xz; obtain ⟨x0, x1, xz⟩ := HVc.out.cells) | fail)
  have mk := hid0 True.intro
  go_wp2_with (first | (clear mk; go_at_call 22; refine (fillV ⟨#[109, 109, 109]⟩ (by decide) HVc.out HN2.out.1 HN2.out.2).mono ?_; rintro e w12 ⟨rfl, ho, nsc, ssc, hv, hf, hna, hsa⟩; have HFc := hid0 (And.intro hf (And.intro hna hsa)); replace HVa := hid0 (HVa.out.apart ho (by have q := HQ.out; unfold Sq at q; omega) (by have q := HQ.out; unfold Sq at q; omega)); replace HVb := hid0 (HVb.out.apart ho (by have q := HQ.out; unfold Sq at q; omega) (by have q := HQ.out; unfold Sq at q; omega)); replace HVw := hid0 (HVw.out.apart ho (by have q := HQ.out; unfold Sq at q; omega) (by have q := HQ.out; unfold Sq at q; omega)); clear HVc; have HVc := hid0 hv; replace HB := hid0 (HB.out.trans (ho.below HB.out.size (fun i hi => by have q := HQ.out; unfold Sq at q; have q2 := hi.1; omega))); clear ho hv hf hna hsa x0 x1 xz; obtain ⟨x0, x1, xz⟩ := HVa.out.cells) | fail)
  have mk := hid0 True.intro
  go_wp2_with (first | (clear mk; go_at_call 23; refine (grownV ⟨#[109]⟩ (by decide) HVa.out (by have q := HQ.out; unfold Sq at q; omega) HFa.out.1 HFa.out.2.1 HFa.out.2.2).mono ?_; rintro e w13 ⟨g13, n13, i13, j13, m13, l13, rfl, ho, hra, nsp, ssp, hrp, hfp⟩; have HFp := hid0 hfp; have HZ13 := hid0 (And.intro HVw.out.cells.2.2 ho.size); have hbb := (below_alloc (Below.refl w13.heap.size w13) (.cells #[.slice g13 n13 i13, .slice j13 m13 l13] 25)); replace HVb := hid0 (HVb.out.apart ho (by have q := HQ.out; unfold Sq at q; omega) (by have q := HQ.out; unfold Sq at q; omega)); replace HVc := hid0 (HVc.out.apart ho (by have q := HQ.out; unfold Sq at q; omega) (by have q := HQ.out; unfold Sq at q; omega)); replace HVw := hid0 (HVw.out.apart ho (by have q := HQ.out; unfold Sq at q; omega) (by have q := HQ.out; unfold Sq at q; omega)); clear x0 x1 xz; obtain ⟨x0, x1, xz⟩ := HVb.out.cells; replace HVb := hid0 (HVb.out.below hbb); replace HVc := hid0 (HVc.out.below hbb); replace HVw := hid0 (HVw.out.below hbb); clear HVa; have HRa := hid0 (hra.below hbb); have HRp := hid0 hrp; replace HB := hid0 ((HB.out.trans (ho.below HB.out.size (fun i hi => by have q := HQ.out; unfold Sq at q; have q2 := hi.1; omega))).trans (hbb.mono (by have q := HB.out.size; have q2 := ho.size; omega))); clear ho hra hrp hfp hbb) | fail)
  generalize World.alloc w13 (.cells #[.slice g13 n13 i13, .slice j13 m13 l13] 25) = W13 at HVb HVc HVw HRa HRp HB ⊢
  have mk := hid0 True.intro
  go_wp2_with (first | (clear mk; go_at_call 23; refine (grownV ⟨#[109, 109]⟩ (by decide) HVb.out (by have q := HQ.out; unfold Sq at q; omega) HFb.out.1 HFb.out.2.1 HFb.out.2.2).mono ?_; rintro e w14 ⟨g14, n14, i14, j14, m14, l14, rfl, ho, hra, nsq, ssq, hrp, hfp⟩; have HFq := hid0 hfp; have HZ14 := hid0 (And.intro HVw.out.cells.2.2 ho.size); have hbb := (below_alloc (Below.refl w14.heap.size w14) (.cells #[.slice g14 n14 i14, .slice j14 m14 l14] 25)); replace HVc := hid0 (HVc.out.apart ho (by have q := HQ.out; unfold Sq at q; omega) (by have q := HQ.out; unfold Sq at q; omega)); replace HVw := hid0 (HVw.out.apart ho (by have q := HQ.out; unfold Sq at q; omega) (by have q := HQ.out; unfold Sq at q; omega)); replace HRa := hid0 (HRa.out.apart ho (by have q := HQ.out; unfold Sq at q; have z13 := HZ13.out; have z14 := HZ14.out; omega) (by have q := HQ.out; unfold Sq at q; have z13 := HZ13.out; have z14 := HZ14.out; omega) (by have q := HQ.out; unfold Sq at q; have z13 := HZ13.out; have z14 := HZ14.out; omega)); replace HRp := hid0 (HRp.out.apart ho (by have q := HQ.out; unfold Sq at q; have z13 := HZ13.out; have z14 := HZ14.out; omega) (by have q := HQ.out; unfold Sq at q; have z13 := HZ13.out; have z14 := HZ14.out; omega) (by have q := HQ.out; unfold Sq at q; have z13 := HZ13.out; have z14 := HZ14.out; omega)); clear x0 x1 xz; obtain ⟨x0, x1, xz⟩ := HVc.out.cells; replace HVc := hid0 (HVc.out.below hbb); replace HVw := hid0 (HVw.out.below hbb); replace HRa := hid0 (HRa.out.below hbb); replace HRp := hid0 (HRp.out.below hbb); clear HVb; have HRb := hid0 (hra.below hbb); have HRq := hid0 hrp; replace HB := hid0 ((HB.out.trans (ho.below HB.out.size (fun i hi => by have q := HQ.out; unfold Sq at q; have q2 := hi.1; omega))).trans (hbb.mono (by have q := HB.out.size; have q2 := ho.size; omega))); clear ho hra hrp hfp hbb) | fail)
  generalize World.alloc w14 (.cells #[.slice g14 n14 i14, .slice j14 m14 l14] 25) = W14 at HVc HVw HRa HRp HRb HRq HB ⊢
  have mk := hid0 True.intro
  go_wp2_with (first | (clear mk; go_at_call 23; refine (grownV ⟨#[109, 109, 109]⟩ (by decide) HVc.out (by have q := HQ.out; unfold Sq at q; omega) HFc.out.1 HFc.out.2.1 HFc.out.2.2).mono ?_; rintro e w15 ⟨g15, n15, i15, j15, m15, l15, rfl, ho, hra, nsr, ssr, hrp, hfp⟩; have HFr := hid0 hfp; have HZ15 := hid0 (And.intro HVw.out.cells.2.2 ho.size); have hbb := (below_alloc (Below.refl w15.heap.size w15) (.cells #[.slice g15 n15 i15, .slice j15 m15 l15] 25)); replace HVw := hid0 (HVw.out.apart ho (by have q := HQ.out; unfold Sq at q; omega) (by have q := HQ.out; unfold Sq at q; omega)); replace HRa := hid0 (HRa.out.apart ho (by have q := HQ.out; unfold Sq at q; have z13 := HZ13.out; have z14 := HZ14.out; have z15 := HZ15.out; omega) (by have q := HQ.out; unfold Sq at q; have z13 := HZ13.out; have z14 := HZ14.out; have z15 := HZ15.out; omega) (by have q := HQ.out; unfold Sq at q; have z13 := HZ13.out; have z14 := HZ14.out; have z15 := HZ15.out; omega)); replace HRp := hid0 (HRp.out.apart ho (by have q := HQ.out; unfold Sq at q; have z13 := HZ13.out; have z14 := HZ14.out; have z15 := HZ15.out; omega) (by have q := HQ.out; unfold Sq at q; have z13 := HZ13.out; have z14 := HZ14.out; have z15 := HZ15.out; omega) (by have q := HQ.out; unfold Sq at q; have z13 := HZ13.out; have z14 := HZ14.out; have z15 := HZ15.out; omega)); replace HRb := hid0 (HRb.out.apart ho (by have q := HQ.out; unfold Sq at q; have z13 := HZ13.out; have z14 := HZ14.out; have z15 := HZ15.out; omega) (by have q := HQ.out; unfold Sq at q; have z13 := HZ13.out; have z14 := HZ14.out; have z15 := HZ15.out; omega) (by have q := HQ.out; unfold Sq at q; have z13 := HZ13.out; have z14 := HZ14.out; have z15 := HZ15.out; omega)); replace HRq := hid0 (HRq.out.apart ho (by have q := HQ.out; unfold Sq at q; have z13 := HZ13.out; have z14 := HZ14.out; have z15 := HZ15.out; omega) (by have q := HQ.out; unfold Sq at q; have z13 := HZ13.out; have z14 := HZ14.out; have z15 := HZ15.out; omega) (by have q := HQ.out; unfold Sq at q; have z13 := HZ13.out; have z14 := HZ14.out; have z15 := HZ15.out; omega)); clear x0 x1 xz; obtain ⟨x0, x1, xz⟩ := HRp.out.cells; replace HVw := hid0 (HVw.out.below hbb); replace HRa := hid0 (HRa.out.below hbb); replace HRp := hid0 (HRp.out.below hbb); replace HRb := hid0 (HRb.out.below hbb); replace HRq := hid0 (HRq.out.below hbb); clear HVc; have HRc := hid0 (hra.below hbb); have HRr := hid0 hrp; replace HB := hid0 ((HB.out.trans (ho.below HB.out.size (fun i hi => by have q := HQ.out; unfold Sq at q; have q2 := hi.1; omega))).trans (hbb.mono (by have q := HB.out.size; have q2 := ho.size; omega))); clear ho hra hrp hfp hbb) | fail)
  generalize World.alloc w15 (.cells #[.slice g15 n15 i15, .slice j15 m15 l15] 25) = W15 at HVw HRa HRp HRb HRq HRc HRr HB ⊢
  clear HZ13 HZ14 HZ15 HQ
  have mk := hid0 True.intro
  go_wp2_with (first | (clear mk; go_at_call 24; refine (fullR ⟨#[109]⟩ (by decide) HRp.out HFp.out).mono ?_; rintro e w16 ⟨rfl, hb⟩; replace HRq := hid0 (HRq.out.below hb); replace HRr := hid0 (HRr.out.below hb); replace HRa := hid0 (HRa.out.below hb); replace HRb := hid0 (HRb.out.below hb); replace HRc := hid0 (HRc.out.below hb); replace HVw := hid0 (HVw.out.below hb); replace HB := hid0 (HB.out.trans (hb.mono HB.out.size)); clear hb x0 x1 xz HRp; obtain ⟨x0, x1, xz⟩ := HRq.out.cells) | fail)
  have mk := hid0 True.intro
  go_wp2_with (first | (clear mk; go_at_call 24; refine (fullR ⟨#[109, 109]⟩ (by decide) HRq.out HFq.out).mono ?_; rintro e w17 ⟨rfl, hb⟩; replace HRr := hid0 (HRr.out.below hb); replace HRa := hid0 (HRa.out.below hb); replace HRb := hid0 (HRb.out.below hb); replace HRc := hid0 (HRc.out.below hb); replace HVw := hid0 (HVw.out.below hb); replace HB := hid0 (HB.out.trans (hb.mono HB.out.size)); clear hb x0 x1 xz HRq; obtain ⟨x0, x1, xz⟩ := HRr.out.cells) | fail)
  have mk := hid0 True.intro
  go_wp2_with (first | (clear mk; go_at_call 24; refine (fullR ⟨#[109, 109, 109]⟩ (by decide) HRr.out HFr.out).mono ?_; rintro e w18 ⟨rfl, hb⟩; replace HRa := hid0 (HRa.out.below hb); replace HRb := hid0 (HRb.out.below hb); replace HRc := hid0 (HRc.out.below hb); replace HVw := hid0 (HVw.out.below hb); replace HB := hid0 (HB.out.trans (hb.mono HB.out.size)); clear hb x0 x1 xz HRr; obtain ⟨x0, x1, xz⟩ := HRa.out.cells) | fail)
  have mk := hid0 True.intro
  go_wp2_with (first | (clear mk; go_at_call 24; refine (fullR ⟨#[109]⟩ (by decide) HRa.out HFa.out.1).mono ?_; rintro e w19 ⟨rfl, hb⟩; replace HRb := hid0 (HRb.out.below hb); replace HRc := hid0 (HRc.out.below hb); replace HVw := hid0 (HVw.out.below hb); replace HB := hid0 (HB.out.trans (hb.mono HB.out.size)); clear hb x0 x1 xz HRa; obtain ⟨x0, x1, xz⟩ := HRb.out.cells) | fail)
  have mk := hid0 True.intro
  go_wp2_with (first | (clear mk; go_at_call 24; refine (fullR ⟨#[109, 109]⟩ (by decide) HRb.out HFb.out.1).mono ?_; rintro e w20 ⟨rfl, hb⟩; replace HRc := hid0 (HRc.out.below hb); replace HVw := hid0 (HVw.out.below hb); replace HB := hid0 (HB.out.trans (hb.mono HB.out.size)); clear hb x0 x1 xz HRb; obtain ⟨x0, x1, xz⟩ := HRc.out.cells) | fail)
  have mk := hid0 True.intro
  go_wp2_with (first | (clear mk; go_at_call 24; refine (fullR ⟨#[109, 109, 109]⟩ (by decide) HRc.out HFc.out.1).mono ?_; rintro e w21 ⟨rfl, hb⟩; replace HVw := hid0 (HVw.out.below hb); replace HB := hid0 (HB.out.trans (hb.mono HB.out.size)); clear hb x0 x1 xz HRc) | fail)
  have mk := hid0 True.intro
  go_wp2_with (first | (clear mk; go_at_call 8; refine (HP.out _ HB.out).mono ?_; rintro e w22 ⟨vN, vS, rfl, hN, hS, hb⟩; obtain ⟨a22, c22, rfl, _⟩ := hN.sa; obtain ⟨b22, d22, rfl, _⟩ := hS.pa; have HVg := hid0 (Vr.born hN hS); have hbb := below_alloc hb (.cells #[.slice a22 names.length c22, .slice b22 sp.length d22] 25); obtain ⟨x0, x1, xz⟩ := (HVw.out.below hb).cells; replace HVw := hid0 (HVw.out.below hbb); replace HB := hid0 (HB.out.trans (hbb.mono HB.out.size)); clear hN hS hb hbb) | fail)
  generalize World.alloc w22 (.cells #[.slice a22 names.length c22, .slice b22 sp.length d22] 25) = W22 at HVg HVw HB ⊢
  have mk := hid0 True.intro
  go_wp2_with (first | (clear mk; go_at_call 10; refine (sameR HVg.out.rd HVw.out.rd HN.out.1 HN.out.2).mono ?_; rintro e w23 ⟨rfl, hb⟩; replace HB := hid0 (HB.out.trans (hb.mono HB.out.size)); clear hb x0 x1 xz) | fail)
  go_ret
  exact ⟨by simp, HB.out⟩
set_option maxRecDepth 10000 in
set_option maxHeartbeats 1600000 in
theorem apart_err (s : ByteArray) (w : World) (names names2 : List ByteArray) (sp sp2 : List Sp) (line line2 : Int) (num num2 : Int) (et : TypeId) (eu : Value) (h0 : ¬ (0 : Int) < (names.length : Int)) (hn : names.length ≤ 1000000) (hs : sp.length ≤ 1000000) (hn2 : names2.length ≤ 1000000) (hs2 : sp2.length ≤ 1000000)
    (hK : Calls Tryz.prog 12 #[] w fun e w' => e = .returned (.bool true) ∧ Below w.heap.size w w')
    (hP : ∀ W, Below w.heap.size w W → Calls Tryz.prog 8 #[.string s] W fun e w' => ∃ vN vS, e = .returned (.tuple #[.agg #[vN, vS], .int .i64 line, .iface et eu]) ∧ OwnS w' W.heap.size vN names ∧ OwnP w' W.heap.size vS sp ∧ Below W.heap.size W w')
    (hP2 : ∀ W, Below w.heap.size w W → Calls Tryz.prog 8 #[.string ⟨#[48, 48, 52, 49, 59, 97, 10, 48, 48, 52, 51, 59, 98]⟩] W fun e w' => ∃ vN vS, e = .returned (.tuple #[.agg #[vN, vS], .int .i64 line2, .nilIface]) ∧ OwnS w' W.heap.size vN names2 ∧ OwnP w' W.heap.size vS sp2 ∧ Below W.heap.size W w')
    (hR : ∀ W, Below w.heap.size w W → Calls Tryz.prog 9 #[.string s] W fun e w' => ∃ vN vS, e = .returned (.tuple #[.agg #[vN, vS], .int .i64 line, .int .i64 num]) ∧ OwnS w' W.heap.size vN names ∧ OwnP w' W.heap.size vS sp ∧ Below W.heap.size W w')
    (hR2 : ∀ W, Below w.heap.size w W → Calls Tryz.prog 9 #[.string ⟨#[48, 48, 52, 49, 59, 97, 10, 48, 48, 52, 51, 59, 98]⟩] W fun e w' => ∃ vN vS, e = .returned (.tuple #[.agg #[vN, vS], .int .i64 line2, .int .i64 num2]) ∧ OwnS w' W.heap.size vN names2 ∧ OwnP w' W.heap.size vS sp2 ∧ Below W.heap.size W w') :
    Calls Tryz.prog 7 #[.string s] w fun e w' => e = .returned (.bool true) ∧ Below w.heap.size w w' := by
  have HK := hid0 hK
  have HP := hid0 hP
  have HP2 := hid0 hP2
  have HR := hid0 hR
  have HR2 := hid0 hR2
  have HN := hid0 (And.intro hn hs)
  have HN2 := hid0 (And.intro hn2 hs2)
  clear hK hP hP2 hR hR2 hn hs hn2 hs2
  go_enter Tryz.func7, Tryz.ntmps7
  have mk := hid0 True.intro
  go_wp2_with (first | (clear mk; go_at_call 12; refine HK.out.mono ?_; rintro e w1 ⟨rfl, hb⟩; have HB : Hid (Below w.heap.size w w1) := hid0 hb; have HQ0 := hid0 hb.size; clear hb HK) | fail)
  have mk := hid0 True.intro
  go_wp2_with (first | (clear mk; go_at_call 8; refine (HP.out _ HB.out).mono ?_; rintro e w2 ⟨vN, vS, rfl, hN, hS, hb⟩; obtain ⟨a2, c2, rfl, _⟩ := hN.sa; obtain ⟨b2, d2, rfl, _⟩ := hS.pa; have HVa := hid0 (Vr.born hN hS); have hbb := below_alloc hb (.cells #[.slice a2 names.length c2, .slice b2 sp.length d2] 25); have HQ2 := hid0 hb.size; replace HB := hid0 (HB.out.trans (hbb.mono HB.out.size)); clear hN hS hb hbb) | fail)
  generalize World.alloc w2 (.cells #[.slice a2 names.length c2, .slice b2 sp.length d2] 25) = W2 at HVa HB ⊢
  have mk := hid0 True.intro
  go_wp2_with (first | (clear mk; go_at_call 8; refine (HP.out _ HB.out).mono ?_; rintro e w3 ⟨vN, vS, rfl, hN, hS, hb⟩; obtain ⟨a3, c3, rfl, _⟩ := hN.sa; obtain ⟨b3, d3, rfl, _⟩ := hS.pa; have HVb := hid0 (Vr.born hN hS); have hbb := below_alloc hb (.cells #[.slice a3 names.length c3, .slice b3 sp.length d3] 25); have HQ3 := hid0 (And.intro HVa.out.cells.2.2 hb.size); replace HVa := hid0 (HVa.out.below hbb); replace HB := hid0 (HB.out.trans (hbb.mono HB.out.size)); clear hN hS hb hbb) | fail)
  generalize World.alloc w3 (.cells #[.slice a3 names.length c3, .slice b3 sp.length d3] 25) = W3 at HVa HVb HB ⊢
  have mk := hid0 True.intro
  go_wp2_with (first | (clear mk; go_at_call 8; refine (HP2.out _ HB.out).mono ?_; rintro e w4 ⟨vN, vS, rfl, hN, hS, hb⟩; obtain ⟨a4, c4, rfl, _⟩ := hN.sa; obtain ⟨b4, d4, rfl, _⟩ := hS.pa; have HVc := hid0 (Vr.born hN hS); have hbb := below_alloc hb (.cells #[.slice a4 names2.length c4, .slice b4 sp2.length d4] 25); have HQ4 := hid0 (And.intro HVb.out.cells.2.2 hb.size); replace HVa := hid0 (HVa.out.below hbb); replace HVb := hid0 (HVb.out.below hbb); replace HB := hid0 (HB.out.trans (hbb.mono HB.out.size)); clear hN hS hb hbb) | fail)
  generalize World.alloc w4 (.cells #[.slice a4 names2.length c4, .slice b4 sp2.length d4] 25) = W4 at HVa HVb HVc HB ⊢
  have mk := hid0 True.intro
  go_wp2_with (first | (clear mk; go_at_call 9; refine (HR.out _ HB.out).mono ?_; rintro e w5 ⟨vN, vS, rfl, hN, hS, hb⟩; obtain ⟨a5, c5, rfl, _⟩ := hN.sa; obtain ⟨b5, d5, rfl, _⟩ := hS.pa; have HVw := hid0 (Vr.born hN hS); have hbb := below_alloc hb (.cells #[.slice a5 names.length c5, .slice b5 sp.length d5] 25); have HQ5 := hid0 (And.intro HVc.out.cells.2.2 hb.size); replace HVa := hid0 (HVa.out.below hbb); replace HVb := hid0 (HVb.out.below hbb); replace HVc := hid0 (HVc.out.below hbb); replace HB := hid0 (HB.out.trans (hbb.mono HB.out.size)); clear hN hS hb hbb) | fail)
  generalize World.alloc w5 (.cells #[.slice a5 names.length c5, .slice b5 sp.length d5] 25) = W5 at HVa HVb HVc HVw HB ⊢
  have mk := hid0 True.intro
  go_wp2_with (first | (clear mk; go_at_call 9; refine (HR2.out _ HB.out).mono ?_; rintro e w6 ⟨vN, vS, rfl, hN, hS, hb⟩; obtain ⟨a6, c6, rfl, _⟩ := hN.sa; obtain ⟨b6, d6, rfl, _⟩ := hS.pa; have HVt := hid0 (Vr.born hN hS); have hbb := below_alloc hb (.cells #[.slice a6 names2.length c6, .slice b6 sp2.length d6] 25); have HQ6 := hid0 (And.intro HVw.out.cells.2.2 hb.size); obtain ⟨x0, x1, xz⟩ := (HVa.out.below hb).cells; obtain ⟨y0, y1, yz⟩ := (HVw.out.below hb).cells; replace HVa := hid0 (HVa.out.below hbb); replace HVb := hid0 (HVb.out.below hbb); replace HVc := hid0 (HVc.out.below hbb); replace HVw := hid0 (HVw.out.below hbb); replace HB := hid0 (HB.out.trans (hbb.mono HB.out.size)); clear hN hS hb hbb; have HQ : Hid (Sq w.heap.size w1.heap.size w2.heap.size W2.heap.size w3.heap.size W3.heap.size w4.heap.size W4.heap.size w5.heap.size) := hid0 ⟨HQ0.out, HQ2.out, HQ3.out.1, HQ3.out.2, HQ4.out.1, HQ4.out.2, HQ5.out.1, HQ5.out.2⟩; clear HQ0 HQ2 HQ3 HQ4 HQ5 HQ6) | fail)
  generalize World.alloc w6 (.cells #[.slice a6 names2.length c6, .slice b6 sp2.length d6] 25) = W6 at HVa HVb HVc HVw HVt HB ⊢
  clear x0 x1 xz y0 y1 yz
  have mk := hid0 True.intro
  go_wp2_with (first | (clear mk; go_at_call 10; refine (sameR HVa.out.rd HVw.out.rd HN.out.1 HN.out.2).mono ?_; rintro e w7 ⟨rfl, hb⟩; replace HVa := hid0 (HVa.out.below hb); replace HVb := hid0 (HVb.out.below hb); replace HVc := hid0 (HVc.out.below hb); replace HVw := hid0 (HVw.out.below hb); replace HVt := hid0 (HVt.out.below hb); replace HB := hid0 (HB.out.trans (hb.mono HB.out.size)); clear hb; obtain ⟨x0, x1, xz⟩ := HVb.out.cells; obtain ⟨y0, y1, yz⟩ := HVw.out.cells) | fail)
  have mk := hid0 True.intro
  go_wp2_with (first | (clear mk; go_at_call 10; refine (sameR HVb.out.rd HVw.out.rd HN.out.1 HN.out.2).mono ?_; rintro e w8 ⟨rfl, hb⟩; replace HVa := hid0 (HVa.out.below hb); replace HVb := hid0 (HVb.out.below hb); replace HVc := hid0 (HVc.out.below hb); replace HVw := hid0 (HVw.out.below hb); replace HVt := hid0 (HVt.out.below hb); replace HB := hid0 (HB.out.trans (hb.mono HB.out.size)); clear hb; clear x0 x1 xz y0 y1 yz; obtain ⟨x0, x1, xz⟩ := HVc.out.cells; obtain ⟨y0, y1, yz⟩ := HVt.out.cells) | fail)
  have mk := hid0 True.intro
  go_wp2_with (first | (clear mk; go_at_call 10; refine (sameR HVc.out.rd HVt.out.rd HN2.out.1 HN2.out.2).mono ?_; rintro e w9 ⟨rfl, hb⟩; replace HVa := hid0 (HVa.out.below hb); replace HVb := hid0 (HVb.out.below hb); replace HVc := hid0 (HVc.out.below hb); replace HVw := hid0 (HVw.out.below hb); replace HVt := hid0 (HVt.out.below hb); replace HB := hid0 (HB.out.trans (hb.mono HB.out.size)); clear hb; clear x0 x1 xz y0 y1 yz; obtain ⟨x0, x1, xz⟩ := HVa.out.cells; clear HVt) | fail)
  have mk := hid0 True.intro
  go_wp2_with (first | (clear mk; go_at_call 22; refine (fillV ⟨#[109]⟩ (by decide) HVa.out HN.out.1 HN.out.2).mono ?_; rintro e w10 ⟨rfl, ho, nsa, ssa, hv, hf, hna, hsa⟩; have HFa := hid0 (And.intro hf (And.intro hna hsa)); replace HVb := hid0 (HVb.out.apart ho (by have q := HQ.out; unfold Sq at q; omega) (by have q := HQ.out; unfold Sq at q; omega)); replace HVc := hid0 (HVc.out.apart ho (by have q := HQ.out; unfold Sq at q; omega) (by have q := HQ.out; unfold Sq at q; omega)); replace HVw := hid0 (HVw.out.apart ho (by have q := HQ.out; unfold Sq at q; omega) (by have q := HQ.out; unfold Sq at q; omega)); clear HVa; have HVa := hid0 hv; replace HB := hid0 (HB.out.trans (ho.below HB.out.size (fun i hi => by have q := HQ.out; unfold Sq at q; have q2 := hi.1; omega))); clear ho hv hf hna hsa x0 x1 xz; obtain ⟨x0, x1, xz⟩ := HVb.out.cells) | fail)
  have mk := hid0 True.intro
  go_wp2_with (first | (clear mk; go_at_call 22; refine (fillV ⟨#[109, 109]⟩ (by decide) HVb.out HN.out.1 HN.out.2).mono ?_; rintro e w11 ⟨rfl, ho, nsb, ssb, hv, hf, hna, hsa⟩; have HFb := hid0 (And.intro hf (And.intro hna hsa)); replace HVa := hid0 (HVa.out.apart ho (by have q := HQ.out; unfold Sq at q; omega) (by have q := HQ.out; unfold Sq at q; omega)); replace HVc := hid0 (HVc.out.apart ho (by have q := HQ.out; unfold Sq at q; omega) (by have q := HQ.out; unfold Sq at q; omega)); replace HVw := hid0 (HVw.out.apart ho (by have q := HQ.out; unfold Sq at q; omega) (by have q := HQ.out; unfold Sq at q; omega)); clear HVb; have HVb := hid0 hv; replace HB := hid0 (HB.out.trans (ho.below HB.out.size (fun i hi => by have q := HQ.out; unfold Sq at q; have q2 := hi.1; omega))); clear ho hv hf hna hsa x0 x1 xz; obtain ⟨x0, x1, xz⟩ := HVc.out.cells) | fail)
  have mk := hid0 True.intro
  go_wp2_with (first | (clear mk; go_at_call 22; refine (fillV ⟨#[109, 109, 109]⟩ (by decide) HVc.out HN2.out.1 HN2.out.2).mono ?_; rintro e w12 ⟨rfl, ho, nsc, ssc, hv, hf, hna, hsa⟩; have HFc := hid0 (And.intro hf (And.intro hna hsa)); replace HVa := hid0 (HVa.out.apart ho (by have q := HQ.out; unfold Sq at q; omega) (by have q := HQ.out; unfold Sq at q; omega)); replace HVb := hid0 (HVb.out.apart ho (by have q := HQ.out; unfold Sq at q; omega) (by have q := HQ.out; unfold Sq at q; omega)); replace HVw := hid0 (HVw.out.apart ho (by have q := HQ.out; unfold Sq at q; omega) (by have q := HQ.out; unfold Sq at q; omega)); clear HVc; have HVc := hid0 hv; replace HB := hid0 (HB.out.trans (ho.below HB.out.size (fun i hi => by have q := HQ.out; unfold Sq at q; have q2 := hi.1; omega))); clear ho hv hf hna hsa x0 x1 xz; obtain ⟨x0, x1, xz⟩ := HVa.out.cells) | fail)
  have mk := hid0 True.intro
  go_wp2_with (first | (clear mk; go_at_call 23; refine (grownV ⟨#[109]⟩ (by decide) HVa.out (by have q := HQ.out; unfold Sq at q; omega) HFa.out.1 HFa.out.2.1 HFa.out.2.2).mono ?_; rintro e w13 ⟨g13, n13, i13, j13, m13, l13, rfl, ho, hra, nsp, ssp, hrp, hfp⟩; have HFp := hid0 hfp; have HZ13 := hid0 (And.intro HVw.out.cells.2.2 ho.size); have hbb := (below_alloc (Below.refl w13.heap.size w13) (.cells #[.slice g13 n13 i13, .slice j13 m13 l13] 25)); replace HVb := hid0 (HVb.out.apart ho (by have q := HQ.out; unfold Sq at q; omega) (by have q := HQ.out; unfold Sq at q; omega)); replace HVc := hid0 (HVc.out.apart ho (by have q := HQ.out; unfold Sq at q; omega) (by have q := HQ.out; unfold Sq at q; omega)); replace HVw := hid0 (HVw.out.apart ho (by have q := HQ.out; unfold Sq at q; omega) (by have q := HQ.out; unfold Sq at q; omega)); clear x0 x1 xz; obtain ⟨x0, x1, xz⟩ := HVb.out.cells; replace HVb := hid0 (HVb.out.below hbb); replace HVc := hid0 (HVc.out.below hbb); replace HVw := hid0 (HVw.out.below hbb); clear HVa; have HRa := hid0 (hra.below hbb); have HRp := hid0 hrp; replace HB := hid0 ((HB.out.trans (ho.below HB.out.size (fun i hi => by have q := HQ.out; unfold Sq at q; have q2 := hi.1; omega))).trans (hbb.mono (by have q := HB.out.size; have q2 := ho.size; omega))); clear ho hra hrp hfp hbb) | fail)
  generalize World.alloc w13 (.cells #[.slice g13 n13 i13, .slice j13 m13 l13] 25) = W13 at HVb HVc HVw HRa HRp HB ⊢
  have mk := hid0 True.intro
  go_wp2_with (first | (clear mk; go_at_call 23; refine (grownV ⟨#[109, 109]⟩ (by decide) HVb.out (by have q := HQ.out; unfold Sq at q; omega) HFb.out.1 HFb.out.2.1 HFb.out.2.2).mono ?_; rintro e w14 ⟨g14, n14, i14, j14, m14, l14, rfl, ho, hra, nsq, ssq, hrp, hfp⟩; have HFq := hid0 hfp; have HZ14 := hid0 (And.intro HVw.out.cells.2.2 ho.size); have hbb := (below_alloc (Below.refl w14.heap.size w14) (.cells #[.slice g14 n14 i14, .slice j14 m14 l14] 25)); replace HVc := hid0 (HVc.out.apart ho (by have q := HQ.out; unfold Sq at q; omega) (by have q := HQ.out; unfold Sq at q; omega)); replace HVw := hid0 (HVw.out.apart ho (by have q := HQ.out; unfold Sq at q; omega) (by have q := HQ.out; unfold Sq at q; omega)); replace HRa := hid0 (HRa.out.apart ho (by have q := HQ.out; unfold Sq at q; have z13 := HZ13.out; have z14 := HZ14.out; omega) (by have q := HQ.out; unfold Sq at q; have z13 := HZ13.out; have z14 := HZ14.out; omega) (by have q := HQ.out; unfold Sq at q; have z13 := HZ13.out; have z14 := HZ14.out; omega)); replace HRp := hid0 (HRp.out.apart ho (by have q := HQ.out; unfold Sq at q; have z13 := HZ13.out; have z14 := HZ14.out; omega) (by have q := HQ.out; unfold Sq at q; have z13 := HZ13.out; have z14 := HZ14.out; omega) (by have q := HQ.out; unfold Sq at q; have z13 := HZ13.out; have z14 := HZ14.out; omega)); clear x0 x1 xz; obtain ⟨x0, x1, xz⟩ := HVc.out.cells; replace HVc := hid0 (HVc.out.below hbb); replace HVw := hid0 (HVw.out.below hbb); replace HRa := hid0 (HRa.out.below hbb); replace HRp := hid0 (HRp.out.below hbb); clear HVb; have HRb := hid0 (hra.below hbb); have HRq := hid0 hrp; replace HB := hid0 ((HB.out.trans (ho.below HB.out.size (fun i hi => by have q := HQ.out; unfold Sq at q; have q2 := hi.1; omega))).trans (hbb.mono (by have q := HB.out.size; have q2 := ho.size; omega))); clear ho hra hrp hfp hbb) | fail)
  generalize World.alloc w14 (.cells #[.slice g14 n14 i14, .slice j14 m14 l14] 25) = W14 at HVc HVw HRa HRp HRb HRq HB ⊢
  have mk := hid0 True.intro
  go_wp2_with (first | (clear mk; go_at_call 23; refine (grownV ⟨#[109, 109, 109]⟩ (by decide) HVc.out (by have q := HQ.out; unfold Sq at q; omega) HFc.out.1 HFc.out.2.1 HFc.out.2.2).mono ?_; rintro e w15 ⟨g15, n15, i15, j15, m15, l15, rfl, ho, hra, nsr, ssr, hrp, hfp⟩; have HFr := hid0 hfp; have HZ15 := hid0 (And.intro HVw.out.cells.2.2 ho.size); have hbb := (below_alloc (Below.refl w15.heap.size w15) (.cells #[.slice g15 n15 i15, .slice j15 m15 l15] 25)); replace HVw := hid0 (HVw.out.apart ho (by have q := HQ.out; unfold Sq at q; omega) (by have q := HQ.out; unfold Sq at q; omega)); replace HRa := hid0 (HRa.out.apart ho (by have q := HQ.out; unfold Sq at q; have z13 := HZ13.out; have z14 := HZ14.out; have z15 := HZ15.out; omega) (by have q := HQ.out; unfold Sq at q; have z13 := HZ13.out; have z14 := HZ14.out; have z15 := HZ15.out; omega) (by have q := HQ.out; unfold Sq at q; have z13 := HZ13.out; have z14 := HZ14.out; have z15 := HZ15.out; omega)); replace HRp := hid0 (HRp.out.apart ho (by have q := HQ.out; unfold Sq at q; have z13 := HZ13.out; have z14 := HZ14.out; have z15 := HZ15.out; omega) (by have q := HQ.out; unfold Sq at q; have z13 := HZ13.out; have z14 := HZ14.out; have z15 := HZ15.out; omega) (by have q := HQ.out; unfold Sq at q; have z13 := HZ13.out; have z14 := HZ14.out; have z15 := HZ15.out; omega)); replace HRb := hid0 (HRb.out.apart ho (by have q := HQ.out; unfold Sq at q; have z13 := HZ13.out; have z14 := HZ14.out; have z15 := HZ15.out; omega) (by have q := HQ.out; unfold Sq at q; have z13 := HZ13.out; have z14 := HZ14.out; have z15 := HZ15.out; omega) (by have q := HQ.out; unfold Sq at q; have z13 := HZ13.out; have z14 := HZ14.out; have z15 := HZ15.out; omega)); replace HRq := hid0 (HRq.out.apart ho (by have q := HQ.out; unfold Sq at q; have z13 := HZ13.out; have z14 := HZ14.out; have z15 := HZ15.out; omega) (by have q := HQ.out; unfold Sq at q; have z13 := HZ13.out; have z14 := HZ14.out; have z15 := HZ15.out; omega) (by have q := HQ.out; unfold Sq at q; have z13 := HZ13.out; have z14 := HZ14.out; have z15 := HZ15.out; omega)); clear x0 x1 xz; obtain ⟨x0, x1, xz⟩ := HRp.out.cells; replace HVw := hid0 (HVw.out.below hbb); replace HRa := hid0 (HRa.out.below hbb); replace HRp := hid0 (HRp.out.below hbb); replace HRb := hid0 (HRb.out.below hbb); replace HRq := hid0 (HRq.out.below hbb); clear HVc; have HRc := hid0 (hra.below hbb); have HRr := hid0 hrp; replace HB := hid0 ((HB.out.trans (ho.below HB.out.size (fun i hi => by have q := HQ.out; unfold Sq at q; have q2 := hi.1; omega))).trans (hbb.mono (by have q := HB.out.size; have q2 := ho.size; omega))); clear ho hra hrp hfp hbb) | fail)
  generalize World.alloc w15 (.cells #[.slice g15 n15 i15, .slice j15 m15 l15] 25) = W15 at HVw HRa HRp HRb HRq HRc HRr HB ⊢
  clear HZ13 HZ14 HZ15 HQ
  have mk := hid0 True.intro
  go_wp2_with (first | (clear mk; go_at_call 24; refine (fullR ⟨#[109]⟩ (by decide) HRp.out HFp.out).mono ?_; rintro e w16 ⟨rfl, hb⟩; replace HRq := hid0 (HRq.out.below hb); replace HRr := hid0 (HRr.out.below hb); replace HRa := hid0 (HRa.out.below hb); replace HRb := hid0 (HRb.out.below hb); replace HRc := hid0 (HRc.out.below hb); replace HVw := hid0 (HVw.out.below hb); replace HB := hid0 (HB.out.trans (hb.mono HB.out.size)); clear hb x0 x1 xz HRp; obtain ⟨x0, x1, xz⟩ := HRq.out.cells) | fail)
  have mk := hid0 True.intro
  go_wp2_with (first | (clear mk; go_at_call 24; refine (fullR ⟨#[109, 109]⟩ (by decide) HRq.out HFq.out).mono ?_; rintro e w17 ⟨rfl, hb⟩; replace HRr := hid0 (HRr.out.below hb); replace HRa := hid0 (HRa.out.below hb); replace HRb := hid0 (HRb.out.below hb); replace HRc := hid0 (HRc.out.below hb); replace HVw := hid0 (HVw.out.below hb); replace HB := hid0 (HB.out.trans (hb.mono HB.out.size)); clear hb x0 x1 xz HRq; obtain ⟨x0, x1, xz⟩ := HRr.out.cells) | fail)
  have mk := hid0 True.intro
  go_wp2_with (first | (clear mk; go_at_call 24; refine (fullR ⟨#[109, 109, 109]⟩ (by decide) HRr.out HFr.out).mono ?_; rintro e w18 ⟨rfl, hb⟩; replace HRa := hid0 (HRa.out.below hb); replace HRb := hid0 (HRb.out.below hb); replace HRc := hid0 (HRc.out.below hb); replace HVw := hid0 (HVw.out.below hb); replace HB := hid0 (HB.out.trans (hb.mono HB.out.size)); clear hb x0 x1 xz HRr; obtain ⟨x0, x1, xz⟩ := HRa.out.cells) | fail)
  have mk := hid0 True.intro
  go_wp2_with (first | (clear mk; go_at_call 24; refine (fullR ⟨#[109]⟩ (by decide) HRa.out HFa.out.1).mono ?_; rintro e w19 ⟨rfl, hb⟩; replace HRb := hid0 (HRb.out.below hb); replace HRc := hid0 (HRc.out.below hb); replace HVw := hid0 (HVw.out.below hb); replace HB := hid0 (HB.out.trans (hb.mono HB.out.size)); clear hb x0 x1 xz HRa; obtain ⟨x0, x1, xz⟩ := HRb.out.cells) | fail)
  have mk := hid0 True.intro
  go_wp2_with (first | (clear mk; go_at_call 24; refine (fullR ⟨#[109, 109]⟩ (by decide) HRb.out HFb.out.1).mono ?_; rintro e w20 ⟨rfl, hb⟩; replace HRc := hid0 (HRc.out.below hb); replace HVw := hid0 (HVw.out.below hb); replace HB := hid0 (HB.out.trans (hb.mono HB.out.size)); clear hb x0 x1 xz HRb; obtain ⟨x0, x1, xz⟩ := HRc.out.cells) | fail)
  have mk := hid0 True.intro
  go_wp2_with (first | (clear mk; go_at_call 24; refine (fullR ⟨#[109, 109, 109]⟩ (by decide) HRc.out HFc.out.1).mono ?_; rintro e w21 ⟨rfl, hb⟩; replace HVw := hid0 (HVw.out.below hb); replace HB := hid0 (HB.out.trans (hb.mono HB.out.size)); clear hb x0 x1 xz HRc) | fail)
  have mk := hid0 True.intro
  go_wp2_with (first | (clear mk; go_at_call 8; refine (HP.out _ HB.out).mono ?_; rintro e w22 ⟨vN, vS, rfl, hN, hS, hb⟩; obtain ⟨a22, c22, rfl, _⟩ := hN.sa; obtain ⟨b22, d22, rfl, _⟩ := hS.pa; have HVg := hid0 (Vr.born hN hS); have hbb := below_alloc hb (.cells #[.slice a22 names.length c22, .slice b22 sp.length d22] 25); obtain ⟨x0, x1, xz⟩ := (HVw.out.below hb).cells; replace HVw := hid0 (HVw.out.below hbb); replace HB := hid0 (HB.out.trans (hbb.mono HB.out.size)); clear hN hS hb hbb) | fail)
  generalize World.alloc w22 (.cells #[.slice a22 names.length c22, .slice b22 sp.length d22] 25) = W22 at HVg HVw HB ⊢
  have mk := hid0 True.intro
  go_wp2_with (first | (clear mk; go_at_call 10; refine (sameR HVg.out.rd HVw.out.rd HN.out.1 HN.out.2).mono ?_; rintro e w23 ⟨rfl, hb⟩; replace HB := hid0 (HB.out.trans (hb.mono HB.out.size)); clear hb x0 x1 xz) | fail)
  go_ret
  exact ⟨by simp, HB.out⟩
end Go.Proofs.YtiiflacadndhcaaGreatDoor
namespace Go.Proofs.YtiiflacadndhcaaGreatDoor
open Go.RowKit Go.Shelf
def twoL : By := [48, 48, 52, 49, 59, 97, 10, 48, 48, 52, 51, 59, 98]
theorem two_parse : ∃ st, parseL twoL = .ok st ∧ st.names.length ≤ 62 ∧ st.sp.length ≤ 65536 := by
  have h : ∃ st, parseL twoL = .ok st := ⟨⟨[rd [97], rd [98]], [((65 : Int), (65 : Int), (0 : Int)), ((67 : Int), (67 : Int), (1 : Int))], [((65 : Int), (65 : Int), (0 : Int)), ((67 : Int), (67 : Int), (1 : Int))]⟩, by kernel_rfl⟩
  obtain ⟨st, h⟩ := h
  obtain ⟨f1, f2, f3⟩ := few_parse h
  exact ⟨st, h, f1, by omega⟩
theorem errAt_iface (A : Nat → Addr) (i : Nat) : ∃ t u, errAt A i = .iface t u := ⟨_, _, rfl⟩
theorem propApart_any (s : ByteArray) (A : Nat → Addr) (w : World) (hE : Sents6 w A) (hT : TabAt 19 Lib.deBruijn64tab w) : Calls Tryz.prog 7 #[.string s] w fun e w' => e = .returned (.bool true) ∧ Below w.heap.size w w' := by
  have hK := known6 A w hE hT
  obtain ⟨st2, hp2, g1, g2⟩ := two_parse
  have g3 := joinL_len st2.sp
  have hP2 : ∀ W, Below w.heap.size w W → Calls Tryz.prog 8 #[.string ⟨#[48, 48, 52, 49, 59, 97, 10, 48, 48, 52, 51, 59, 98]⟩] W fun e w' => ∃ vN vS, e = .returned (.tuple #[.agg #[vN, vS], .int .i64 0, .nilIface]) ∧ OwnS w' W.heap.size vN st2.names ∧ OwnP w' W.heap.size vS (joinL st2.sp) ∧ Below W.heap.size W w' := fun W hW => by
    have h := parse6 twoL (by decide) A W (hE.below hW)
    rw [hp2] at h
    refine h.mono ?_
    rintro e w' ⟨⟨vN, vS, h1, h2, h3, _⟩, h5⟩
    exact ⟨vN, vS, h1, h2, h3, h5⟩
  have hR2 : ∀ W, Below w.heap.size w W → Calls Tryz.prog 9 #[.string ⟨#[48, 48, 52, 49, 59, 97, 10, 48, 48, 52, 51, 59, 98]⟩] W fun e w' => ∃ vN vS, e = .returned (.tuple #[.agg #[vN, vS], .int .i64 0, .int .i64 0]) ∧ OwnS w' W.heap.size vN st2.names ∧ OwnP w' W.heap.size vS (joinL st2.sp) ∧ Below W.heap.size W w' := fun W _ => by
    have h := refParse_any ⟨#[48, 48, 52, 49, 59, 97, 10, 48, 48, 52, 51, 59, 98]⟩ (by decide) W
    rw [show (ByteArray.mk #[48, 48, 52, 49, 59, 97, 10, 48, 48, 52, 51, 59, 98]).data.toList = twoL from rfl, hp2] at h
    refine h.mono ?_
    rintro e w' ⟨⟨vN, vS, h1, h2, h3, _⟩, h5⟩
    exact ⟨vN, vS, h1, h2, h3, h5⟩
  by_cases hs : s.size ≤ 1048576
  · have hrd : rd s.data.toList = s := by simp [rd]
    have hsl : s.data.toList.length ≤ 1048576 := by simpa using hs
    have hP := fun W (hW : Below w.heap.size w W) => parse6 s.data.toList hsl A W (hE.below hW)
    rw [hrd] at hP
    have hR := fun W => refParse_any s hs W
    cases hp : parseL s.data.toList with
    | ok st =>
      rw [hp] at hP hR
      obtain ⟨f1, f2, f3⟩ := few_parse hp
      have f4 := joinL_len st.sp
      refine apart_nil s w st.names st2.names (joinL st.sp) (joinL st2.sp) 0 0 0 0 (by omega) (by omega) (by omega) (by omega) hK (fun W hW => (hP W hW).mono ?_) hP2 (fun W _ => (hR W).mono ?_) hR2
      · rintro e w' ⟨⟨vN, vS, h1, h2, h3, _⟩, h5⟩
        exact ⟨vN, vS, h1, h2, h3, h5⟩
      · rintro e w' ⟨⟨vN, vS, h1, h2, h3, _⟩, h5⟩
        exact ⟨vN, vS, h1, h2, h3, h5⟩
    | bad line i =>
      rw [hp] at hP hR
      obtain ⟨et, eu, hev⟩ := errAt_iface A i
      refine apart_err s w [] st2.names [] (joinL st2.sp) (line : Int) 0 (refNo i) 0 et eu (by simp) (by simp) (by simp) (by omega) (by omega) hK (fun W hW => (hP W hW).mono ?_) hP2 (fun W _ => (hR W).mono ?_) hR2
      · rintro e w' ⟨h1, h5⟩
        exact ⟨_, _, hev ▸ h1, World.ownsRow_nil _ _ _ _, OwnP.nil _ _, h5⟩
      · rintro e w' ⟨h1, h5⟩
        exact ⟨_, _, h1, World.ownsRow_nil _ _ _ _, OwnP.nil _ _, h5⟩
  · obtain ⟨et, eu, hev⟩ := errAt_iface A 2
    refine apart_err s w [] st2.names [] (joinL st2.sp) 0 0 (refNo 2) 0 et eu (by simp) (by simp) (by simp) (by omega) (by omega) hK (fun W hW => (parse_long6 s (by omega) A W (hE.below hW)).mono ?_) hP2 (fun W _ => (refParse_long s (by omega) W).mono ?_) hR2
    · rintro e w' ⟨h1, h5⟩
      exact ⟨_, _, hev ▸ h1, World.ownsRow_nil _ _ _ _, OwnP.nil _ _, h5⟩
    · rintro e w' ⟨h1, h5⟩
      exact ⟨_, _, h1, World.ownsRow_nil _ _ _ _, OwnP.nil _ _, h5⟩
end Go.Proofs.YtiiflacadndhcaaGreatDoor
