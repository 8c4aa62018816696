/-
  PfK1W, PfK2W, PfK3W, PfK4W, PfY1W, PfY2W, PfY3W, PfY4W, PfY5W, PfY6M, PfY7M, PfY8M, PfY8W.
-/
import Derived.Test.YthdmhelgmejicaaGreatDoorPfTopW
import Derived.Test.YthdmhelgmejicaaGreatDoorShelfB
import Derived.Lib.AppendStr
import Derived.Deep.RegionHeld3
import Derived.Laws.OwnMore
import Derived.Deep.AppendLies
import Derived.Deep.RegionHeldLaw
namespace Go.Proofs.YthdmhelgmejicaaGreatDoor
open Go.RowKit Go.Shelf
/-- The name Upper. -/
def nmU : ByteArray := ⟨#[85, 112, 112, 101, 114]⟩
/-- A property in memory: the name Upper, the span 41 to 5A. -/
structure One (w : World) (a b : Option Addr) : Prop where
  n : SA w a [nmU]
  s : PA w b [((65 : Int), (90 : Int), (0 : Int))]
theorem One.later {w w' : World} {a b : Option Addr} (h : One w a b) (hb : Below w.heap.size w w') : One w' a b := ⟨h.n.later hb, h.s.later hb⟩
theorem One.cells {w : World} {a b : Option Addr} (h : One w a b) : ∃ b1 o1 b2 o2, a = some ⟨b1, o1, none⟩ ∧ w.cell? ⟨b1, o1, none⟩ = some (.string nmU) ∧ b = some ⟨b2, o2, none⟩ ∧ b2 < w.heap.size ∧ w.cell? ⟨b2, o2, none⟩ = some (.int .i64 65) ∧ w.cell? ⟨b2, o2 + 1, none⟩ = some (.int .i64 90) ∧ w.cell? ⟨b2, o2 + 2, none⟩ = some (.int .i64 0) := by
  obtain ⟨b1, o1, rfl, c⟩ := h.n.at' 0 (by simp)
  obtain ⟨b2, o2, rfl, hl, d0, d1, d2⟩ := h.s.at' 0 (by simp)
  exact ⟨b1, o1, b2, o2, rfl, by simpa using c, rfl, hl, by simpa using d0, by simpa using d1, by simpa using d2⟩
theorem contS_any (L : List ByteArray) (a : Option Addr) (cap : Nat) (x : ByteArray) (w : World) (hl : L.length ≤ 4194401) (ha : SA w a L) :
    Calls Tryz.prog 64 #[.slice a L.length cap, .string x] w fun e w' => e = .returned (.bool (decide (0 ≤ Lib.idxOfS L x))) ∧ w' = w := by
  have HI := hid0 (index_any L a cap x w hl ha)
  generalize L.length = n at *
  generalize Lib.idxOfS L x = ix at *
  clear ha hl
  by_cases h : 0 ≤ ix
  · have hd : decide (0 ≤ ix) = true := decide_eq_true h
    rw [hd]
    go_enter Tryz.func64, Tryz.ntmps64
    go_wp2_with (go_at_call 84; refine HI.out.mono ?_; rintro e w' ⟨rfl, rfl⟩)
    go_ret
    exact ⟨rfl, rfl⟩
  · have hd : decide (0 ≤ ix) = false := decide_eq_false h
    rw [hd]
    go_enter Tryz.func64, Tryz.ntmps64
    go_wp2_with (go_at_call 84; refine HI.out.mono ?_; rintro e w' ⟨rfl, rfl⟩)
    go_ret
    exact ⟨rfl, rfl⟩
set_option maxRecDepth 10000 in
set_option maxHeartbeats 800000 in
theorem checkNames_one (a b : Option Addr) (ca : Nat) (w : World) (h : One w a b) :
    Calls Tryz.prog 38 #[.slice a 1 ca] w fun e w' => e = .returned .nilIface ∧ Below w.heap.size w w' := by
  have HI := hid0 (fun W => isName_any nmU (by decide) W)
  have hnm : isNm nmU.data.toList = true := by decide
  rw [hnm] at HI
  have HC1 := hid0 (fun W (hb : Below w.heap.size w W) => contS_any [nmU] a ca ⟨#[79, 116, 104, 101, 114]⟩ W (by simp) (h.later hb).n)
  have hi1 : decide (0 ≤ Lib.idxOfS [nmU] ⟨#[79, 116, 104, 101, 114]⟩) = false := by decide
  rw [hi1] at HC1
  have HC2 := hid0 (fun W cap => contS_any [] a cap nmU W (by simp) ⟨fun k hk => by simp at hk⟩)
  have hi2 : decide (0 ≤ Lib.idxOfS [] nmU) = false := by decide
  rw [hi2] at HC2
  simp only [List.length_cons, List.length_nil, Nat.zero_add] at HC1 HC2
  obtain ⟨b1, o1, _, _, rfl, c0, _⟩ := h.cells
  clear h hnm hi1 hi2
  generalize nmU = nm at *
  go_enter Tryz.func38, Tryz.ntmps38
  go_wp2
  refine wp_loop_rounds 2 ?_
  rw [rounds_succ]
  go_wp2_with (first
    | (go_at_call 63; refine (HI.out _).mono ?_; rintro e w1 ⟨rfl, rfl⟩)
    | fail)
  rw [rounds_succ]
  go_wp2_with (first
    | (go_at_call 64; refine (HC1.out _ (Below.refl _ _)).mono ?_; rintro e w1 ⟨rfl, rfl⟩)
    | fail)
  refine wp_loop_rounds 2 ?_
  rw [rounds_succ]
  go_wp2_with (first
    | (go_at_call 64; refine (HC2.out _ _).mono ?_; rintro e w1 ⟨rfl, rfl⟩)
    | fail)
  rw [rounds_succ]
  go_wp2
  go_ret
  exact ⟨rfl, Below.refl _ _⟩
set_option maxRecDepth 10000 in
theorem isPoint_yes (n : Int) (h0 : 0 ≤ n) (h1 : n ≤ 1114111) (w : World) : Calls Tryz.prog 65 #[.int .i64 n] w fun e w' => e = .returned (.bool true) ∧ w' = w := by
  go_enter Tryz.func65, Tryz.ntmps65
  go_wp2
  go_ret
  exact ⟨rfl, rfl⟩
set_option maxRecDepth 10000 in
set_option maxHeartbeats 800000 in
theorem checkSpans_one (a b : Option Addr) (cb : Nat) (w : World) (h : One w a b) :
    Calls Tryz.prog 39 #[.slice b 1 cb, .int .i64 1] w fun e w' => e = .returned .nilIface ∧ Below w.heap.size w w' := by
  obtain ⟨_, _, b1, o1, _, _, rfl, hl, d0, d1, d2⟩ := h.cells
  clear h
  have g1 : decide ((65 : Int) > 90) = false := by decide
  have g2 : decide ((0 : Int) > 0) = false := by decide
  go_enter Tryz.func39, Tryz.ntmps39
  go_wp2
  refine wp_loop_rounds 2 ?_
  rw [rounds_succ]
  go_wp2_with (first
    | (go_at_call 65; refine (isPoint_yes 65 (by omega) (by omega) _).mono ?_; rintro e w1 ⟨rfl, rfl⟩)
    | (go_at_call 65; refine (isPoint_yes 90 (by omega) (by omega) _).mono ?_; rintro e w1 ⟨rfl, rfl⟩)
    | fail)
  rw [rounds_succ]
  go_wp2
  refine wp_loop_rounds 2 ?_
  rw [rounds_succ]
  go_wp2
  go_big_quiet (fail)
  go_wp2
  rw [rounds_succ]
  go_wp2
  go_ret
  exact ⟨rfl, below_drewN (((Below.refl _ _).alloc (Nat.le_refl _) _).alloc (by simp) _) _⟩
set_option maxRecDepth 10000 in
set_option maxHeartbeats 800000 in
theorem indexB_one (g ca : Nat) (w : World) (h : w.cell? ⟨g, 0, none⟩ = some (.bool true)) :
    Calls Tryz.prog 67 #[.slice (some ⟨g, 0, none⟩) 1 ca, .bool false] w fun e w' => e = .returned (.bool false) ∧ w' = w := by
  have hI : Calls Tryz.prog 100 #[.slice (some ⟨g, 0, none⟩) 1 ca, .bool false] w fun e w' => e = .returned (.int .i64 (-1)) ∧ w' = w := by
    go_enter Tryz.func100, Tryz.ntmps100
    go_wp2
    refine wp_loop_rounds 2 ?_
    rw [rounds_succ]
    go_wp2
    rw [rounds_succ]
    go_wp2
    go_ret
    exact ⟨rfl, rfl⟩
  go_enter Tryz.func67, Tryz.ntmps67
  go_wp2_with (go_at_call 100; refine hI.mono ?_; rintro e w' ⟨rfl, rfl⟩)
  go_ret
  exact ⟨rfl, rfl⟩
theorem cell_mid (w : World) (o0 o2 : Obj) (c : Array Value) (t : TypeId) (j : Nat) : (((w.alloc o0).alloc (.cells c t)).alloc o2).cell? ⟨w.heap.size + 1, j, none⟩ = c[j]? := by
  have h := heap_alloc_new (w.alloc o0) (.cells c t)
  rw [World.size_alloc] at h
  rw [cell_of_row _ _ _ _ _ _ ((Below.heap_alloc _ o2 _ (by simp)).trans h)]
theorem infoBool : (Tryz.prog.info? 4).map (fun i => (i.zero, i.size, i.bytes)) = some (some (.bool false), 1, 1) := by kernel_rfl
set_option maxRecDepth 10000 in
set_option maxHeartbeats 800000 in
theorem allUsed_one (a b : Option Addr) (ca cb : Nat) (w : World) (h : One w a b) :
    Calls Tryz.prog 40 #[.agg #[.slice a 1 ca, .slice b 1 cb]] w fun e w' => e = .returned (.bool true) ∧ Below w.heap.size w w' := by
  obtain ⟨_, _, b1, o1, _, _, rfl, hl, d0, d1, d2⟩ := h.cells
  obtain ⟨i0, hi, hz0, hz1, hz2⟩ := info_parts infoBool
  have hmc : madeCells #[Value.bool false] 1 = #[.bool false] := by kernel_rfl
  have HM : Hid (∀ o0 o2, (((w.alloc o0).alloc (.cells #[.bool true] 4)).alloc o2).cell? ⟨w.heap.size + 1, 0, none⟩ = some (.bool true)) := hid0 (fun o0 o2 => (cell_mid w o0 o2 _ _ 0).trans rfl)
  clear h
  go_enter Tryz.func40, Tryz.ntmps40
  go_wp2_with (at_make; refine wpList_make_row _ rfl _ _ 112 rfl 4 i0 (.bool false) Tryz.underlying112 hi hz0 hz1 rfl .i64 .i64 1 rfl rfl (by rw [hz2]; omega) (by omega) ?_; rw [hmc])
  refine wp_loop_rounds 2 ?_
  rw [rounds_succ]
  go_wp2
  rw [rounds_succ]
  go_wp2_with (go_at_call 67; refine (indexB_one _ _ _ (HM.out _ _)).mono ?_; rintro e w1 ⟨rfl, rfl⟩)
  go_ret
  exact ⟨rfl, (((Below.refl _ _).alloc (Nat.le_refl _) _).alloc (by simp) _).alloc (by simp; omega) _⟩
set_option maxRecDepth 10000 in
set_option maxHeartbeats 800000 in
theorem check_one (a b : Option Addr) (ca cb : Nat) (w : World) (h : One w a b) :
    Calls Tryz.prog 14 #[.agg #[.slice a 1 ca, .slice b 1 cb]] w fun e w' => e = .returned .nilIface ∧ Below w.heap.size w w' := by
  have H1 := hid0 (fun W (hb : Below w.heap.size w W) => checkNames_one a b ca W (h.later hb))
  have H2 := hid0 (fun W (hb : Below w.heap.size w W) => checkSpans_one a b cb W (h.later hb))
  have H3 := hid0 (fun W (hb : Below w.heap.size w W) => allUsed_one a b ca cb W (h.later hb))
  have HB := hid0 (fun o : Obj => (Below.refl w.heap.size w).alloc (Nat.le_refl _) o)
  have HK := hid0 (heap_alloc_new w (.cells #[.slice a 1 ca, .slice b 1 cb] 25))
  have HC : Hid (∀ W, Below (w.heap.size + 1) (w.alloc (.cells #[.slice a 1 ca, .slice b 1 cb] 25)) W → W.cell? ⟨w.heap.size, 0, none⟩ = some (.slice a 1 ca) ∧ W.cell? ⟨w.heap.size, 1, none⟩ = some (.slice b 1 cb)) := hid0 (fun W hb => by
    have k := (hb.block w.heap.size (Nat.lt_succ_self _)).trans HK.out
    exact ⟨by rw [cell_of_row _ _ _ _ _ _ k]; rfl, by rw [cell_of_row _ _ _ _ _ _ k]; rfl⟩)
  have HBk : Hid (∀ W, Below (w.heap.size + 1) (w.alloc (.cells #[.slice a 1 ca, .slice b 1 cb] 25)) W → Below w.heap.size w W) := hid0 (fun W hb => (HB.out _).trans (hb.mono (Nat.le_succ _)))
  clear h
  go_enter Tryz.func14, Tryz.ntmps14
  go_wp2_with (first
    | (go_at_call 38; refine (H1.out _ (HB.out _)).mono ?_; rintro e w1 ⟨rfl, hb1⟩; have HW1 := hid0 (show Below (w.heap.size + 1) _ w1 from (by simpa using hb1)); obtain ⟨x0, x1⟩ := HC.out w1 HW1.out; clear hb1)
    | (go_at_call 39; refine (H2.out _ (HBk.out _ HW1.out)).mono ?_; rintro e w2 ⟨rfl, hb2⟩; have HW2 := hid0 (HW1.out.trans (hb2.mono (by have := HW1.out.size; simpa using this))); obtain ⟨y0, y1⟩ := HC.out w2 HW2.out; clear hb2)
    | (go_at_call 40; refine (H3.out _ (HBk.out _ HW2.out)).mono ?_; rintro e w3 ⟨rfl, hb3⟩; have HW3 := hid0 (HW2.out.trans (hb3.mono (by have := HW2.out.size; simpa using this))); clear hb3)
    | fail)
  go_ret
  exact ⟨rfl, HBk.out _ HW3.out⟩
end Go.Proofs.YthdmhelgmejicaaGreatDoor
namespace Go.Proofs.YthdmhelgmejicaaGreatDoor
open Go.RowKit Go.Shelf
set_option maxRecDepth 10000 in
set_option maxHeartbeats 400000 in
theorem stable_one (b : Option Addr) (cb : Nat) (w : World) :
    Calls Tryz.prog 57 #[.slice b 1 cb, .func (.func 58) #[] #[]] w fun e w' => e = .returned (.tuple #[]) ∧ w' = w := by
  have h1 : ∀ W, Calls Tryz.prog 115 #[.slice b 1 cb, .int .i64 0, .int .i64 1, .func (.func 58) #[] #[]] W fun e w' => e = .returned (.tuple #[]) ∧ w' = W := fun W => by
    go_enter Tryz.func115, Tryz.ntmps115
    go_wp2
    refine wp_loop_rounds 1 ?_
    rw [rounds_succ]
    go_wp2
    go_end0
    exact ⟨rfl, rfl⟩
  have h2 : ∀ W, Calls Tryz.prog 93 #[.slice b 1 cb, .int .i64 1, .func (.func 58) #[] #[]] W fun e w' => e = .returned (.tuple #[]) ∧ w' = W := fun W => by
    go_enter Tryz.func93, Tryz.ntmps93
    go_wp2
    refine wp_loop_rounds 1 ?_
    rw [rounds_succ]
    go_wp2_with (go_at_call 115; refine (h1 _).mono ?_; rintro e w' ⟨rfl, rfl⟩)
    refine wp_loop_rounds 1 ?_
    rw [rounds_succ]
    go_wp2
    go_end0
    exact ⟨rfl, rfl⟩
  go_enter Tryz.func57, Tryz.ntmps57
  go_wp2_with (go_at_call 93; refine (h2 _).mono ?_; rintro e w' ⟨rfl, rfl⟩)
  go_end0
  exact ⟨rfl, rfl⟩
set_option maxRecDepth 10000 in
set_option maxHeartbeats 400000 in
theorem clone_one (a b : Option Addr) (cb : Nat) (w : World) (h : One w a b) :
    Calls Tryz.prog 56 #[.slice b 1 cb] w fun e w' => ∃ cap, e = .returned (.slice (some ⟨w.heap.size + 1, 0, none⟩) 1 cap) ∧ (∃ C, w'.heap[w.heap.size + 1]? = some (.cells (#[.int .i64 65, .int .i64 90, .int .i64 0] ++ C) 72 (0, 0))) ∧ Below w.heap.size w w' := by
  obtain ⟨_, _, b1, o1, _, _, rfl, hl, d0, d1, d2⟩ := h.cells
  clear h
  go_enter Tryz.func56, Tryz.ntmps56
  have heq : ∀ (w : World) (n c n' c' : Nat), (binOp .eql 23 (.slice (some ⟨b1, o1, none⟩) n c) (.slice none n' c')).run Tryz.prog w = .ok (.bool false) w := fun w n c n' c' => Lib.run_eql_slice_nil w _ _ _ n c n' c' Tryz.underlying23
  go_wp2
  go_ret
  have hn := heap_alloc_new (w.alloc (.cells #[] 72)) (.cells (#[Value.int IntKind.i64 65, Value.int IntKind.i64 90, Value.int IntKind.i64 0] ++ Builtin.zeroCells #[Value.int IntKind.i64 0, Value.int IntKind.i64 0, Value.int IntKind.i64 0] ((Question.appendCap 1 0 72).cut (w.tape w.drawn (Question.appendCap 1 0 72)) - 1)) 72)
  rw [World.size_alloc] at hn
  exact ⟨_, rfl, ⟨_, hn⟩, below_drewN (((Below.refl _ _).alloc (Nat.le_refl _) _).alloc (by simp) _) 1⟩
set_option maxRecDepth 10000 in
theorem tz16 (w : World) (hT : TabAt 19 Lib.deBruijn64tab w) : Calls Tryz.prog 184 #[.int .u64 16] w fun e w' => e = .returned (.int .i64 4) ∧ w' = w := by
  have h := Any7.bits_TrailingZeros Tryz.lays727 16 (by omega) w (fun _ => hT)
  exact h
set_option maxRecDepth 10000 in
set_option maxHeartbeats 400000 in
theorem pow16 (w : World) : Calls Tryz.prog 183 #[.int .i64 16] w fun e w' => e = .returned (.bool true) ∧ w' = w := by
  go_enter Tryz.func183, Tryz.ntmps183
  go_wp2
  go_ret
  exact ⟨rfl, rfl⟩
theorem conv2 (w : World) (C : Array Value) (t : TypeId) (x y : UInt8) (h1 : C[63]? = some (.int .u8 (x.toNat : Int))) (h2 : C[64]? = some (.int .u8 (y.toNat : Int))) :
    (convert 102 9 (.slice (some ⟨w.heap.size, 63, none⟩) 2 2)).run Tryz.prog (w.alloc (.cells C t)) = .ok (.string ⟨#[x, y]⟩) (w.alloc (.cells C t)) := by
  refine run_convert_bytes_back (P := Tryz.prog) (w.alloc (.cells C t)) 102 9 5 ⟨w.heap.size, 63, none⟩ 2 [x, y] Tryz.underlying102 Tryz.underlying5 Tryz.underlying9 (fun j hj => ?_)
  have hj2 : j = 0 ∨ j = 1 := by simp at hj; omega
  rw [Addr.add_lit, cell_of_row _ _ _ _ _ _ (heap_alloc_new w _)]
  rcases hj2 with rfl | rfl
  · exact h1
  · exact h2
set_option maxRecDepth 10000 in
set_option maxHeartbeats 800000 in
theorem fmtBits (n : Nat) (x y : UInt8) (hn : n = 65 ∧ x = 52 ∧ y = 49 ∨ n = 90 ∧ x = 53 ∧ y = 97) (w : World) (hT : TabAt 19 Lib.deBruijn64tab w) :
    Calls Tryz.prog 163 #[.slice none 0 0, .int .u64 (n : Int), .int .i64 16, .bool false, .bool false] w fun e w' => e = .returned (.tuple #[.slice none 0 0, .string ⟨#[x, y]⟩]) ∧ Below w.heap.size w w' := by
  have HT := hid0 (fun W (hb : Below w.heap.size w W) => tz16 W (fun j hj => (hb.cell (p := ⟨19, j, none⟩) (World.block_lt_of_cell? w _ (hT j hj))).trans (hT j hj)))
  have HB := hid0 (fun o : Obj => (Below.refl w.heap.size w).alloc (Nat.le_refl _) o)
  clear hT
  rcases hn with ⟨rfl, rfl, rfl⟩ | ⟨rfl, rfl, rfl⟩
  · go_enter Tryz.func163, Tryz.ntmps163
    go_wp2_with (first
      | (go_at_call 183; refine (pow16 _).mono ?_; rintro e w1 ⟨rfl, rfl⟩)
      | (go_at_call 184; refine (HT.out _ (HB.out _)).mono ?_; rintro e w1 ⟨rfl, rfl⟩)
      | fail)
    refine wp_loop_rounds 2 ?_
    rw [rounds_succ]
    go_wp2
    rw [rounds_succ]
    go_wp2
    rw [conv2 w _ _ 52 49]
    rotate_left
    · kernel_rfl
    · kernel_rfl
    go_wp2
    go_ret2
    exact ⟨rfl, HB.out _⟩
  · go_enter Tryz.func163, Tryz.ntmps163
    go_wp2_with (first
      | (go_at_call 183; refine (pow16 _).mono ?_; rintro e w1 ⟨rfl, rfl⟩)
      | (go_at_call 184; refine (HT.out _ (HB.out _)).mono ?_; rintro e w1 ⟨rfl, rfl⟩)
      | fail)
    refine wp_loop_rounds 2 ?_
    rw [rounds_succ]
    go_wp2
    rw [rounds_succ]
    go_wp2
    rw [conv2 w _ _ 53 97]
    rotate_left
    · kernel_rfl
    · kernel_rfl
    go_wp2
    go_ret2
    exact ⟨rfl, HB.out _⟩
theorem ext158 : Builder.Extra Tryz.prog Tryz.lays158_ren where
  sizeBuilder := by kernel_rfl
  liesBuilder := by kernel_rfl
  t5 := Tryz.underlying5
  a5 := Tryz.isAgg5
  z5 := Tryz.sizeOf5
  v5 := Tryz.zeroValue5
  infoByte := by kernel_rfl
  cellsByte := by kernel_rfl
  sizeByte := by kernel_rfl
  neB5 := by decide
theorem ext105 : Builder.Extra Tryz.prog Tryz.lays105_ren where
  sizeBuilder := by kernel_rfl
  liesBuilder := by kernel_rfl
  t5 := Tryz.underlying5
  a5 := Tryz.isAgg5
  z5 := Tryz.sizeOf5
  v5 := Tryz.zeroValue5
  infoByte := by kernel_rfl
  cellsByte := by kernel_rfl
  sizeByte := by kernel_rfl
  neB5 := by decide
theorem ext169 : Builder.Extra Tryz.prog Tryz.lays169_ren where
  sizeBuilder := by kernel_rfl
  liesBuilder := by kernel_rfl
  t5 := Tryz.underlying5
  a5 := Tryz.isAgg5
  z5 := Tryz.sizeOf5
  v5 := Tryz.zeroValue5
  infoByte := by kernel_rfl
  cellsByte := by kernel_rfl
  sizeByte := by kernel_rfl
  neB5 := by decide
set_option maxRecDepth 10000 in
set_option maxHeartbeats 400000 in
theorem hex_two (n : Nat) (x y X Y : UInt8) (hn : n = 65 ∧ x = 52 ∧ y = 49 ∧ X = 52 ∧ Y = 49 ∨ n = 90 ∧ x = 53 ∧ y = 97 ∧ X = 53 ∧ Y = 65) (w : World) (hT : TabAt 19 Lib.deBruijn64tab w) :
    Calls Tryz.prog 61 #[.int .i64 (n : Int)] w fun e w' => e = .returned (.string ⟨#[48, 48, X, Y]⟩) ∧ Below w.heap.size w w' := by
  have hI : Calls Tryz.prog 130 #[.int .i64 (n : Int), .int .i64 16] w fun e w' => e = .returned (.string ⟨#[x, y]⟩) ∧ Below w.heap.size w w' := by
    have hF := fmtBits n x y (by rcases hn with ⟨h1, h2, h3, _⟩ | ⟨h1, h2, h3, _⟩; exact .inl ⟨h1, h2, h3⟩; exact .inr ⟨h1, h2, h3⟩) w hT
    have hnI : ¬ (n : Int) < 0 := by omega
    have hnu : IntKind.u64.wrap (n : Int) = (n : Int) := by rw [IntKind.wrap_u64]; rcases hn with ⟨rfl, _⟩ | ⟨rfl, _⟩ <;> rfl
    have HF := hid0 hF
    clear hF hT hn
    go_enter Tryz.func130, Tryz.ntmps130
    go_wp2_with (go_at_call 163; refine HF.out.mono ?_; rintro e w1 ⟨rfl, hb⟩; have HB := hid0 hb; clear hb)
    go_ret
    exact ⟨rfl, HB.out⟩
  have hS : Calls Tryz.prog 96 #[.int .i64 (n : Int), .int .i64 16] w fun e w' => e = .returned (.string ⟨#[x, y]⟩) ∧ Below w.heap.size w w' := by
    have HI := hid0 hI
    clear hI hT hn
    go_enter Tryz.func96, Tryz.ntmps96
    go_wp2_with (go_at_call 130; refine HI.out.mono ?_; rintro e w1 ⟨rfl, hb⟩; have HB := hid0 hb; clear hb)
    go_ret
    exact ⟨rfl, HB.out⟩
  have hU : ∀ W, Calls Tryz.prog 95 #[.string ⟨#[x, y]⟩] W fun e w' => e = .returned (.string ⟨#[X, Y]⟩) ∧ Below W.heap.size W w' := fun W => by
    have h := Any.strings_ToUpper_ascii Tryz.lays158 ext158 ⟨#[x, y]⟩ W (by show (2 : Nat) ≤ _; omega) (fun j b hb => by
      rcases hn with ⟨_, rfl, rfl, _⟩ | ⟨_, rfl, rfl, _⟩
      all_goals
        match j, hb with
        | 0, hb => cases hb; decide
        | 1, hb => cases hb; decide
        | j + 2, hb => simp at hb)
    rcases hn with ⟨_, rfl, rfl, rfl, rfl⟩ | ⟨_, rfl, rfl, rfl, rfl⟩
    · exact h
    · exact h
  have hR : ∀ W, Calls Tryz.prog 97 #[.string ⟨#[48]⟩, .int .i64 2] W fun e w' => e = .returned (.string ⟨#[48, 48]⟩) ∧ Below W.heap.size W w' := fun W =>
    Any.strings_Repeat Tryz.lays105 ext105 ⟨#[48]⟩ 2 W (by omega) (by show (1 : Nat) * 2 ≤ _; omega)
  have HS := hid0 hS
  have HU := hid0 hU
  have HR := hid0 hR
  have hz : (⟨#[X, Y]⟩ : ByteArray).size = 2 := rfl
  clear hI hS hU hR hT hn
  go_enter Tryz.func61, Tryz.ntmps61
  go_wp2_with (first
    | (go_at_call 96; refine HS.out.mono ?_; rintro e w1 ⟨rfl, hb1⟩; have HB1 := hid0 hb1; clear hb1)
    | (go_at_call 95; refine (HU.out _).mono ?_; rintro e w2 ⟨rfl, hb2⟩; have HB2 := hid0 (HB1.out.trans (hb2.mono HB1.out.size)); clear hb2)
    | (go_at_call 97; refine (HR.out _).mono ?_; rintro e w3 ⟨rfl, hb3⟩; have HB3 := hid0 (HB2.out.trans (hb3.mono HB2.out.size)); clear hb3)
    | fail)
  go_ret
  exact ⟨rfl, HB3.out⟩
end Go.Proofs.YthdmhelgmejicaaGreatDoor
namespace Go.Proofs.YthdmhelgmejicaaGreatDoor
open Go.RowKit Go.Shelf
theorem bldSize : (Tryz.prog.info? 104).map (·.size) = some 2 := by kernel_rfl
theorem bldLies : liesAt Tryz.prog Tryz.prog.depth 104 (2 / Tryz.prog.cellsOf 104) 0 104 1 = true := by kernel_rfl
theorem infoByte : (Tryz.prog.info? 5).map (fun i => (i.zero, i.size, i.bytes)) = some (some (.int .u8 0), 1, 1) := by kernel_rfl
set_option maxRecDepth 100000 in
set_option maxHeartbeats 800000 in
theorem ccUsed (b : Nat) (w : World) (h0 : w.cell? ⟨b, 0, none⟩ = some (.pointer (some ⟨b, 0, none⟩))) :
    Calls Tryz.prog 94 #[.pointer (some ⟨b, 0, none⟩)] w fun e w' => e = .returned (.tuple #[]) ∧ w' = w := by
  obtain ⟨j, hj, _⟩ := Option.map_eq_some_iff.1 bldSize
  go_enter Tryz.func94, Tryz.ntmps94
  go_wp2
  rw [Lib.run_neq_ptr_same w _ Tryz.underlying101 hj]
  go_wp2
  go_end0
  exact ⟨rfl, rfl⟩
set_option maxRecDepth 100000 in
set_option maxHeartbeats 800000 in
theorem ccNew (b : Nat) (w : World) (h0 : w.cell? ⟨b, 0, none⟩ = some (.pointer none)) (hsh : w.shape? b = some (104, 2)) (hfz : w.frozen? ⟨b, 0, none⟩ = false) :
    Calls Tryz.prog 94 #[.pointer (some ⟨b, 0, none⟩)] w fun e w' => e = .returned (.tuple #[]) ∧ w' = w.setCell ⟨b, 0, none⟩ (.pointer (some ⟨b, 0, none⟩)) := by
  obtain ⟨j, hj, hjs⟩ := Option.map_eq_some_iff.1 bldSize
  go_enter Tryz.func94, Tryz.ntmps94
  go_wp2
  rw [Lib.run_to_unsafe w ⟨b, 0, none⟩ Tryz.underlying101 Tryz.underlying170 hj (by rw [hjs]; decide) hsh (Nat.zero_lt_succ 1)]
  simp only [Result.andThen]
  rw [Oper.upon_value]
  go_wp2
  rw [run_callFunc_extern Tryz.func126 (by kernel_rfl) (by kernel_rfl) (by kernel_rfl) (e := Extern.AbiNoEscape.same) (by kernel_rfl)]
  rw [Lib.run_noEscape]
  simp only [Result.andThen]
  rw [Oper.upon_value]
  go_wp2
  rw [Lib.run_from_unsafe w ⟨b, 0, none⟩ Tryz.underlying170 Tryz.underlying101 hj hsh bldLies]
  simp only [Result.andThen]
  rw [Oper.upon_value]
  go_wp2
  go_end0
  exact ⟨rfl, rfl⟩
/-- A builder in memory, used or not. -/
abbrev Bl (B b : Nat) (bs : List Value) (w : World) : Prop := Lib.IsBuilder 104 5 B b bs w
abbrev Bu (B b : Nat) (bs : List Value) (w : World) : Prop := Lib.BuilderAt 104 5 B b (.pointer (some ⟨b, 0, none⟩)) bs w
/-- A write keeps what is no row of bytes. -/
def Kb (b : Nat) (w w' : World) : Prop := ∀ (i : Nat) (c : Array Value) (t : TypeId) (z : Nat × Nat), w.heap[i]? = some (Obj.cells c t z) → ¬ t = 5 → ¬ i = b → w'.heap[i]? = some (Obj.cells c t z)
theorem cc_any (B b : Nat) (bs : List Value) (w : World) (h : Bl B b bs w) : Calls Tryz.prog 94 #[.pointer (some ⟨b, 0, none⟩)] w fun e w' => e = .returned (.tuple #[]) ∧ Bu B b bs w' ∧ Below B w w' ∧ Kb b w w' := by
  rcases h with h | h
  · exact (ccNew b w h.cell0 h.shape h.frozen0).mono fun e w' ⟨h1, h2⟩ => ⟨h1, h2 ▸ h.used _, h2 ▸ (Below.refl B w).setCell (p := ⟨b, 0, none⟩) h.1 _, h2 ▸ fun i c t z hi _ hn => (Below.heap_setCell w ⟨b, 0, none⟩ _ i hn).trans hi⟩
  · exact (ccUsed b w h.cell0).mono fun e w' ⟨h1, h2⟩ => ⟨h1, h2 ▸ h, h2 ▸ Below.refl B _, h2 ▸ fun i c t z hi _ _ => hi⟩
/-- What a write leaves. -/
theorem bu_grown {B b : Nat} {bs bs' : List Value} {w w1 w2 : World} {v v' : Value} {o : Option Obj} (hB : B ≤ b) (hbk : w1.heap[b]? = some (.cells #[.pointer (some ⟨b, 0, none⟩), v] 104 (0, 0))) (hown : w1.ownsRow B 5 1 v bs.length bs) (hne : v.ownBlock ≠ some b) (hb1 : Below B w w1) (_hBw : B ≤ w.heap.size) (hk1 : Kb b w w1)
    (hgrow : ((match o with | some x => w1.alloc x | none => w1)).grownBy w2 v.ownBlock) (hown' : w2.ownsRow B 5 1 v' bs'.length bs') :
    w2.heap[b]? = some (.cells #[.pointer (some ⟨b, 0, none⟩), v] 104 (0, 0)) ∧ Bu B b bs' (w2.setCell ⟨b, 1, none⟩ v') ∧ Below B w (w2.setCell ⟨b, 1, none⟩ v') ∧ Kb b w (w2.setCell ⟨b, 1, none⟩ v') := by
  have hlt := (Array.getElem?_eq_some_iff.1 hbk).1
  have hb2 : w2.heap[b]? = some (.cells #[.pointer (some ⟨b, 0, none⟩), v] 104 (0, 0)) := by
    cases o with
    | none => exact (hgrow.block b hlt (fun e => hne e.symm)).trans hbk
    | some x => exact (hgrow.block b (by simp; omega) (fun e => hne e.symm)).trans ((Below.heap_alloc w1 x b hlt).trans hbk)
  have hs := hb1.size
  have hrow : ∀ i c t z, w1.heap[i]? = some (.cells c t z) → ¬ t = 5 → some i ≠ v.ownBlock := fun i c t z hi ht e => by
    rcases hown.2 with ⟨rfl, _⟩ | ⟨g, cap, cur, rfl, _, hg, _⟩
    · simp [Value.ownBlock] at e
    · simp only [Value.ownBlock, Option.some.injEq] at e
      subst e
      rw [hi] at hg
      simp only [Option.some.injEq, Obj.cells.injEq] at hg
      exact ht hg.2.1
  refine ⟨hb2, Lib.BuilderAt.put hB hb2 hown' (by decide), ?_, fun i c t z hi ht hn => ?_⟩
  rotate_left
  · have h1 := hk1 i c t z hi ht hn
    have hl := (Array.getElem?_eq_some_iff.1 h1).1
    rw [Below.heap_setCell w2 ⟨b, 1, none⟩ v' i hn]
    cases o with
    | none => exact (hgrow.block i hl (hrow i c t z h1 ht)).trans h1
    | some x => exact (hgrow.block i (by simp; omega) (hrow i c t z h1 ht)).trans ((Below.heap_alloc w1 x i hl).trans h1)
  cases o with
  | none => exact (hb1.grown hgrow (by omega) (fun k hk => (World.ownsRow.lt hown k hk).1)).setCell (p := ⟨b, 1, none⟩) hB _
  | some x => exact ((hb1.alloc (by omega) x).grown hgrow (by simp; omega) (fun k hk => (World.ownsRow.lt hown k hk).1)).setCell (p := ⟨b, 1, none⟩) hB _
theorem row_form {w : World} {B n : Nat} {v : Value} {xs : List Value} (h : w.ownsRow B 5 1 v n xs) : ∃ a c, v = .slice a n c := by
  rcases h.2 with ⟨rfl, hn⟩ | ⟨g, c, cur, rfl, _⟩
  · exact ⟨none, 0, by rw [hn]⟩
  · exact ⟨_, c, rfl⟩
set_option maxRecDepth 10000 in
set_option maxHeartbeats 800000 in
theorem writeByte_any (B b : Nat) (bs : List Value) (c : Int) (w : World) (h : Bl B b bs w) (hlen : bs.length + 1 ≤ 140737488355328) (hBw : B ≤ w.heap.size) :
    Calls Tryz.prog 59 #[.pointer (some ⟨b, 0, none⟩), .int .u8 c] w fun e w' => e = .returned .nilIface ∧ Bu B b (bs ++ [.int .u8 c]) w' ∧ Below B w w' ∧ Kb b w w' := by
  obtain ⟨i0, hi, hz0, hz1, hz2⟩ := info_parts infoByte
  have HC := hid0 (cc_any B b bs w h)
  clear h
  go_enter Tryz.func59, Tryz.ntmps59
  go_wp2_with (first
    | (go_at_call 94; refine HC.out.mono ?_; rintro e w1 ⟨rfl, ⟨hB, v, hbk, hown, hne⟩, hb1, hk1⟩; have HK1 := hid0 hk1; have c1 : w1.cell? ⟨b, 1, none⟩ = some v := (by rw [cell_of_row _ _ _ _ _ _ hbk]; rfl); have HK := hid0 hbk; have HO := hid0 hown; have HNe := hid0 hne; have HB1 := hid0 hb1; have hs1 := hb1.size; clear hbk hown hne hb1 hk1)
    | (at_builtin; refine wpList_append_own _ rfl _ _ 102 rfl B 5 i0 (.int .u8 0) 1 1 Tryz.underlying102 hi hz0 hz1 hz2 rfl (by decide) v bs.length bs rfl (HO.out.alloc _) ⟨w1.heap.size, 0, none⟩ 1 1 [.int .u8 c] rfl rfl (cell_one_new _ _ _) (by simp [Value.oneCell']) (by unfold maxLen; omega) (by omega) (by simp; omega) ?_; intro v' w2 hown' hgrow _; obtain ⟨a', c', rfl⟩ := row_form hown'; obtain ⟨r1, r2, r3, r4⟩ := bu_grown (bs' := bs ++ [.int .u8 c]) (o := some (.cells #[.int .u8 c] 5)) hB HK.out HO.out HNe.out HB1.out hBw HK1.out hgrow (by simpa using hown'); have d1 : w2.cell? ⟨b, 1, none⟩ = some v := (by rw [cell_of_row _ _ _ _ _ _ r1]; rfl); have f1 : w2.frozen? ⟨b, 1, none⟩ = false := frozen_of_row _ _ _ _ _ r1; have HR := hid0 (And.intro r2 (And.intro r3 r4)); clear hown' hgrow r1 r2 r3 r4)
    | fail)
  go_ret
  exact ⟨rfl, HR.out⟩
set_option maxRecDepth 10000 in
set_option maxHeartbeats 800000 in
theorem writeString_any (B b : Nat) (bs : List Value) (s : ByteArray) (w : World) (h : Bl B b bs w) (hlen : bs.length + s.size ≤ 140737488355328) (hBw : B ≤ w.heap.size) :
    Calls Tryz.prog 60 #[.pointer (some ⟨b, 0, none⟩), .string s] w fun e w' => e = .returned (.tuple #[.int .i64 s.size, .nilIface]) ∧ Bu B b (bs ++ Lib.strCells s) w' ∧ Below B w w' ∧ Kb b w w' := by
  obtain ⟨i0, hi, hz0, hz1, hz2⟩ := info_parts infoByte
  have HC := hid0 (cc_any B b bs w h)
  have hsl : (Lib.strCells s).length = s.size := by simp [Lib.strCells]
  have HSl := hid0 hsl
  clear h hsl
  go_enter Tryz.func60, Tryz.ntmps60
  go_wp2_with (first
    | (go_at_call 94; refine HC.out.mono ?_; rintro e w1 ⟨rfl, ⟨hB, v, hbk, hown, hne⟩, hb1, hk1⟩; have HK1 := hid0 hk1; have c1 : w1.cell? ⟨b, 1, none⟩ = some v := (by rw [cell_of_row _ _ _ _ _ _ hbk]; rfl); have HK := hid0 hbk; have HO := hid0 hown; have HNe := hid0 hne; have HB1 := hid0 hb1; have hs1 := hb1.size; clear hbk hown hne hb1 hk1)
    | (at_builtin; refine Go.Lib.wpList_append_own_string _ rfl _ _ 102 9 rfl B 5 i0 Tryz.underlying102 Tryz.underlying9 hi hz0 hz1 hz2 v bs.length bs rfl HO.out s rfl (by unfold maxLen; omega) (by omega) (by omega) ?_; intro v' w2 hown' hgrow _; obtain ⟨a', c', rfl⟩ := row_form hown'; obtain ⟨r1, r2, r3, r4⟩ := bu_grown (bs' := bs ++ Lib.strCells s) (o := none) hB HK.out HO.out HNe.out HB1.out hBw HK1.out hgrow (by rw [List.length_append, HSl.out]; exact hown'); have d1 : w2.cell? ⟨b, 1, none⟩ = some v := (by rw [cell_of_row _ _ _ _ _ _ r1]; rfl); have f1 : w2.frozen? ⟨b, 1, none⟩ = false := frozen_of_row _ _ _ _ _ r1; have HR := hid0 (And.intro r2 (And.intro r3 r4)); clear hown' hgrow r1 r2 r3 r4)
    | fail)
  go_ret2
  exact ⟨rfl, HR.out⟩
end Go.Proofs.YthdmhelgmejicaaGreatDoor
namespace Go.Proofs.YthdmhelgmejicaaGreatDoor
open Go.RowKit Go.Shelf
/-- The short file's making. -/
structure Sf (w w' : World) (a c : Option Addr) (ca cc pb xb b B : Nat) (bs : List Value) : Prop where
  bl : Bl B b bs w'
  pbox : w'.heap[pb]? = some (.cells #[.slice a 1 ca, .slice c 1 cc] 25 (0, 0))
  xbox : w'.heap[xb]? = some (.cells #[.int .i64 65, .int .i64 90, .int .i64 0] 72 (0, 0))
  bel : Below w.heap.size w w'
  sz : B ≤ w'.heap.size
  lo : w.heap.size ≤ B
  nep : ¬ pb = b
  nex : ¬ xb = b
section
variable {w w' w2 : World} {a c : Option Addr} {ca cc pb xb b B : Nat} {bs bs' : List Value}
theorem Sf.later (h : Sf w w' a c ca cc pb xb b B bs) (hb : Below w'.heap.size w' w2) : Sf w w2 a c ca cc pb xb b B bs := by
  have bld : ∀ p, Lib.BuilderAt 104 5 B b p bs w' → Lib.BuilderAt 104 5 B b p bs w2 := fun p ⟨h1, v, h2, h3, h4⟩ => ⟨h1, v, (hb.block b (Array.getElem?_eq_some_iff.1 h2).1).trans h2, row_later h3 hb, h4⟩
  exact ⟨h.bl.elim (fun x => .inl (bld _ x)) (fun x => .inr (bld _ x)), (hb.block _ (Array.getElem?_eq_some_iff.1 h.pbox).1).trans h.pbox, (hb.block _ (Array.getElem?_eq_some_iff.1 h.xbox).1).trans h.xbox, h.bel.trans (hb.mono h.bel.size), Nat.le_trans h.sz hb.size, h.lo, h.nep, h.nex⟩
theorem Sf.wrote (h : Sf w w' a c ca cc pb xb b B bs) (hu : Bu B b bs' w2) (hb : Below B w' w2) (hk : Kb b w' w2) : Sf w w2 a c ca cc pb xb b B bs' :=
  ⟨.inr hu, hk _ _ _ _ h.pbox (by decide) h.nep, hk _ _ _ _ h.xbox (by decide) h.nex, h.bel.trans (hb.mono h.lo), Nat.le_trans h.sz hb.size, h.lo, h.nep, h.nex⟩
theorem Sf.cells (h : Sf w w' a c ca cc pb xb b B bs) : w'.cell? ⟨pb, 0, none⟩ = some (.slice a 1 ca) ∧ w'.cell? ⟨xb, 0, none⟩ = some (.int .i64 65) ∧ w'.cell? ⟨xb, 1, none⟩ = some (.int .i64 90) ∧ w'.cell? ⟨xb, 2, none⟩ = some (.int .i64 0) :=
  ⟨by rw [cell_of_row _ _ _ _ _ _ h.pbox]; rfl, by rw [cell_of_row _ _ _ _ _ _ h.xbox]; rfl, by rw [cell_of_row _ _ _ _ _ _ h.xbox]; rfl, by rw [cell_of_row _ _ _ _ _ _ h.xbox]; rfl⟩
end
theorem tab_later {w w' : World} (h : TabAt 19 Lib.deBruijn64tab w) (hb : Below w.heap.size w w') : TabAt 19 Lib.deBruijn64tab w' := fun j hj => (hb.cell (p := ⟨19, j, none⟩) (World.block_lt_of_cell? w _ (h j hj))).trans (h j hj)
set_option maxRecDepth 10000 in
set_option maxHeartbeats 1600000 in
theorem shortFile_one (a c : Option Addr) (ca cc : Nat) (w : World) (h : One w a c) (hT : TabAt 19 Lib.deBruijn64tab w) :
    Calls Tryz.prog 37 #[.agg #[.slice a 1 ca, .slice c 1 cc]] w fun e w' => e = .returned (.string ⟨#[48, 48, 52, 49, 46, 46, 48, 48, 53, 65, 59, 85, 112, 112, 101, 114]⟩) ∧ Below w.heap.size w w' := by
  have HCl := hid0 (fun W (hb : Below w.heap.size w W) => clone_one a c cc W (h.later hb))
  have HX := hid0 (fun W (hb : Below w.heap.size w W) => hex_two 65 52 49 52 49 (.inl ⟨rfl, rfl, rfl, rfl, rfl⟩) W (tab_later hT hb))
  have HY := hid0 (fun W (hb : Below w.heap.size w W) => hex_two 90 53 97 53 65 (.inr ⟨rfl, rfl, rfl, rfl, rfl⟩) W (tab_later hT hb))
  obtain ⟨b1, o1, rfl, cn⟩ : ∃ b1 o1, a = some ⟨b1, o1, none⟩ ∧ w.cell? ⟨b1, o1, none⟩ = some (.string nmU) := by
    obtain ⟨b1, o1, _, _, h1, h2, _⟩ := h.cells
    exact ⟨b1, o1, h1, h2⟩
  have HN := hid0 (fun W (hb : Below w.heap.size w W) => (hb.cell (p := ⟨b1, o1, none⟩) (World.block_lt_of_cell? w _ cn)).trans cn)
  have HB0 := hid0 (fun o : Obj => (Below.refl w.heap.size w).alloc (Nat.le_refl _) o)
  have HP0 := hid0 (heap_alloc_new w (.cells #[.slice (some ⟨b1, o1, none⟩) 1 ca, .slice c 1 cc] 25))
  clear h hT cn
  go_enter Tryz.func37, Tryz.ntmps37
  go_wp2_with (first
    | (go_at_call 56; refine (HCl.out _ (HB0.out _)).mono ?_; rintro e w1 ⟨cap, rfl, ⟨C, hC⟩, hb1⟩; have HC := hid0 hC; have HB1 := hid0 hb1; clear hC hb1)
    | (go_at_call 57; refine (stable_one _ _ _).mono ?_; rintro e w2 ⟨rfl, hw⟩; rw [hw]; clear hw w2)
    | fail)
  obtain ⟨W2, hW2⟩ : ∃ W2, W2 = w1.alloc (.cells #[.pointer none, .slice none 0 0] 104) := ⟨_, rfl⟩
  rw [← hW2]
  have hs1 := HB1.out.size
  simp only [World.size_alloc] at hs1
  have HBw1 : Hid (Below w.heap.size w w1) := hid0 ((HB0.out _).trans (HB1.out.mono (by simp)))
  have hC := HC.out
  rw [World.size_alloc] at hC
  have hlt1 := (Array.getElem?_eq_some_iff.1 hC).1
  have hC2 : W2.heap[w.heap.size + 1 + 1]? = some (.cells (#[.int .i64 65, .int .i64 90, .int .i64 0] ++ C) 72 (0, 0)) := by rw [hW2]; exact (Below.heap_alloc _ _ _ hlt1).trans hC
  have d0 : W2.cell? ⟨w.heap.size + 1 + 1, 0, none⟩ = some (.int .i64 65) := by rw [cell_of_row _ _ _ _ _ _ hC2]; exact (Array.getElem?_append_left (show 0 < 3 by omega)).trans rfl
  have d1 : W2.cell? ⟨w.heap.size + 1 + 1, 1, none⟩ = some (.int .i64 90) := by rw [cell_of_row _ _ _ _ _ _ hC2]; exact (Array.getElem?_append_left (show 1 < 3 by omega)).trans rfl
  have d2 : W2.cell? ⟨w.heap.size + 1 + 1, 2, none⟩ = some (.int .i64 0) := by rw [cell_of_row _ _ _ _ _ _ hC2]; exact (Array.getElem?_append_left (show 2 < 3 by omega)).trans rfl
  have hz2 : W2.heap.size = w1.heap.size + 1 := by rw [hW2]; simp
  have HS0 : Hid (Sf w (W2.alloc (.cells #[.int .i64 65, .int .i64 90, .int .i64 0] 72)) (some ⟨b1, o1, none⟩) c ca cc w.heap.size W2.heap.size w1.heap.size w1.heap.size []) := hid0 (by
    have hb : (W2.alloc (.cells #[.int .i64 65, .int .i64 90, .int .i64 0] 72)).heap[w1.heap.size]? = some (.cells #[.pointer none, .slice none 0 0] 104 (0, 0)) := (Below.heap_alloc _ _ _ (by omega)).trans (by rw [hW2]; exact heap_alloc_new w1 _)
    have hp : (W2.alloc (.cells #[.int .i64 65, .int .i64 90, .int .i64 0] 72)).heap[w.heap.size]? = some (.cells #[.slice (some ⟨b1, o1, none⟩) 1 ca, .slice c 1 cc] 25 (0, 0)) := (Below.heap_alloc _ _ _ (by omega)).trans (by rw [hW2]; exact (Below.heap_alloc _ _ _ (by omega)).trans ((HB1.out.block _ (by simp)).trans HP0.out))
    refine ⟨.inl ⟨Nat.le_refl _, _, hb, World.ownsRow_nil _ _ _ _, by simp [Value.ownBlock]⟩, hp, heap_alloc_new W2 _, ?_, by simp; omega, by omega, by omega, by omega⟩
    rw [hW2]
    exact (HBw1.out.alloc HBw1.out.size _).alloc (by have := HBw1.out.size; simp; omega) _)
  have HL : Hid (∀ n : Nat, n ≤ 1000 → n ≤ 140737488355328) := hid0 (fun n h => by omega)
  clear hC hlt1 hC2 hz2 HC HB1 hs1 hW2 HBw1 HB0 HP0 HCl
  refine wp_loop_rounds 2 ?_
  rw [rounds_succ]
  go_wp2_with (first
    | (go_at_call 61; refine (HX.out _ HS0.out.bel).mono ?_; rintro e u1 ⟨rfl, hb⟩; have HS1 := hid0 (HS0.out.later hb); clear hb HS0 HX d0 d1 d2; obtain ⟨x0, x1, x2, x3⟩ := HS1.out.cells; have xn := HN.out _ HS1.out.bel)
    | (go_at_call 61; refine (HY.out _ HS3.out.bel).mono ?_; rintro e u2 ⟨rfl, hb⟩; have HS4 := hid0 (HS3.out.later hb); clear hb HS3 HY; obtain ⟨x0, x1, x2, x3⟩ := HS4.out.cells; have xn := HN.out _ HS4.out.bel)
    | (go_at_call 60; refine (writeString_any _ _ _ ⟨#[48, 48, 52, 49]⟩ _ HS1.out.bl (HL.out _ (by decide)) HS1.out.sz).mono ?_; rintro e v1 ⟨rfl, h1, h2, h3⟩; have HS2 := hid0 (HS1.out.wrote h1 h2 h3); clear HS1 h1 h2 h3; obtain ⟨x0, x1, x2, x3⟩ := HS2.out.cells; have xn := HN.out _ HS2.out.bel)
    | (go_at_call 60; refine (writeString_any _ _ _ ⟨#[46, 46]⟩ _ HS2.out.bl (HL.out _ (by decide)) HS2.out.sz).mono ?_; rintro e v2 ⟨rfl, h1, h2, h3⟩; have HS3 := hid0 (HS2.out.wrote h1 h2 h3); clear HS2 h1 h2 h3; obtain ⟨x0, x1, x2, x3⟩ := HS3.out.cells; have xn := HN.out _ HS3.out.bel)
    | (go_at_call 60; refine (writeString_any _ _ _ ⟨#[48, 48, 53, 65]⟩ _ HS4.out.bl (HL.out _ (by decide)) HS4.out.sz).mono ?_; rintro e v4 ⟨rfl, h1, h2, h3⟩; have HS5 := hid0 (HS4.out.wrote h1 h2 h3); clear HS4 h1 h2 h3; obtain ⟨x0, x1, x2, x3⟩ := HS5.out.cells; have xn := HN.out _ HS5.out.bel)
    | (go_at_call 59; refine (writeByte_any _ _ _ 59 _ HS5.out.bl (HL.out _ (by decide)) HS5.out.sz).mono ?_; rintro e u3 ⟨rfl, h1, h2, h3⟩; have HS6 := hid0 (HS5.out.wrote h1 h2 h3); clear HS5 h1 h2 h3; obtain ⟨x0, x1, x2, x3⟩ := HS6.out.cells; have xn := HN.out _ HS6.out.bel)
    | (go_at_call 60; refine (writeString_any _ _ _ nmU _ HS6.out.bl (HL.out _ (by decide)) HS6.out.sz).mono ?_; rintro e v6 ⟨rfl, h1, h2, h3⟩; have HS7 := hid0 (HS6.out.wrote h1 h2 h3); clear HS6 h1 h2 h3; obtain ⟨x0, x1, x2, x3⟩ := HS7.out.cells; have xn := HN.out _ HS7.out.bel)
    | fail)
  rw [rounds_succ]
  have HStr := hid0 (fun W (h : Bl w1.heap.size w1.heap.size (Lib.byteCells [48, 48, 52, 49, 46, 46, 48, 48, 53, 65, 59, 85, 112, 112, 101, 114]) W) (hz : w1.heap.size ≤ W.heap.size) => Any.Builder_String_any_k Tryz.lays169 ext169 w1.heap.size w1.heap.size [48, 48, 52, 49, 46, 46, 48, 48, 53, 65, 59, 85, 112, 112, 101, 114] W (Lib.IsBuilderF.of h) hz)
  change Hid (∀ W, _ → _ → Calls Tryz.prog 62 _ _ _) at HStr
  go_wp2_with (go_at_call 62; refine (HStr.out _ HS7.out.bl HS7.out.sz).mono ?_; rintro e u4 ⟨rfl, _, hb, _⟩; have HB9 := hid0 (HS7.out.bel.trans (hb.mono HS7.out.lo)); clear hb)
  go_ret
  exact ⟨rfl, HB9.out⟩
set_option maxRecDepth 10000 in
set_option maxHeartbeats 800000 in
theorem print_one (a c : Option Addr) (ca cc : Nat) (w : World) (h : One w a c) (hT : TabAt 19 Lib.deBruijn64tab w) :
    Calls Tryz.prog 13 #[.agg #[.slice a 1 ca, .slice c 1 cc]] w fun e w' => e = .returned (.tuple #[.string ⟨#[48, 48, 52, 49, 46, 46, 48, 48, 53, 65, 59, 85, 112, 112, 101, 114]⟩, .nilIface]) ∧ Below w.heap.size w w' := by
  have H1 := hid0 (fun W (hb : Below w.heap.size w W) => check_one a c ca cc W (h.later hb))
  have H2 := hid0 (fun W (hb : Below w.heap.size w W) => shortFile_one a c ca cc W (h.later hb) (tab_later hT hb))
  have HB := hid0 (fun o : Obj => (Below.refl w.heap.size w).alloc (Nat.le_refl _) o)
  have HK := hid0 (heap_alloc_new w (.cells #[.slice a 1 ca, .slice c 1 cc] 25))
  clear h hT
  go_enter Tryz.func13, Tryz.ntmps13
  go_wp2_with (first
    | (go_at_call 14; refine (H1.out _ (HB.out _)).mono ?_; rintro e w1 ⟨rfl, hb1⟩; have k := (hb1.block w.heap.size (by simp)).trans HK.out; have x0 : w1.cell? ⟨w.heap.size, 0, none⟩ = some (.slice a 1 ca) := (by rw [cell_of_row _ _ _ _ _ _ k]; rfl); have x1 : w1.cell? ⟨w.heap.size, 1, none⟩ = some (.slice c 1 cc) := (by rw [cell_of_row _ _ _ _ _ _ k]; rfl); have HW1 := hid0 ((HB.out _).trans (hb1.mono (by simp))); clear hb1 k)
    | (go_at_call 37; refine (H2.out _ HW1.out).mono ?_; rintro e w2 ⟨rfl, hb2⟩; have HW2 := hid0 (HW1.out.trans (hb2.mono HW1.out.size)); clear hb2)
    | fail)
  go_ret2
  exact ⟨rfl, HW2.out⟩
/-- The known line. -/
def knownL : By := [48, 48, 52, 49, 46, 46, 48, 48, 53, 65, 32, 59, 32, 85, 112, 112, 101, 114, 32, 35, 32, 120]
theorem known_parse : parseL knownL = .ok ⟨[nmU], [((65 : Int), (90 : Int), (0 : Int))], [((65 : Int), (90 : Int), (0 : Int))]⟩ := by kernel_rfl
set_option maxRecDepth 10000 in
set_option maxHeartbeats 800000 in
theorem known_any (A : Nat → Addr) (w : World) (hE : Sents w A) (hT : TabAt 19 Lib.deBruijn64tab w) :
    Calls Tryz.prog 12 #[] w fun e w' => e = .returned (.bool true) ∧ Below w.heap.size w w' := by
  have hP := parse_any knownL (by decide) A w hE
  rw [known_parse] at hP
  have HP := hid0 hP
  have HPr := hid0 (fun a c ca cc W (h : One W a c) (hb : Below w.heap.size w W) => print_one a c ca cc W h (tab_later hT hb))
  clear hE hT hP
  go_enter Tryz.func12, Tryz.ntmps12
  go_wp2_with (first
    | (go_at_call 8; refine HP.out.mono ?_; rintro e w1 ⟨⟨vN, vS, rfl, hN, hS, _⟩, hb1⟩; obtain ⟨a, ca, rfl, ha⟩ := hN.sa; obtain ⟨c, cc, rfl, hc⟩ := hS.pa; have HO := hid0 (One.mk ha hc); have HB1 := hid0 hb1; have HK := hid0 (heap_alloc_new w1 (.cells #[.slice a 1 ca, .slice c 1 cc] 25)); clear hN hS ha hc hb1)
    | (go_at_call 13; refine (HPr.out a c ca cc _ (HO.out.later ((Below.refl _ _).alloc (Nat.le_refl _) _)) (HB1.out.alloc HB1.out.size _)).mono ?_; rintro e w2 ⟨rfl, hb2⟩; have k := (hb2.block w1.heap.size (by simp)).trans HK.out; have x1 : w2.cell? ⟨w1.heap.size, 1, none⟩ = some (.slice c 1 cc) := (by rw [cell_of_row _ _ _ _ _ _ k]; rfl); have HB2 := hid0 ((HB1.out.alloc HB1.out.size _).trans (hb2.mono (by have := HB1.out.size; simp; omega))); clear hb2 k)
    | fail)
  go_ret
  exact ⟨rfl, HB2.out⟩
end Go.Proofs.YthdmhelgmejicaaGreatDoor
namespace Go.Proofs.YthdmhelgmejicaaGreatDoor
open Go.RowKit Go.Shelf
/-- What Pick answers. -/
def pickN (k : Int) (n : Nat) : Nat := (if k.tmod n < 0 then k.tmod n + n else k.tmod n).toNat
theorem pickN_lt (k : Int) (n : Nat) (hn : 0 < n) : pickN k n < n := by
  have hm1 := Int.tmod_lt_of_pos k (b := (n : Int)) (by omega)
  have hm2 : -(n : Int) < k.tmod n := by
    have := Int.tmod_lt_of_pos (-k) (b := (n : Int)) (by omega)
    rw [Int.neg_tmod] at this
    omega
  unfold pickN
  split <;> omega
set_option maxRecDepth 10000 in
set_option maxHeartbeats 400000 in
theorem pick_at (k : Int) (n : Nat) (hn : 0 < n) (hn2 : n ≤ 2000000) (w : World) :
    Calls Tryz.prog 17 #[.int .i64 k, .int .i64 (n : Int)] w fun e w' => e = .returned (.int .i64 (pickN k n : Nat)) ∧ w' = w := by
  have hm1 := Int.tmod_lt_of_pos k (b := (n : Int)) (by omega)
  have hm2 : -(n : Int) < k.tmod n := by
    have := Int.tmod_lt_of_pos (-k) (b := (n : Int)) (by omega)
    rw [Int.neg_tmod] at this
    omega
  have hz : ((n : Int) == 0) = false := by simp; omega
  have hz2 : ¬ (n : Int) = 0 := by omega
  have hz3 : ¬ (n : Int) < 1 := by omega
  by_cases hneg : k.tmod n < 0
  · have HE : Hid (((pickN k n : Nat) : Int) = k.tmod n + n) := hid0 (by rw [pickN, if_pos hneg]; omega)
    go_enter Tryz.func17, Tryz.ntmps17
    go_wp2
    go_ret
    exact ⟨by rw [HE.out]; rfl, rfl⟩
  · have HE : Hid (((pickN k n : Nat) : Int) = k.tmod n) := hid0 (by rw [pickN, if_neg hneg]; omega)
    go_enter Tryz.func17, Tryz.ntmps17
    go_wp2
    go_ret
    exact ⟨by rw [HE.out]; rfl, rfl⟩
/-- A digit; the last k digits of a number; how many are written. -/
def digL : By := [48, 49, 50, 51, 52, 53, 54, 55, 56, 57, 65, 66, 67, 68, 69, 70]
def hxK (n : Nat) : Nat → By
  | 0 => []
  | k + 1 => digL.getD (n / 16 ^ k % 16) 0 :: hxK n k
def hxC (n : Nat) : Nat := if n < 65536 then 4 else if n < 1048576 then 5 else 6
def hxL (n : Nat) : By := hxK n (hxC n)
theorem hxK_len (n k : Nat) : (hxK n k).length = k := by
  induction k with
  | zero => rfl
  | succ k ih => simp [hxK, ih]
theorem dig_cut : ∀ r, r < 16 → (ByteArray.mk #[48, 49, 50, 51, 52, 53, 54, 55, 56, 57, 65, 66, 67, 68, 69, 70]).extract r (r + 1) = rd [digL.getD r 0] := by decide
theorem hx_more (n k : Nat) (hn : n ≤ 1114111) (hk : k ≤ hxC n) : (n / 16 ^ k > 0 ∨ k < 4) ↔ k < hxC n := by
  unfold hxC at hk ⊢
  have h7 : k = 0 ∨ k = 1 ∨ k = 2 ∨ k = 3 ∨ k = 4 ∨ k = 5 ∨ k = 6 := by split at hk <;> (try split at hk) <;> omega
  rcases h7 with rfl | rfl | rfl | rfl | rfl | rfl | rfl <;> (split <;> (try split)) <;> simp <;> (try omega)
theorem rd_append (a b : By) : rd a ++ rd b = rd (a ++ b) := by
  apply ByteArray.ext
  simp [rd, ByteArray.data_append]
set_option maxRecDepth 10000 in
set_option maxHeartbeats 800000 in
theorem hex_at (n : Nat) (hn : n ≤ 1114111) (w : World) :
    Calls Tryz.prog 41 #[.int .i64 (n : Int)] w fun e w' => e = .returned (.string (rd (hxL n))) ∧ w' = w := by
  have h6 : hxC n ≤ 6 := by unfold hxC; split <;> (try split) <;> omega
  go_enter Tryz.func41, Tryz.ntmps41
  go_wp2
  go_loop [0, 3] (fun i t => ∃ k : Nat, k ≤ hxC n ∧ i = .int .i64 ((n / 16 ^ k : Nat) : Int) ∧ t = .string (rd (hxK n k))) (fun _ t => 6 - (match t with | .string b => b.size | _ => 0))
  case atStart => exact ⟨0, Nat.zero_le _, by simp, rfl⟩
  case round =>
    obtain ⟨k, hk, rfl, rfl⟩ := hrel
    have hsz : (rd (hxK n k)).size = k := by simp [ByteArray.size, hxK_len]
    have HM := hid0 (hx_more n k hn hk)
    obtain ⟨m, hm⟩ : ∃ m, n / 16 ^ k = m := ⟨_, rfl⟩
    have hml : m ≤ 1114111 := by rw [← hm]; exact Nat.le_trans (Nat.div_le_self _ _) hn
    have hm2 : n / 16 ^ (k + 1) = m / 16 := by rw [Nat.pow_succ, ← Nat.div_div_eq_div_mul, hm]
    have hK1 : hxK n (k + 1) = digL.getD (m % 16) 0 :: hxK n k := by rw [hxK, hm]
    rw [hm] at HM ⊢
    have HM2 := hid0 hm2
    have HK1 := hid0 hK1
    generalize hst : rd (hxK n k) = st at *
    have HST := hid0 hst
    have HSZ := hid0 hsz
    clear hm hm2 hK1 hst
    obtain ⟨r, hr⟩ : ∃ r, m % 16 = r := ⟨_, rfl⟩
    obtain ⟨q, hq⟩ : ∃ q, m / 16 = q := ⟨_, rfl⟩
    have hr16 : r < 16 := by omega
    have ht : (m : Int).tmod 16 = (r : Int) := by rw [Int.tmod_eq_emod_of_nonneg (by omega)]; omega
    have hd : (m : Int).tdiv 16 = (q : Int) := by rw [Int.tdiv_eq_ediv_of_nonneg (by omega)]; omega
    have hwq : wrap64 (q : Int) = (q : Int) := by unfold wrap64; omega
    have HWq := hid0 hwq
    have HR := hid0 hr
    clear hwq
    have HQ := hid0 hq
    clear hr hq
    by_cases hlt : k < hxC n
    · have hor := HM.out.2 hlt
      have HL := hid0 hlt
      clear hlt
      by_cases h0 : 0 < m
      · have hI : (0 : Int) < (m : Int) := by omega
        clear hor
        go_wp2
        go_round
        case rel => exact ⟨k + 1, HL.out, by rw [HM2.out, HQ.out, HWq.out], by rw [HK1.out, HR.out, ← HST.out, dig_cut r hr16, rd_append]; rfl⟩
        case measure =>
          have h1 := HL.out
          have h2 := HSZ.out
          have h3 : (rd [digL.getD r 0]).size = 1 := rfl
          rw [dig_cut r hr16]
          show 6 - (rd [digL.getD r 0] ++ st).size < 6 - st.size
          rw [ByteArray.size_append, h3]
          omega
      · have hI : ¬ (0 : Int) < (m : Int) := by omega
        have hk4 : (k : Int) < 4 := by omega
        clear hor
        go_wp2
        go_round
        case rel => exact ⟨k + 1, HL.out, by rw [HM2.out, HQ.out, HWq.out], by rw [HK1.out, HR.out, ← HST.out, dig_cut r hr16, rd_append]; rfl⟩
        case measure =>
          have h1 := HL.out
          have h2 := HSZ.out
          have h3 : (rd [digL.getD r 0]).size = 1 := rfl
          rw [dig_cut r hr16]
          show 6 - (rd [digL.getD r 0] ++ st).size < 6 - st.size
          rw [ByteArray.size_append, h3]
          omega
    · have h0 : ¬ (0 : Int) < (m : Int) := fun h => hlt (HM.out.1 (.inl (by omega)))
      have hk4 : ¬ (k : Int) < 4 := fun h => hlt (HM.out.1 (.inr (by omega)))
      have HE : Hid (k = hxC n) := hid0 (by omega)
      clear hlt
      go_wp2
      go_ret
      exact ⟨by rw [← HST.out, hxL, ← HE.out]; rfl, rfl⟩
/-- A line as it is given. -/
structure Li where
  a : Int
  b : Int
  n : Int
  both : Bool
  bl : Int
  com : Bool
def Li.val (l : Li) : Value := .agg #[.int .i64 l.a, .int .i64 l.b, .int .i64 l.n, .bool l.both, .int .i64 l.bl, .bool l.com]
def Li.lo (l : Li) : Nat := min (pickN l.a 1114112) (pickN l.b 1114112)
def Li.hi (l : Li) : Nat := if l.both then max (pickN l.a 1114112) (pickN l.b 1114112) else l.lo
def Li.nm (l : Li) : By := [UInt8.ofNat (97 + pickN l.n 26)]
def Li.blk (l : Li) : By := [9, 32, 32, 9, 32].take (pickN l.bl 5)
theorem Li.lo_le (l : Li) : l.lo ≤ l.hi ∧ l.hi ≤ 1114111 := by
  have h1 := pickN_lt l.a 1114112 (by decide)
  have h2 := pickN_lt l.b 1114112 (by decide)
  unfold Li.hi Li.lo
  split <;> omega
theorem nm_cut : ∀ r, r < 26 → (ByteArray.mk #[97, 98, 99, 100, 101, 102, 103, 104, 105, 106, 107, 108, 109, 110, 111, 112, 113, 114, 115, 116, 117, 118, 119, 120, 121, 122]).extract r (r + 1) = rd [UInt8.ofNat (97 + r)] := by decide
theorem blk_cut : ∀ r, r < 5 → (ByteArray.mk #[9, 32, 32, 9, 32]).extract 0 r = rd ([9, 32, 32, 9, 32].take r) := by decide
set_option maxRecDepth 10000 in
set_option maxHeartbeats 800000 in
theorem low_at (l : Li) (w : World) :
    Calls Tryz.prog 18 #[l.val] w fun e w' => e = .returned (.int .i64 (l.lo : Nat)) ∧ Below w.heap.size w w' := by
  have H1 := hid0 (fun W => pick_at l.a 1114112 (by decide) (by decide) W)
  have H2 := hid0 (fun W => pick_at l.b 1114112 (by decide) (by decide) W)
  have HB := hid0 (fun o => (Below.refl w.heap.size w).alloc (Nat.le_refl _) o)
  have hE : ((l.lo : Nat) : Int) = min (pickN l.a 1114112 : Int) (pickN l.b 1114112 : Int) := by unfold Li.lo; omega
  have HE := hid0 hE
  obtain ⟨x, hx⟩ : ∃ x, pickN l.a 1114112 = x := ⟨_, rfl⟩
  obtain ⟨y, hy⟩ : ∃ y, pickN l.b 1114112 = y := ⟨_, rfl⟩
  rw [hx] at H1 HE
  rw [hy] at H2 HE
  clear hE hx hy
  unfold Li.val
  go_enter Tryz.func18, Tryz.ntmps18
  have mk := hid0 True.intro
  go_wp2_with (first
    | (clear mk; go_at_call 17; refine (H1.out _).mono ?_; rintro e w1 ⟨rfl, rfl⟩)
    | (go_at_call 17; refine (H2.out _).mono ?_; rintro e w2 ⟨rfl, rfl⟩)
    | fail)
  go_ret
  exact ⟨by rw [HE.out]; rfl, HB.out _⟩
end Go.Proofs.YthdmhelgmejicaaGreatDoor
namespace Go.Proofs.YthdmhelgmejicaaGreatDoor
open Go.RowKit Go.Shelf
set_option maxRecDepth 10000 in
set_option maxHeartbeats 800000 in
theorem high_at (l : Li) (w : World) :
    Calls Tryz.prog 19 #[l.val] w fun e w' => e = .returned (.int .i64 (l.hi : Nat)) ∧ Below w.heap.size w w' := by
  have HL := hid0 (fun W => low_at l W)
  have H1 := hid0 (fun W => pick_at l.a 1114112 (by decide) (by decide) W)
  have H2 := hid0 (fun W => pick_at l.b 1114112 (by decide) (by decide) W)
  have HB := hid0 (fun o => (Below.refl w.heap.size w).alloc (Nat.le_refl _) o)
  obtain ⟨x, hx⟩ : ∃ x, pickN l.a 1114112 = x := ⟨_, rfl⟩
  obtain ⟨y, hy⟩ : ∃ y, pickN l.b 1114112 = y := ⟨_, rfl⟩
  obtain ⟨z, hz⟩ : ∃ z, l.lo = z := ⟨_, rfl⟩
  have HE : Hid (((l.hi : Nat) : Int) = if l.both then max (x : Int) (y : Int) else (z : Int)) := hid0 (by unfold Li.hi; rw [hx, hy, hz]; split <;> omega)
  rw [hx] at H1
  rw [hy] at H2
  rw [hz] at HL
  clear hx hy hz
  unfold Li.val at HL ⊢
  obtain ⟨a, b, n, both, bl, com⟩ := l
  cases both with
  | false =>
    go_enter Tryz.func19, Tryz.ntmps19
    go_wp2_with (first
      | (go_at_call 18; refine (HL.out _).mono ?_; rintro e w1 ⟨rfl, hb⟩; have HB1 := hid0 ((HB.out _).trans (hb.mono (by simp))); clear hb)
      | fail)
    go_ret
    exact ⟨by rw [HE.out]; rfl, HB1.out⟩
  | true =>
    go_enter Tryz.func19, Tryz.ntmps19
    have mk := hid0 True.intro
    go_wp2_with (first
      | (clear mk; go_at_call 17; refine (H1.out _).mono ?_; rintro e w1 ⟨rfl, rfl⟩)
      | (go_at_call 17; refine (H2.out _).mono ?_; rintro e w2 ⟨rfl, rfl⟩)
      | fail)
    go_ret
    exact ⟨by rw [HE.out]; rfl, HB.out _⟩
set_option maxRecDepth 10000 in
set_option maxHeartbeats 800000 in
theorem name_at (l : Li) (w : World) :
    Calls Tryz.prog 20 #[l.val] w fun e w' => e = .returned (.string (rd l.nm)) ∧ Below w.heap.size w w' := by
  have H1 := hid0 (fun W => pick_at l.n 26 (by decide) (by decide) W)
  have HB := hid0 (fun o => (Below.refl w.heap.size w).alloc (Nat.le_refl _) o)
  have hlt := pickN_lt l.n 26 (by decide)
  obtain ⟨x, hx⟩ : ∃ x, pickN l.n 26 = x := ⟨_, rfl⟩
  have HE : Hid (rd l.nm = (ByteArray.mk #[97, 98, 99, 100, 101, 102, 103, 104, 105, 106, 107, 108, 109, 110, 111, 112, 113, 114, 115, 116, 117, 118, 119, 120, 121, 122]).extract x (x + 1)) := hid0 (by unfold Li.nm; rw [hx, nm_cut x (by omega)])
  rw [hx] at H1 hlt
  clear hx
  unfold Li.val
  go_enter Tryz.func20, Tryz.ntmps20
  go_wp2_with (first
    | (go_at_call 17; refine (H1.out _).mono ?_; rintro e w1 ⟨rfl, rfl⟩)
    | fail)
  go_ret
  exact ⟨by rw [HE.out]; rfl, HB.out _⟩
/-- A line's text. -/
def Li.pts (l : Li) : By := hxL l.lo ++ (if l.both then [46, 46] ++ hxL l.hi else [])
def Li.tx (l : Li) : By := l.blk ++ l.pts ++ l.blk ++ [59] ++ l.blk ++ l.nm ++ l.blk ++ (if l.com then [35, 32, 120, 59, 0, 13, 32] else [])
theorem hxL_len (n : Nat) : (rd (hxL n)).size ≤ 6 := by
  have : (hxL n).length ≤ 6 := by unfold hxL; rw [hxK_len]; unfold hxC; split <;> (try split) <;> omega
  simpa [ByteArray.size] using this
theorem app_nil (x : ByteArray) : x ++ rd [] = x := by
  apply ByteArray.ext
  simp [ByteArray.data_append]
/-- The line in its box. -/
structure Lb (w W : World) (l : Li) : Prop where
  bel : Below w.heap.size w W
  box : W.heap[w.heap.size]? = some (.cells #[.int .i64 l.a, .int .i64 l.b, .int .i64 l.n, .bool l.both, .int .i64 l.bl, .bool l.com] 45 (0, 0))
theorem Lb.later {w W W' : World} {l : Li} (h : Lb w W l) (hb : Below W.heap.size W W') : Lb w W' l :=
  ⟨h.bel.trans (hb.mono h.bel.size), (hb.block _ (Array.getElem?_eq_some_iff.1 h.box).1).trans h.box⟩
theorem Lb.cells {w W : World} {l : Li} (h : Lb w W l) : W.cell? ⟨w.heap.size, 0, none⟩ = some (.int .i64 l.a) ∧ W.cell? ⟨w.heap.size, 1, none⟩ = some (.int .i64 l.b) ∧ W.cell? ⟨w.heap.size, 2, none⟩ = some (.int .i64 l.n) ∧ W.cell? ⟨w.heap.size, 3, none⟩ = some (.bool l.both) ∧ W.cell? ⟨w.heap.size, 4, none⟩ = some (.int .i64 l.bl) ∧ W.cell? ⟨w.heap.size, 5, none⟩ = some (.bool l.com) := by
  refine ⟨?_, ?_, ?_, ?_, ?_, ?_⟩ <;> (rw [cell_of_row _ _ _ _ _ _ h.box]; rfl)
set_option maxRecDepth 10000 in
set_option maxHeartbeats 1600000 in
theorem text_at (l : Li) (w : World) :
    Calls Tryz.prog 15 #[l.val] w fun e w' => e = .returned (.string (rd l.tx)) ∧ Below w.heap.size w w' := by
  have HL := hid0 (fun W => low_at l W)
  have HH := hid0 (fun W => high_at l W)
  have HNm := hid0 (fun W => name_at l W)
  have HP := hid0 (fun W => pick_at l.bl 5 (by decide) (by decide) W)
  have HX := hid0 (fun W => hex_at l.lo (Nat.le_trans l.lo_le.1 l.lo_le.2) W)
  have HY := hid0 (fun W => hex_at l.hi l.lo_le.2 W)
  have hlt := pickN_lt l.bl 5 (by decide)
  have HBk : Hid ((ByteArray.mk #[9, 32, 32, 9, 32]).extract 0 (pickN l.bl 5) = rd l.blk) := hid0 (blk_cut _ hlt)
  have s1 := hxL_len l.lo
  have s2 := hxL_len l.hi
  have s3 : (rd l.nm).size = 1 := rfl
  have HT : Hid (rd l.tx = rd l.blk ++ (rd (hxL l.lo) ++ (if l.both then rd [46, 46] ++ rd (hxL l.hi) else rd [])) ++ rd l.blk ++ rd [59] ++ rd l.blk ++ rd l.nm ++ rd l.blk ++ (if l.com then rd [35, 32, 120, 59, 0, 13, 32] else rd [])) := hid0 (by
    unfold Li.tx Li.pts
    cases l.both <;> cases l.com <;> simp only [rd_append, Bool.false_eq_true, if_false, if_true])
  have HS0 : Hid (Lb w (w.alloc (.cells #[.int .i64 l.a, .int .i64 l.b, .int .i64 l.n, .bool l.both, .int .i64 l.bl, .bool l.com] 45)) l) := hid0 ⟨(Below.refl w.heap.size w).alloc (Nat.le_refl _) _, heap_alloc_new w _⟩
  have s4 : (rd l.blk).size ≤ 5 := by rw [← HBk.out]; simp [ByteArray.size_extract]; omega
  generalize rd (hxL l.lo) = X at *
  generalize rd (hxL l.hi) = Y at *
  generalize rd l.blk = B at *
  generalize rd l.nm = M at *
  generalize rd l.tx = T at *
  generalize pickN l.bl 5 = p at *
  generalize l.lo = lo at *
  generalize l.hi = hi at *
  unfold Li.val at *
  obtain ⟨a, b, n, both, bl, com⟩ := l
  cases both <;> cases com <;> (
    go_enter Tryz.func15, Tryz.ntmps15
    have mk := hid0 True.intro
    go_wp2_with (first
      | (go_at_call 18; refine (HL.out _).mono ?_; rintro e w1 ⟨rfl, hb⟩; have HS1 := hid0 (HS0.out.later hb); clear hb HS0; obtain ⟨x0, x1, x2, x3, x4, x5⟩ := HS1.out.cells)
      | (clear mk; go_at_call 41; refine (HX.out _).mono ?_; rintro e w2 ⟨rfl, rfl⟩)
      | (go_at_call 19; refine (HH.out _).mono ?_; rintro e w3 ⟨rfl, hb⟩; have HS2 := hid0 (HS1.out.later hb); clear hb HS1 x0 x1 x2 x3 x4 x5; have HS1 := HS2; clear HS2; obtain ⟨x0, x1, x2, x3, x4, x5⟩ := HS1.out.cells)
      | (go_at_call 41; refine (HY.out _).mono ?_; rintro e w4 ⟨rfl, rfl⟩)
      | (go_at_call 17; refine (HP.out _).mono ?_; rintro e w5 ⟨rfl, rfl⟩)
      | (go_at_call 20; refine (HNm.out _).mono ?_; rintro e w6 ⟨rfl, hb⟩; have HS3 := hid0 (HS1.out.later hb); clear hb HS1 x0 x1 x2 x3 x4 x5; obtain ⟨x0, x1, x2, x3, x4, x5⟩ := HS3.out.cells)
      | fail)
    go_ret
    refine ⟨?_, HS3.out.bel⟩
    rw [HT.out, ← HBk.out]
    refine congrArg (fun b => Ending.returned (.string b)) ?_
    simp only [Bool.false_eq_true, if_false, if_true, app_nil, ByteArray.append_assoc])
end Go.Proofs.YthdmhelgmejicaaGreatDoor
namespace Go.Proofs.YthdmhelgmejicaaGreatDoor
open Go.RowKit Go.Shelf
/-- Which name the spans give a point. -/
def clsL (names : List ByteArray) : List Sp → Int → ByteArray
  | [], _ => ⟨#[]⟩
  | t :: r, x => if t.1 ≤ x ∧ x ≤ t.2.1 then names.getD t.2.2.toNat ⟨#[]⟩ else clsL names r x
set_option maxRecDepth 10000 in
set_option maxHeartbeats 1600000 in
theorem class_at (names : List ByteArray) (sp : List Sp) (a b : Option Addr) (ca cb : Nat) (x : Int) (w : World) (hs : sp.length ≤ 1000000) (hok : ∀ t ∈ sp, 0 ≤ t.2.2 ∧ t.2.2 < (names.length : Int)) (ha : SA w a names) (hb : PA w b sp) :
    Calls Tryz.prog 21 #[.agg #[.slice a names.length ca, .slice b sp.length cb], .int .i64 x] w fun e w' => e = .returned (.string (clsL names sp x)) ∧ Below w.heap.size w w' := by
  have HB := hid0 ((Below.refl w.heap.size w).alloc (Nat.le_refl _) (.cells #[.slice a names.length ca, .slice b sp.length cb] 25))
  have HA := hid0 (ha.later HB.out)
  have HP := hid0 (hb.later HB.out)
  have HO := hid0 hok
  have hK := heap_alloc_new w (.cells #[.slice a names.length ca, .slice b sp.length cb] 25)
  have x0 : (w.alloc (.cells #[.slice a names.length ca, .slice b sp.length cb] 25)).cell? ⟨w.heap.size, 0, none⟩ = some (.slice a names.length ca) := by rw [cell_of_row _ _ _ _ _ _ hK]; rfl
  have x1 : (w.alloc (.cells #[.slice a names.length ca, .slice b sp.length cb] 25)).cell? ⟨w.heap.size, 1, none⟩ = some (.slice b sp.length cb) := by rw [cell_of_row _ _ _ _ _ _ hK]; rfl
  clear ha hb hok hK
  go_enter Tryz.func21, Tryz.ntmps21
  go_wp2
  generalize w.alloc (.cells #[.slice a names.length ca, .slice b sp.length cb] 25) = W at *
  go_loop [5] (fun i => ∃ k : Nat, k ≤ sp.length ∧ i = .int .i64 (k : Int) ∧ clsL names sp x = clsL names (sp.drop k) x) (fun i => sp.length - (intOf i).toNat)
  case atStart => exact ⟨0, Nat.zero_le _, rfl, rfl⟩
  case round =>
    obtain ⟨k, hk, rfl, hc⟩ := hrel
    by_cases hlt : k < sp.length
    · have hkI : (k : Int) < (sp.length : Int) := by omega
      obtain ⟨b1, o1, rfl, _, c0, c1, c2⟩ := HP.out.at' k hlt
      have hdr := List.drop_eq_getElem_cons hlt
      have ht := HO.out sp[k] (List.getElem_mem hlt)
      rw [hdr, clsL] at hc
      generalize sp[k] = t at *
      obtain ⟨lo, hi, nm⟩ := t
      simp only at hc c0 c1 c2 ht
      have HC := hid0 hc
      have HD := hid0 hdr
      clear hc hdr HP HO
      by_cases h1 : lo ≤ x
      · by_cases h2 : x ≤ hi
        · obtain ⟨m, rfl⟩ : ∃ m : Nat, nm = (m : Int) := ⟨nm.toNat, by omega⟩
          have hm : m < names.length := by omega
          obtain ⟨b2, o2, rfl, d0⟩ := HA.out.at' m hm
          have HV : Hid (clsL names sp x = names[m]) := hid0 (by rw [HC.out, if_pos ⟨h1, h2⟩]; simp [hm])
          generalize names[m] = v at *
          have hmI : (m : Int) < (names.length : Int) := by omega
          have hmI2 : ¬ (names.length : Int) ≤ (m : Int) := by omega
          have hm0 : ¬ (m : Int) < 0 := by omega
          clear HA ht HC HD
          go_wp2
          go_ret
          exact ⟨by rw [HV.out]; rfl, HB.out⟩
        · have HV : Hid (clsL names sp x = clsL names (sp.drop (k + 1)) x) := hid0 (by rw [HC.out, if_neg (fun h => h2 h.2)])
          clear HA ht HC HD
          go_wp2
          go_round
          case rel => exact ⟨k + 1, by omega, by go_num, HV.out⟩
          case measure => simp [intOf]; omega
      · have HV : Hid (clsL names sp x = clsL names (sp.drop (k + 1)) x) := hid0 (by rw [HC.out, if_neg (fun h => h1 h.1)])
        clear HA ht HC HD
        go_wp2
        go_round
        case rel => exact ⟨k + 1, by omega, by go_num, HV.out⟩
        case measure => simp [intOf]; omega
    · have hkI : ¬ (k : Int) < (sp.length : Int) := by omega
      have HV : Hid (clsL names sp x = ⟨#[]⟩) := hid0 (by rw [hc, List.drop_of_length_le (by omega)]; rfl)
      clear hc HA HP HO
      go_wp2
      go_ret
      exact ⟨by rw [HV.out]; rfl, HB.out⟩
end Go.Proofs.YthdmhelgmejicaaGreatDoor
namespace Go.Proofs.YthdmhelgmejicaaGreatDoor
open Go.RowKit Go.Shelf
/-- Lines in memory, each where it is asked. -/
structure LA (w : World) (a : Option Addr) (L : List Li) : Prop where
  at' : ∀ k (h : k < L.length), ∃ b off, a = some ⟨b, off, none⟩ ∧ b < w.heap.size ∧ w.cell? ⟨b, off + k * 6, none⟩ = some (.int .i64 L[k].a) ∧ w.cell? ⟨b, off + k * 6 + 1, none⟩ = some (.int .i64 L[k].b) ∧ w.cell? ⟨b, off + k * 6 + 2, none⟩ = some (.int .i64 L[k].n) ∧ w.cell? ⟨b, off + k * 6 + 3, none⟩ = some (.bool L[k].both) ∧ w.cell? ⟨b, off + k * 6 + 4, none⟩ = some (.int .i64 L[k].bl) ∧ w.cell? ⟨b, off + k * 6 + 5, none⟩ = some (.bool L[k].com)
theorem LA.later {w w' : World} {a : Option Addr} {L : List Li} (h : LA w a L) (hb : Below w.heap.size w w') : LA w' a L := ⟨fun k hk => by
  obtain ⟨b, off, rfl, hl, h0, h1, h2, h3, h4, h5⟩ := h.at' k hk
  exact ⟨b, off, rfl, Nat.lt_of_lt_of_le hl hb.size, (hb.cell (p := ⟨b, off + k * 6, none⟩) hl).trans h0, (hb.cell (p := ⟨b, off + k * 6 + 1, none⟩) hl).trans h1, (hb.cell (p := ⟨b, off + k * 6 + 2, none⟩) hl).trans h2, (hb.cell (p := ⟨b, off + k * 6 + 3, none⟩) hl).trans h3, (hb.cell (p := ⟨b, off + k * 6 + 4, none⟩) hl).trans h4, (hb.cell (p := ⟨b, off + k * 6 + 5, none⟩) hl).trans h5⟩⟩
theorem low_in (l : Li) (wr W : World) (hW : Below wr.heap.size wr W) : Calls Tryz.prog 18 #[l.val] W fun e w' => e = .returned (.int .i64 (l.lo : Nat)) ∧ Below wr.heap.size wr w' := by
  refine (low_at l W).mono ?_
  rintro e w' ⟨h1, h2⟩
  exact ⟨h1, hW.trans (h2.mono hW.size)⟩
theorem high_in (l : Li) (wr W : World) (hW : Below wr.heap.size wr W) : Calls Tryz.prog 19 #[l.val] W fun e w' => e = .returned (.int .i64 (l.hi : Nat)) ∧ Below wr.heap.size wr w' := by
  refine (high_at l W).mono ?_
  rintro e w' ⟨h1, h2⟩
  exact ⟨h1, hW.trans (h2.mono hW.size)⟩
/-- Two lines have a point in common. -/
def Hit (L : List Li) (i k : Nat) : Prop := ∃ (hi : i < L.length) (hk : k < L.length), L[i].lo ≤ L[k].hi ∧ L[k].lo ≤ L[i].hi
/-- What overlap answers. -/
def OvIs (L : List Li) (r : Int) : Prop := (r = -1 ∧ ∀ j k, k < j → ¬ Hit L j k) ∨ ∃ i k : Nat, r = (i : Int) ∧ k < i ∧ Hit L i k ∧ ∀ j k, j < i → k < j → ¬ Hit L j k
end Go.Proofs.YthdmhelgmejicaaGreatDoor
namespace Go.Proofs.YthdmhelgmejicaaGreatDoor
open Go.RowKit Go.Shelf
section
variable {P : Program} {ops : Array Oper} {Q : Exit → Act → World → Prop} {md : Region.Mode} {S : World → Prop}
/-- An operation that yields a value is taken first. -/
theorem tkV {i : Nat} {oi : Oper} {d : Option Tmp} {v : Value} {fuel : Nat} {listed : Array Bool} {a : Act} {w : World} (hi : ops[i]? = some oi)
    (hs : Region.noSelect ops = true) (hf : Region.free md ops listed i = true) (hr : (Region.ready md ops listed).contains i = true) (hd : oi.dst = d)
    (hQ : ∀ c a w, Q (.panic c) (a.put d v) w → Q (.panic c) a w) (hw : Region.wanted oi (yielded ops a.tmps) = true) (hv : ∀ w, S w → (execOp a.eval oi).run P w = .ok (.value v) w) (hS : S w)
    (h : wpAnyH P md ops Q S fuel (listed.setIfInBounds i true) (a.put d v) w) : wpAnyH P md ops Q S (fuel + 1) listed a w := by
  subst hd
  exact wpAnyH_take hi hs hf hr hQ (.inl ⟨hw, hv⟩) hS h
/-- An operation that nobody wants is taken first. -/
theorem tkU {i : Nat} {oi : Oper} {d : Option Tmp} {fuel : Nat} {listed : Array Bool} {a : Act} {w : World} (hi : ops[i]? = some oi)
    (hs : Region.noSelect ops = true) (hf : Region.free md ops listed i = true) (hr : (Region.ready md ops listed).contains i = true) (hd : oi.dst = d)
    (hQ : ∀ c a w, Q (.panic c) (a.put d undef) w → Q (.panic c) a w) (hw : Region.wanted oi (yielded ops a.tmps) = false) (hS : S w)
    (h : wpAnyH P md ops Q S fuel (listed.setIfInBounds i true) (a.put d undef) w) : wpAnyH P md ops Q S (fuel + 1) listed a w := by
  subst hd
  exact wpAnyH_take hi hs hf hr hQ (.inr ⟨hw, rfl⟩) hS h
end
set_option maxRecDepth 10000 in
set_option maxHeartbeats 3200000 in
theorem overlap_at (L : List Li) (a : Option Addr) (ca : Nat) (w : World) (hl : L.length ≤ 1000000) (ha : LA w a L) :
    Calls Tryz.prog 16 #[.slice a L.length ca] w fun e w' => ∃ r : Int, e = .returned (.int .i64 r) ∧ OvIs L r ∧ Below w.heap.size w w' := by
  have HA := hid0 ha
  clear ha
  have HB0 := hid0 (Below.refl w.heap.size w)
  go_enter Tryz.func16, Tryz.ntmps16
  go_wp2
  go_loopw [3] (fun t wr => ∃ i : Nat, i ≤ L.length ∧ t = .int .i64 (i : Int) ∧ Hid (∀ j k, j < i → k < j → ¬ Hit L j k) ∧ Hid (Below w.heap.size w wr)) (fun t _ => L.length - (intOf t).toNat)
  case atStart => exact ⟨0, Nat.zero_le _, rfl, fun j k h => absurd h (Nat.not_lt_zero _), HB0⟩
  case round =>
    obtain ⟨i, hi, rfl, HN, HB⟩ := hrel
    by_cases hlt : i < L.length
    · have hiI : (i : Int) < (L.length : Int) := by omega
      go_wp2
      go_loopw [4] (fun t wr => ∃ k : Nat, k ≤ i ∧ t = .int .i64 (k : Int) ∧ Hid (∀ k', k' < k → ¬ Hit L i k') ∧ Hid (Below w.heap.size w wr)) (fun t _ => i - (intOf t).toNat)
      case atStart => exact ⟨0, Nat.zero_le _, rfl, fun k h => absurd h (Nat.not_lt_zero _), HB⟩
      case round =>
        clear HB
        obtain ⟨k, hk, rfl, HK, HB⟩ := hrel
        by_cases hlk : k < i
        · have hkI : (k : Int) < (i : Int) := by omega
          have hkL : (k : Int) < (L.length : Int) := by omega
          have hk0 : (0 : Int) ≤ (k : Int) := by omega
          have hi0 : (0 : Int) ≤ (i : Int) := by omega
          obtain ⟨b, off, rfl, hbl, c0, c1, c2, c3, c4, c5⟩ := (HA.out.later HB.out).at' i hlt
          obtain ⟨b', off', e0, _, d0, d1, d2, d3, d4, d5⟩ := (HA.out.later HB.out).at' k (by omega)
          simp only [Option.some.injEq, Addr.mk.injEq, and_true] at e0
          obtain ⟨rfl, rfl⟩ := e0
          have HLi := hid0 (fun W (hW : Below wr.heap.size wr W) => low_in L[i] wr W hW)
          have HHi := hid0 (fun W (hW : Below wr.heap.size wr W) => high_in L[i] wr W hW)
          have HLk := hid0 (fun W (hW : Below wr.heap.size wr W) => low_in (L[k]'(by omega)) wr W hW)
          have HHk := hid0 (fun W (hW : Below wr.heap.size wr W) => high_in (L[k]'(by omega)) wr W hW)
          have HH : Hid (Hit L i k ↔ L[i].lo ≤ (L[k]'(by omega)).hi ∧ (L[k]'(by omega)).lo ≤ L[i].hi) := hid0 ⟨fun ⟨_, _, h⟩ => h, fun h => ⟨hlt, by omega, h⟩⟩
          generalize L[i] = li at *
          generalize L[k]'(by omega) = lk at *
          generalize li.lo = p1 at *
          generalize li.hi = p2 at *
          generalize lk.lo = q1 at *
          generalize lk.hi = q2 at *
          unfold Li.val at HLi HHi HLk HHk
          obtain ⟨ia, ib, inm, ibo, ibl, ico⟩ := li
          obtain ⟨ka, kb, knm, kbo, kbl, kco⟩ := lk
          simp only at c0 c1 c2 c3 c4 c5 d0 d1 d2 d3 d4 d5 HLi HHi HLk HHk
          have HSo : Hid (∀ W, Below wr.heap.size wr W → W.cell? ⟨b, off + i * 6, none⟩ = some (.int .i64 ia) ∧ W.cell? ⟨b, off + i * 6 + 1, none⟩ = some (.int .i64 ib) ∧ W.cell? ⟨b, off + i * 6 + 2, none⟩ = some (.int .i64 inm) ∧ W.cell? ⟨b, off + i * 6 + 3, none⟩ = some (.bool ibo) ∧ W.cell? ⟨b, off + i * 6 + 4, none⟩ = some (.int .i64 ibl) ∧ W.cell? ⟨b, off + i * 6 + 5, none⟩ = some (.bool ico) ∧ W.cell? ⟨b, off + k * 6, none⟩ = some (.int .i64 ka) ∧ W.cell? ⟨b, off + k * 6 + 1, none⟩ = some (.int .i64 kb) ∧ W.cell? ⟨b, off + k * 6 + 2, none⟩ = some (.int .i64 knm) ∧ W.cell? ⟨b, off + k * 6 + 3, none⟩ = some (.bool kbo) ∧ W.cell? ⟨b, off + k * 6 + 4, none⟩ = some (.int .i64 kbl) ∧ W.cell? ⟨b, off + k * 6 + 5, none⟩ = some (.bool kco) ∧ Below wr.heap.size wr W) := hid0 (fun W hW =>
            ⟨(hW.cell (p := ⟨b, off + i * 6, none⟩) hbl).trans c0, (hW.cell (p := ⟨b, off + i * 6 + 1, none⟩) hbl).trans c1, (hW.cell (p := ⟨b, off + i * 6 + 2, none⟩) hbl).trans c2, (hW.cell (p := ⟨b, off + i * 6 + 3, none⟩) hbl).trans c3, (hW.cell (p := ⟨b, off + i * 6 + 4, none⟩) hbl).trans c4, (hW.cell (p := ⟨b, off + i * 6 + 5, none⟩) hbl).trans c5,
              (hW.cell (p := ⟨b, off + k * 6, none⟩) hbl).trans d0, (hW.cell (p := ⟨b, off + k * 6 + 1, none⟩) hbl).trans d1, (hW.cell (p := ⟨b, off + k * 6 + 2, none⟩) hbl).trans d2, (hW.cell (p := ⟨b, off + k * 6 + 3, none⟩) hbl).trans d3, (hW.cell (p := ⟨b, off + k * 6 + 4, none⟩) hbl).trans d4, (hW.cell (p := ⟨b, off + k * 6 + 5, none⟩) hbl).trans d5, hW⟩)
          have hB0 := Below.refl wr.heap.size wr
          clear HA
          by_cases h1 : p1 ≤ q2
          · have h1I : (p1 : Int) ≤ (q2 : Int) := by omega
            by_cases h2 : q1 ≤ p2
            · have h2I : (q1 : Int) ≤ (p2 : Int) := by omega
              have HR : Hid (OvIs L (i : Int)) := hid0 (.inr ⟨i, k, rfl, hlk, HH.out.2 ⟨h1, h2⟩, HN.out⟩)
              clear HH HN HK
              have M1 : Hid True := trivial
              have M2 : Hid True := trivial
              go_wp2
              go_region_held3 (fun W => W.cell? ⟨b, off + i * 6, none⟩ = some (.int .i64 ia) ∧ W.cell? ⟨b, off + i * 6 + 1, none⟩ = some (.int .i64 ib) ∧ W.cell? ⟨b, off + i * 6 + 2, none⟩ = some (.int .i64 inm) ∧ W.cell? ⟨b, off + i * 6 + 3, none⟩ = some (.bool ibo) ∧ W.cell? ⟨b, off + i * 6 + 4, none⟩ = some (.int .i64 ibl) ∧ W.cell? ⟨b, off + i * 6 + 5, none⟩ = some (.bool ico) ∧ W.cell? ⟨b, off + k * 6, none⟩ = some (.int .i64 ka) ∧ W.cell? ⟨b, off + k * 6 + 1, none⟩ = some (.int .i64 kb) ∧ W.cell? ⟨b, off + k * 6 + 2, none⟩ = some (.int .i64 knm) ∧ W.cell? ⟨b, off + k * 6 + 3, none⟩ = some (.bool kbo) ∧ W.cell? ⟨b, off + k * 6 + 4, none⟩ = some (.int .i64 kbl) ∧ W.cell? ⟨b, off + k * 6 + 5, none⟩ = some (.bool kco) ∧ Below wr.heap.size wr W) (first | exact HSo.out _ (by go_grown) | (go_split_ands; exact HSo.out _ (by go_grown))) (first
                | (go_at_call 18; clear M1; go_split_ands; refine (HLi.out _ (by go_grown)).mono ?_; rintro e w1 ⟨rfl, hbw1⟩; have hsw1 := hbw1.size)
                | (go_at_call 18; go_split_ands; refine (HLk.out _ (by go_grown)).mono ?_; rintro e w2 ⟨rfl, hbw2⟩; have hsw2 := hbw2.size)
                | (go_at_call 19; clear M2; go_split_ands; refine (HHk.out _ (by go_grown)).mono ?_; rintro e w3 ⟨rfl, hbw3⟩; have hsw3 := hbw3.size)
                | (go_at_call 19; go_split_ands; refine (HHi.out _ (by go_grown)).mono ?_; rintro e w4 ⟨rfl, hbw4⟩; have hsw4 := hbw4.size))
              all_goals
                go_wp2
                go_ret
                go_split_ands
                exact ⟨_, rfl, HR.out, HB.out.trans (Below.mono (by assumption) HB.out.size)⟩
            · have h2I : ¬ (q1 : Int) ≤ (p2 : Int) := by omega
              have HK2 : Hid (∀ k', k' < k + 1 → ¬ Hit L i k') := hid0 (fun k' hk' h => by
                by_cases e : k' = k
                · subst e; exact h2 (HH.out.1 h).2
                · exact HK.out k' (by omega) h)
              clear HH HK
              have M1 : Hid True := trivial
              have M2 : Hid True := trivial
              go_wp2
              go_region_held3 (fun W => W.cell? ⟨b, off + i * 6, none⟩ = some (.int .i64 ia) ∧ W.cell? ⟨b, off + i * 6 + 1, none⟩ = some (.int .i64 ib) ∧ W.cell? ⟨b, off + i * 6 + 2, none⟩ = some (.int .i64 inm) ∧ W.cell? ⟨b, off + i * 6 + 3, none⟩ = some (.bool ibo) ∧ W.cell? ⟨b, off + i * 6 + 4, none⟩ = some (.int .i64 ibl) ∧ W.cell? ⟨b, off + i * 6 + 5, none⟩ = some (.bool ico) ∧ W.cell? ⟨b, off + k * 6, none⟩ = some (.int .i64 ka) ∧ W.cell? ⟨b, off + k * 6 + 1, none⟩ = some (.int .i64 kb) ∧ W.cell? ⟨b, off + k * 6 + 2, none⟩ = some (.int .i64 knm) ∧ W.cell? ⟨b, off + k * 6 + 3, none⟩ = some (.bool kbo) ∧ W.cell? ⟨b, off + k * 6 + 4, none⟩ = some (.int .i64 kbl) ∧ W.cell? ⟨b, off + k * 6 + 5, none⟩ = some (.bool kco) ∧ Below wr.heap.size wr W) (first | exact HSo.out _ (by go_grown) | (go_split_ands; exact HSo.out _ (by go_grown))) (first
                | (go_at_call 18; clear M1; go_split_ands; refine (HLi.out _ (by go_grown)).mono ?_; rintro e w1 ⟨rfl, hbw1⟩; have hsw1 := hbw1.size)
                | (go_at_call 18; go_split_ands; refine (HLk.out _ (by go_grown)).mono ?_; rintro e w2 ⟨rfl, hbw2⟩; have hsw2 := hbw2.size)
                | (go_at_call 19; clear M2; go_split_ands; refine (HHk.out _ (by go_grown)).mono ?_; rintro e w3 ⟨rfl, hbw3⟩; have hsw3 := hbw3.size)
                | (go_at_call 19; go_split_ands; refine (HHi.out _ (by go_grown)).mono ?_; rintro e w4 ⟨rfl, hbw4⟩; have hsw4 := hbw4.size))
              all_goals
                go_wp2
                go_split_ands
                have HBn := hid0 (HB.out.trans (Below.mono (by assumption) HB.out.size))
                go_roundw
                case rel => exact ⟨k + 1, by omega, by go_num, HK2, HBn⟩
                case measure => simp [intOf]; omega
          · have h1I : ¬ (p1 : Int) ≤ (q2 : Int) := by omega
            have HK2 : Hid (∀ k', k' < k + 1 → ¬ Hit L i k') := hid0 (fun k' hk' h => by
              by_cases e : k' = k
              · subst e; exact h1 (HH.out.1 h).1
              · exact HK.out k' (by omega) h)
            clear HH HK
            have M1 : Hid True := trivial
            have M2 : Hid True := trivial
            go_wp2
            have hdc : decide ((p1 : Int) ≤ (q2 : Int)) = false := decide_eq_false (by omega)
            refine wp_region_noPanic ?_
            refine wp_region_held_drew (S := (fun W => W.cell? ⟨b, off + i * 6, none⟩ = some (.int .i64 ia) ∧ W.cell? ⟨b, off + i * 6 + 1, none⟩ = some (.int .i64 ib) ∧ W.cell? ⟨b, off + i * 6 + 2, none⟩ = some (.int .i64 inm) ∧ W.cell? ⟨b, off + i * 6 + 3, none⟩ = some (.bool ibo) ∧ W.cell? ⟨b, off + i * 6 + 4, none⟩ = some (.int .i64 ibl) ∧ W.cell? ⟨b, off + i * 6 + 5, none⟩ = some (.bool ico) ∧ W.cell? ⟨b, off + k * 6, none⟩ = some (.int .i64 ka) ∧ W.cell? ⟨b, off + k * 6 + 1, none⟩ = some (.int .i64 kb) ∧ W.cell? ⟨b, off + k * 6 + 2, none⟩ = some (.int .i64 knm) ∧ W.cell? ⟨b, off + k * 6 + 3, none⟩ = some (.bool kbo) ∧ W.cell? ⟨b, off + k * 6 + 4, none⟩ = some (.int .i64 kbl) ∧ W.cell? ⟨b, off + k * 6 + 5, none⟩ = some (.bool kco) ∧ Below wr.heap.size wr W)) (by kernel_rfl) ?_ (fun hHeld => ?_)
            · exact HSo.out _ (by go_grown)
            refine tkV (i := 0) (d := some 16) (v := ?_) rfl (by kernel_rfl) (by kernel_rfl) (by kernel_rfl) rfl (fun _ _ _ h => h) (by rfl) ?_ (by assumption) ?_
            rotate_left
            · (intro w hSw; (try dsimp only at hSw); (try simp only [List.getElem_toArray, List.getElem_cons_zero]); go_simp; try with_reducible rfl)
            simp only [Act.put, List.setIfInBounds_toArray, List.set_cons_zero, List.set_cons_succ]
            refine tkV (i := 1) (d := some 17) (v := ?_) rfl (by kernel_rfl) (by kernel_rfl) (by kernel_rfl) rfl (fun _ _ _ h => h) (by rfl) ?_ (by assumption) ?_
            rotate_left
            · (intro w hSw; (try dsimp only at hSw); (try simp only [List.getElem_toArray, List.getElem_cons_zero, List.getElem_cons_succ]); go_simp; try with_reducible rfl)
            simp only [Act.put, List.setIfInBounds_toArray, List.set_cons_zero, List.set_cons_succ]
            refine tkV (i := 2) (d := some 18) (v := ?_) rfl (by kernel_rfl) (by kernel_rfl) (by kernel_rfl) rfl (fun _ _ _ h => h) (by rfl) ?_ (by assumption) ?_
            rotate_left
            · (intro w hSw; (try dsimp only at hSw); (try simp only [List.getElem_toArray, List.getElem_cons_zero, List.getElem_cons_succ]); go_simp; try with_reducible rfl)
            simp only [Act.put, List.setIfInBounds_toArray, List.set_cons_zero, List.set_cons_succ]
            refine tkV (i := 3) (d := some 19) (v := ?_) rfl (by kernel_rfl) (by kernel_rfl) (by kernel_rfl) rfl (fun _ _ _ h => h) (by rfl) ?_ (by assumption) ?_
            rotate_left
            · (intro w hSw; (try dsimp only at hSw); (try simp only [List.getElem_toArray, List.getElem_cons_zero, List.getElem_cons_succ]); go_simp; try with_reducible rfl)
            simp only [Act.put, List.setIfInBounds_toArray, List.set_cons_zero, List.set_cons_succ]
            refine tkV (i := 5) (d := some 21) (v := ?_) rfl (by kernel_rfl) (by kernel_rfl) (by kernel_rfl) rfl (fun _ _ _ h => h) (by rfl) ?_ (by assumption) ?_
            rotate_left
            · (intro w hSw; (try dsimp only at hSw); (try simp only [List.getElem_toArray, List.getElem_cons_zero, List.getElem_cons_succ]); go_simp; try with_reducible rfl)
            simp only [Act.put, List.setIfInBounds_toArray, List.set_cons_zero, List.set_cons_succ]
            refine tkV (i := 6) (d := some 22) (v := ?_) rfl (by kernel_rfl) (by kernel_rfl) (by kernel_rfl) rfl (fun _ _ _ h => h) (by rfl) ?_ (by assumption) ?_
            rotate_left
            · (intro w hSw; (try dsimp only at hSw); (try simp only [List.getElem_toArray, List.getElem_cons_zero, List.getElem_cons_succ]); go_simp; try with_reducible rfl)
            simp only [Act.put, List.setIfInBounds_toArray, List.set_cons_zero, List.set_cons_succ]
            refine tkV (i := 7) (d := some 23) (v := ?_) rfl (by kernel_rfl) (by kernel_rfl) (by kernel_rfl) rfl (fun _ _ _ h => h) (by rfl) ?_ (by assumption) ?_
            rotate_left
            · (intro w hSw; (try dsimp only at hSw); (try simp only [List.getElem_toArray, List.getElem_cons_zero, List.getElem_cons_succ]); go_simp; try with_reducible rfl)
            simp only [Act.put, List.setIfInBounds_toArray, List.set_cons_zero, List.set_cons_succ]
            refine tkV (i := 8) (d := some 24) (v := ?_) rfl (by kernel_rfl) (by kernel_rfl) (by kernel_rfl) rfl (fun _ _ _ h => h) (by rfl) ?_ (by assumption) ?_
            rotate_left
            · (intro w hSw; (try dsimp only at hSw); (try simp only [List.getElem_toArray, List.getElem_cons_zero, List.getElem_cons_succ]); go_simp; try with_reducible rfl)
            simp only [Act.put, List.setIfInBounds_toArray, List.set_cons_zero, List.set_cons_succ]
            refine wpAnyH_ready (rs := [4]) (by kernel_rfl) (by simp) (AllReadyH.cons rfl (fun K hK => ?_) AllReadyH.nil)
            try simp only [List.getElem_toArray, List.getElem_cons_zero, List.getElem_cons_succ]
            go_simp
            go_split_ands
            refine (HLi.out _ (by go_grown)).mono ?_
            rintro e w1 ⟨rfl, hbw1⟩
            have hsw1 := hbw1.size
            go_wp2_with fail
            refine hK.out _ _ ?_ (fun hHeld => ?_)
            · exact HSo.out _ (by go_grown)
            clear hK K
            try simp only [Act.put, List.setIfInBounds_toArray, List.set_cons_zero, List.set_cons_succ]
            refine wpAnyH_ready (rs := [9]) (by kernel_rfl) (by simp) (AllReadyH.cons rfl (fun K hK => ?_) AllReadyH.nil)
            try simp only [List.getElem_toArray, List.getElem_cons_zero, List.getElem_cons_succ]
            go_simp
            go_split_ands
            refine (HHk.out _ (by go_grown)).mono ?_
            rintro e w3 ⟨rfl, hbw3⟩
            have hsw3 := hbw3.size
            go_wp2_with fail
            refine hK.out _ _ ?_ (fun hHeld => ?_)
            · exact HSo.out _ (by go_grown)
            clear hK K
            try simp only [Act.put, List.setIfInBounds_toArray, List.set_cons_zero, List.set_cons_succ]
            refine tkV (i := 10) (d := some 26) (v := ?_) rfl (by kernel_rfl) (by kernel_rfl) (by kernel_rfl) rfl (fun _ _ _ h => h) (by rfl) ?_ (by assumption) ?_
            rotate_left
            · (intro w hSw; (try dsimp only at hSw); (try simp only [List.getElem_toArray, List.getElem_cons_zero, List.getElem_cons_succ]); go_simp; try with_reducible rfl)
            simp only [Act.put, List.setIfInBounds_toArray, List.set_cons_zero, List.set_cons_succ]
            refine tkV (i := 11) (d := some 27) (v := ?_) rfl (by kernel_rfl) (by kernel_rfl) (by kernel_rfl) rfl (fun _ _ _ h => h) (by rfl) ?_ (by assumption) ?_
            rotate_left
            · (intro w hSw; (try dsimp only at hSw); (try simp only [List.getElem_toArray, List.getElem_cons_zero, List.getElem_cons_succ]); go_simp; try with_reducible rfl)
            simp only [Act.put, List.setIfInBounds_toArray, List.set_cons_zero, List.set_cons_succ]
            refine tkU (i := 12) (d := some 28) rfl (by kernel_rfl) (by kernel_rfl) (by kernel_rfl) rfl (fun _ _ _ h => h) (by rfl) (by assumption) ?_
            simp only [Act.put, List.setIfInBounds_toArray, List.set_cons_zero, List.set_cons_succ]
            refine tkU (i := 13) (d := some 29) rfl (by kernel_rfl) (by kernel_rfl) (by kernel_rfl) rfl (fun _ _ _ h => h) (by rfl) (by assumption) ?_
            simp only [Act.put, List.setIfInBounds_toArray, List.set_cons_zero, List.set_cons_succ]
            refine tkU (i := 14) (d := some 30) rfl (by kernel_rfl) (by kernel_rfl) (by kernel_rfl) rfl (fun _ _ _ h => h) (by rfl) (by assumption) ?_
            simp only [Act.put, List.setIfInBounds_toArray, List.set_cons_zero, List.set_cons_succ]
            refine tkU (i := 15) (d := some 31) rfl (by kernel_rfl) (by kernel_rfl) (by kernel_rfl) rfl (fun _ _ _ h => h) (by rfl) (by assumption) ?_
            simp only [Act.put, List.setIfInBounds_toArray, List.set_cons_zero, List.set_cons_succ]
            refine tkU (i := 16) (d := some 32) rfl (by kernel_rfl) (by kernel_rfl) (by kernel_rfl) rfl (fun _ _ _ h => h) (by rfl) (by assumption) ?_
            simp only [Act.put, List.setIfInBounds_toArray, List.set_cons_zero, List.set_cons_succ]
            refine tkU (i := 17) (d := some 33) rfl (by kernel_rfl) (by kernel_rfl) (by kernel_rfl) rfl (fun _ _ _ h => h) (by rfl) (by assumption) ?_
            simp only [Act.put, List.setIfInBounds_toArray, List.set_cons_zero, List.set_cons_succ]
            refine tkU (i := 18) (d := some 34) rfl (by kernel_rfl) (by kernel_rfl) (by kernel_rfl) rfl (fun _ _ _ h => h) (by rfl) (by assumption) ?_
            simp only [Act.put, List.setIfInBounds_toArray, List.set_cons_zero, List.set_cons_succ]
            refine tkU (i := 19) (d := some 35) rfl (by kernel_rfl) (by kernel_rfl) (by kernel_rfl) rfl (fun _ _ _ h => h) (by rfl) (by assumption) ?_
            simp only [Act.put, List.setIfInBounds_toArray, List.set_cons_zero, List.set_cons_succ]
            refine tkU (i := 20) (d := some 36) rfl (by kernel_rfl) (by kernel_rfl) (by kernel_rfl) rfl (fun _ _ _ h => h) (by rfl) (by assumption) ?_
            simp only [Act.put, List.setIfInBounds_toArray, List.set_cons_zero, List.set_cons_succ]
            refine tkU (i := 21) (d := some 37) rfl (by kernel_rfl) (by kernel_rfl) (by kernel_rfl) rfl (fun _ _ _ h => h) (by rfl) (by assumption) ?_
            simp only [Act.put, List.setIfInBounds_toArray, List.set_cons_zero, List.set_cons_succ]
            refine tkU (i := 22) (d := some 38) rfl (by kernel_rfl) (by kernel_rfl) (by kernel_rfl) rfl (fun _ _ _ h => h) (by rfl) (by assumption) ?_
            simp only [Act.put, List.setIfInBounds_toArray, List.set_cons_zero, List.set_cons_succ]
            refine tkV (i := 23) (d := some 39) (v := ?_) rfl (by kernel_rfl) (by kernel_rfl) (by kernel_rfl) rfl (fun _ _ _ h => h) (by rfl) ?_ (by assumption) ?_
            rotate_left
            · (intro w hSw; (try dsimp only at hSw); (try simp only [List.getElem_toArray, List.getElem_cons_zero, List.getElem_cons_succ]); go_simp; try with_reducible rfl)
            simp only [Act.put, List.setIfInBounds_toArray, List.set_cons_zero, List.set_cons_succ]
            refine wpAnyH_done (by kernel_rfl) ?_ _
            refine NoPanic.normal ?_
            all_goals
              go_wp2
              go_split_ands
              have HBn := hid0 (HB.out.trans (Below.mono (by assumption) HB.out.size))
              go_roundw
              case rel => exact ⟨k + 1, by omega, by go_num, HK2, HBn⟩
              case measure => simp [intOf]; omega
        · have hkI : ¬ (k : Int) < (i : Int) := by omega
          have HN2 : Hid (∀ j k, j < i + 1 → k < j → ¬ Hit L j k) := hid0 (fun j k' hj hk' => by
            by_cases e : j = i
            · subst e; exact HK.out k' (by omega)
            · exact HN.out j k' (by omega) hk')
          go_wp2
          go_roundw
          case rel => exact ⟨i + 1, by omega, by go_num, HN2, HB⟩
          case measure => simp [intOf]; omega
    · have hiI : ¬ (i : Int) < (L.length : Int) := by omega
      have HR : Hid (OvIs L (-1)) := hid0 (.inl ⟨rfl, fun j k hk h => by
        obtain ⟨h1, h2, h3⟩ := h
        exact HN.out j k (by omega) hk ⟨h1, h2, h3⟩⟩)
      clear HN HA
      go_wp2
      go_ret
      exact ⟨-1, rfl, HR.out, HB.out⟩
end Go.Proofs.YthdmhelgmejicaaGreatDoor
namespace Go.Proofs.YthdmhelgmejicaaGreatDoor
open Go.RowKit Go.Shelf
theorem hexN_acc (n : Nat) : ∀ (k acc : Nat), (hxK n k).foldl (fun m c => 16 * m + hxv c) acc = acc * 16 ^ k + n % 16 ^ k
  | 0, acc => by simp [hxK, Nat.mod_one]
  | k + 1, acc => by
    have hd : ∀ r, r < 16 → hxv (digL.getD r 0) = r := by decide
    rw [hxK, List.foldl_cons, hexN_acc n k, hd _ (Nat.mod_lt _ (by decide))]
    have h1 : n % 16 ^ (k + 1) = n / 16 ^ k % 16 * 16 ^ k + n % 16 ^ k := by
      rw [Nat.pow_succ, Nat.mod_mul, Nat.mul_comm, Nat.add_comm]
    rw [h1, Nat.pow_succ, Nat.add_mul, ← Nat.add_assoc]
    congr 2
    rw [Nat.mul_comm 16 acc, Nat.mul_assoc, Nat.mul_comm 16 (16 ^ k)]
theorem hxC_pow (n : Nat) (h : n ≤ 1114111) : n < 16 ^ hxC n ∧ 4 ≤ hxC n ∧ hxC n ≤ 6 := by
  unfold hxC
  split
  · exact ⟨by simpa using ‹n < 65536›, by omega, by omega⟩
  · split
    · exact ⟨by simpa using ‹n < 1048576›, by omega, by omega⟩
    · exact ⟨by show n < 16777216; omega, by omega, by omega⟩
theorem hexN_hxL (n : Nat) (h : n ≤ 1114111) : hexN (hxL n) = n := by
  have h1 := hexN_acc n (hxC n) 0
  unfold hexN hxL
  rw [h1, Nat.zero_mul, Nat.zero_add, Nat.mod_eq_of_lt (hxC_pow n h).1]
theorem hxK_hx (n : Nat) : ∀ (k : Nat), ∀ c ∈ hxK n k, isHx c = true ∧ isBl c = false ∧ c ≠ 10 ∧ c ≠ 35
  | 0, c, hc => by simp [hxK] at hc
  | k + 1, c, hc => by
    have hd : ∀ r, r < 16 → isHx (digL.getD r 0) = true ∧ isBl (digL.getD r 0) = false ∧ digL.getD r 0 ≠ 10 ∧ digL.getD r 0 ≠ 35 := by decide
    rcases List.mem_cons.1 hc with rfl | hc
    · exact hd _ (Nat.mod_lt _ (by decide))
    · exact hxK_hx n k c hc
theorem blk_bl (l : Li) : ∀ c ∈ l.blk, isBl c = true ∧ isHx c = false ∧ c ≠ 10 ∧ c ≠ 35 ∧ c ≠ 46 := fun c hc => by
  have h : c ∈ ([9, 32, 32, 9, 32] : By) := List.mem_of_mem_take hc
  have hd : ∀ c ∈ ([9, 32, 32, 9, 32] : By), isBl c = true ∧ isHx c = false ∧ c ≠ 10 ∧ c ≠ 35 ∧ c ≠ 46 := by decide
  exact hd c h
theorem nm_let (l : Li) : ∃ c : UInt8, l.nm = [c] ∧ isLt c = true ∧ isBl c = false ∧ c ≠ 10 ∧ c ≠ 35 ∧ c ≠ 13 := by
  have hd : ∀ r, r < 26 → isLt (UInt8.ofNat (97 + r)) = true ∧ isBl (UInt8.ofNat (97 + r)) = false ∧ UInt8.ofNat (97 + r) ≠ 10 ∧ UInt8.ofNat (97 + r) ≠ 35 ∧ UInt8.ofNat (97 + r) ≠ 13 := by decide
  exact ⟨_, rfl, hd _ (pickN_lt l.n 26 (by decide))⟩
theorem drop_all {p : UInt8 → Bool} : ∀ (a b : By), (∀ c ∈ a, p c = true) → (a ++ b).dropWhile p = b.dropWhile p
  | [], _, _ => rfl
  | c :: a, b, h => by
    rw [List.cons_append, List.dropWhile_cons, if_pos (h c (by simp))]
    exact drop_all a b (fun x hx => h x (by simp [hx]))
theorem take_all {p : UInt8 → Bool} : ∀ (a b : By), (∀ c ∈ a, p c = true) → (a ++ b).takeWhile p = a ++ b.takeWhile p
  | [], _, _ => rfl
  | c :: a, b, h => by
    rw [List.cons_append, List.takeWhile_cons, if_pos (h c (by simp)), take_all a b (fun x hx => h x (by simp [hx]))]
    rfl
theorem drop_head {p : UInt8 → Bool} (c : UInt8) (a : By) (h : p c = false) : (c :: a).dropWhile p = c :: a := by rw [List.dropWhile_cons, if_neg (by simp [h])]
theorem take_head {p : UInt8 → Bool} (c : UInt8) (a : By) (h : p c = false) : (c :: a).takeWhile p = [] := by rw [List.takeWhile_cons, if_neg (by simp [h])]
/-- Behind the points. -/
def Li.tail (l : Li) : By := l.blk ++ 59 :: (l.blk ++ l.nm)
def Li.core (l : Li) : By := l.pts ++ l.tail
theorem tx_core (l : Li) : l.tx = l.blk ++ l.core ++ l.blk ++ (if l.com then [35, 32, 120, 59, 0, 13, 32] else []) := by simp [Li.tx, Li.core, Li.tail]
theorem hxL_cons (n : Nat) (h : n ≤ 1114111) : ∃ c r, hxL n = c :: r ∧ isBl c = false := by
  have h4 := (hxC_pow n h).2.1
  have hl : (hxL n).length = hxC n := hxK_len n _
  cases hq : hxL n with
  | nil => rw [hq] at hl; simp at hl; omega
  | cons c r => exact ⟨c, r, rfl, (hxK_hx n (hxC n) c (by have : c ∈ hxL n := (by rw [hq]; simp); exact this)).2.1⟩
theorem core_ends (l : Li) : (∃ c r, l.core = c :: r ∧ isBl c = false) ∧ (∃ c r, l.core.reverse = c :: r ∧ isBl c = false) := by
  have hb := l.lo_le
  obtain ⟨c, r, h1, h2⟩ := hxL_cons l.lo (by omega)
  obtain ⟨d, hd, _, h3, _⟩ := nm_let l
  refine ⟨⟨c, _, by rw [Li.core, Li.pts, h1, List.cons_append, List.cons_append], h2⟩, ⟨d, _, by rw [Li.core, Li.tail, hd, List.reverse_append, List.reverse_append, List.reverse_cons, List.reverse_append]; rfl, h3⟩⟩
theorem core_plain (l : Li) : ∀ c ∈ l.core, c ≠ 10 ∧ c ≠ 35 := fun c hc => by
  obtain ⟨d, hd, _, _, h4, h5, _⟩ := nm_let l
  have hx : ∀ n, ∀ c ∈ hxL n, c ≠ 10 ∧ c ≠ 35 := fun n c hc => (hxK_hx n _ c hc).2.2
  simp only [Li.core, Li.pts, Li.tail, hd, List.mem_append, List.mem_cons, List.not_mem_nil, or_false] at hc
  rcases hc with (hc | hc) | hc | rfl | hc | rfl
  · exact hx _ c hc
  · split at hc
    · simp only [List.mem_append, List.mem_cons, List.not_mem_nil, or_false] at hc
      rcases hc with (rfl | rfl) | hc
      · decide
      · decide
      · exact hx _ c hc
    · simp at hc
  · exact ⟨(blk_bl l c hc).2.2.1, (blk_bl l c hc).2.2.2.1⟩
  · decide
  · exact ⟨(blk_bl l c hc).2.2.1, (blk_bl l c hc).2.2.2.1⟩
  · exact ⟨h4, h5⟩
theorem trim_core (l : Li) : trimB (l.blk ++ l.core ++ l.blk) = l.core := by
  obtain ⟨⟨c, r, h1, h2⟩, ⟨d, q, h3, h4⟩⟩ := core_ends l
  have hbl : ∀ c ∈ l.blk, isBl c = true := fun c hc => (blk_bl l c hc).1
  unfold trimB
  rw [List.append_assoc, drop_all _ _ hbl]
  have e1 : (l.core ++ l.blk).dropWhile isBl = l.core ++ l.blk := by rw [h1, List.cons_append]; exact drop_head c _ h2
  rw [e1, List.reverse_append, drop_all _ _ (fun c hc => hbl c (List.mem_reverse.1 hc)), h3, drop_head d _ h4, ← h3, List.reverse_reverse]
theorem bare_tx (l : Li) : bareOf l.tx = l.core := by
  have hp : ∀ c ∈ l.blk ++ l.core ++ l.blk, (c != 35) = true := fun c hc => by
    simp only [List.mem_append] at hc
    rcases hc with (hc | hc) | hc
    · simpa using (blk_bl l c hc).2.2.2.1
    · simpa using (core_plain l c hc).2
    · simpa using (blk_bl l c hc).2.2.2.1
  unfold bareOf
  rw [tx_core, take_all _ _ hp]
  have e : (if l.com then ([35, 32, 120, 59, 0, 13, 32] : By) else []).takeWhile (fun c => c != 35) = [] := by split <;> rfl
  rw [e, List.append_nil, trim_core]
theorem tail_head (l : Li) : ∃ c r, l.tail = c :: r ∧ isHx c = false ∧ c ≠ 46 := by
  unfold Li.tail
  cases hq : l.blk with
  | nil => exact ⟨59, _, rfl, by decide, by decide⟩
  | cons c r =>
    have h := blk_bl l c (by rw [hq]; simp)
    exact ⟨c, _, rfl, h.2.1, h.2.2.2.2⟩
theorem pt_hx (n : Nat) (h : n ≤ 1114111) (r : By) (hr : ∃ c q, r = c :: q ∧ isHx c = false) : ptOk (hxL n ++ r) = true ∧ ptVal (hxL n ++ r) = n ∧ (hxL n ++ r).drop (ptLen (hxL n ++ r)) = r := by
  obtain ⟨c, q, rfl, hc⟩ := hr
  have e : (hxL n ++ c :: q).takeWhile isHx = hxL n := by rw [take_all (hxL n) (c :: q) (fun c hc => (hxK_hx n (hxC n) c hc).1), take_head c q hc, List.append_nil]
  have hl : (hxL n).length = hxC n := hxK_len n _
  obtain ⟨_, h1, h2⟩ := hxC_pow n h
  refine ⟨?_, ?_, ?_⟩
  · simp only [ptOk, ptLen, e, hl, Bool.and_eq_true, decide_eq_true_eq]; omega
  · simp only [ptVal, e, hexN_hxL n h]
  · simp only [ptLen, e]; simp
theorem tail_said (l : Li) (a b : Nat) : tailL a b l.tail = some (a, b, l.nm) := by
  obtain ⟨c, hc, h1, h2, _⟩ := nm_let l
  have hbl : ∀ c ∈ l.blk, isBl c = true := fun c hc => (blk_bl l c hc).1
  unfold tailL Li.tail
  rw [drop_all _ _ hbl, drop_head 59 _ (by decide)]
  simp only [if_true]
  rw [drop_all _ _ hbl, hc, drop_head c [] h2, if_pos]
  have h3 : isNb c = true := by simp [isNb, h1]
  simp [isNm, h1, h3]
theorem said_core (l : Li) : saidL l.core = some (l.lo, l.hi, l.nm) := by
  have hb := l.lo_le
  obtain ⟨c, r, h1, h2, h3⟩ := tail_head l
  unfold saidL Li.core Li.pts
  by_cases hq : l.both = true
  · have e : hxL l.lo ++ (if l.both = true then [46, 46] ++ hxL l.hi else []) ++ l.tail = hxL l.lo ++ (46 :: 46 :: (hxL l.hi ++ l.tail)) := by rw [if_pos hq]; simp
    rw [e]
    obtain ⟨p1, p2, p3⟩ := pt_hx l.lo (by omega) (46 :: 46 :: (hxL l.hi ++ l.tail)) ⟨46, _, rfl, by decide⟩
    obtain ⟨q1, q2, q3⟩ := pt_hx l.hi (by omega) l.tail ⟨c, r, h1, h2⟩
    rw [if_pos p1]
    simp only [p3, p2]
    rw [if_pos (by rfl)]
    simp only [List.drop_succ_cons, List.drop_zero]
    rw [if_pos q1, q2, q3, tail_said]
  · have e : hxL l.lo ++ (if l.both = true then [46, 46] ++ hxL l.hi else []) ++ l.tail = hxL l.lo ++ l.tail := by rw [if_neg hq]; simp
    rw [e]
    obtain ⟨p1, p2, p3⟩ := pt_hx l.lo (by omega) l.tail ⟨c, r, h1, h2⟩
    rw [if_pos p1]
    simp only [p3, p2]
    rw [if_neg (by rw [h1]; cases r <;> simp [h3]), tail_said, Li.hi, if_neg hq]
theorem chk_line (l : Li) : chkNo l.lo l.hi l.nm = none := by
  have hb := l.lo_le
  obtain ⟨c, hc, _⟩ := nm_let l
  unfold chkNo
  rw [if_neg, if_neg (by omega)]
  rintro (h | h | h)
  · omega
  · omega
  · rw [hc] at h
    have := congrArg List.length h
    simp [otherL] at this
/-- All lines put together. -/
def textL (L : List Li) : By := L.flatMap fun l => l.tx ++ [10]
theorem tx_plain (l : Li) : ∀ c ∈ l.tx, c ≠ 10 := fun c hc => by
  rw [tx_core] at hc
  simp only [List.mem_append] at hc
  rcases hc with ((hc | hc) | hc) | hc
  · exact (blk_bl l c hc).2.2.1
  · exact (core_plain l c hc).1
  · exact (blk_bl l c hc).2.2.1
  · split at hc
    · have hd : ∀ c ∈ ([35, 32, 120, 59, 0, 13, 32] : By), c ≠ 10 := by decide
      exact hd c hc
    · simp at hc
theorem chop_tx (l : Li) : chopR l.tx = l.tx := by
  unfold chopR
  rw [if_neg]
  rw [tx_core]
  intro h
  split at h
  · rw [List.getLast?_append] at h
    simp at h
  · rw [List.append_nil] at h
    cases hq : l.blk.getLast? with
    | some c =>
      rw [List.getLast?_append, hq] at h
      simp only [Option.some_or, Option.some.injEq] at h
      have := (blk_bl l c (List.mem_of_getLast? hq)).1
      rw [h] at this
      exact absurd this (by decide)
    | none =>
      have hn : l.blk = [] := List.getLast?_eq_none_iff.1 hq
      rw [hn, List.append_nil, List.nil_append] at h
      obtain ⟨c, hc, _, _, _, _, h5⟩ := nm_let l
      rw [Li.core, Li.tail, hn, hc, List.getLast?_append] at h
      simp at h
      exact h5 h
theorem lines_all : ∀ (L : List Li), linesOf (textL L) = L.map Li.tx ++ [[]]
  | [] => rfl
  | l :: L => by
    have ih := lines_all L
    unfold linesOf at ih ⊢
    have e : textL (l :: L) = l.tx ++ 10 :: textL L := by simp [textL]
    rw [e, linesGo_cut _ _ _ (tx_plain l), List.nil_append, chop_tx, ih]
    rfl
theorem tx_len (l : Li) : l.tx.length ≤ 60 := by
  have hb := l.lo_le
  have h0 : l.blk.length ≤ 5 := by unfold Li.blk; rw [List.length_take]; simp; omega
  obtain ⟨c, hc, _⟩ := nm_let l
  have h1 : (hxL l.lo).length ≤ 6 := by rw [hxL, hxK_len]; exact (hxC_pow l.lo (by omega)).2.2
  have h2 : (hxL l.hi).length ≤ 6 := by rw [hxL, hxK_len]; exact (hxC_pow l.hi (by omega)).2.2
  unfold Li.tx Li.pts
  rw [hc]
  simp only [List.length_append, List.length_cons, List.length_nil]
  have h3 : (if l.both = true then ([46, 46] : By) ++ hxL l.hi else []).length ≤ 8 := by split <;> simp <;> omega
  have h4 : (if l.com = true then ([35, 32, 120, 59, 0, 13, 32] : By) else []).length ≤ 7 := by split <;> simp
  omega
theorem all_len : ∀ (L : List Li), (textL L).length ≤ 61 * L.length
  | [] => by simp [textL]
  | l :: L => by
    have ih := all_len L
    have h := tx_len l
    have e : textL (l :: L) = l.tx ++ 10 :: textL L := by simp [textL]
    rw [e, List.length_append, List.length_cons, List.length_cons]
    omega
end Go.Proofs.YthdmhelgmejicaaGreatDoor
namespace Go.Proofs.YthdmhelgmejicaaGreatDoor
open Go.RowKit Go.Shelf
theorem nodup_len {α : Type} [DecidableEq α] : ∀ (l m : List α), l.Nodup → (∀ x ∈ l, x ∈ m) → l.length ≤ m.length
  | [], _, _, _ => by simp
  | a :: l, m, hn, hs => by
    rw [List.nodup_cons] at hn
    have ha : a ∈ m := hs a (by simp)
    have ih := nodup_len l (m.erase a) hn.2 (fun x hx => by
      have hx2 := hs x (by simp [hx])
      have hne : x ≠ a := fun e => hn.1 (e ▸ hx)
      exact (List.mem_erase_of_ne hne).2 hx2)
    have h2 := List.length_erase_of_mem ha
    have h3 : 0 < m.length := List.length_pos_of_mem ha
    rw [List.length_cons]
    omega
def letB (j : Nat) : ByteArray := rd [UInt8.ofNat (97 + j)]
theorem nm_letB (l : Li) : ∃ j, j < 26 ∧ rd l.nm = letB j := ⟨pickN l.n 26, pickN_lt l.n 26 (by decide), rfl⟩
/-- What was read of some lines. -/
structure Run (Lp : List Li) (s : PS) : Prop where
  ok : s.Ok
  lets : ∀ x ∈ s.names, ∃ j, j < 26 ∧ x = letB j
  nodup : s.names.Nodup
  len : s.cl.length = Lp.length
  has : ∀ l ∈ Lp, ∃ t ∈ s.sp, t.1 = (l.lo : Int) ∧ t.2.1 = (l.hi : Int) ∧ ∃ k : Nat, t.2.2 = (k : Int) ∧ s.names[k]? = some (rd l.nm)
  src : ∀ t ∈ s.sp, ∃ l ∈ Lp, t.1 = (l.lo : Int) ∧ t.2.1 = (l.hi : Int)
theorem Run.few {Lp : List Li} {s : PS} (h : Run Lp s) : s.names.length ≤ 26 := by
  have := nodup_len s.names ((List.range 26).map letB) h.nodup (fun x hx => by
    obtain ⟨j, hj, rfl⟩ := h.lets x hx
    exact List.mem_map.2 ⟨j, List.mem_range.2 hj, rfl⟩)
  simpa using this
theorem Run.start : Run [] ⟨[], [], []⟩ :=
  ⟨⟨⟨fun t h => by simp at h, List.Pairwise.nil⟩, fun t => by simp, fun t h => by simp at h⟩, fun x h => by simp at h, List.nodup_nil, rfl, fun l h => by simp at h, fun t h => by simp at h⟩
def Cross (Lp : List Li) (l : Li) : Prop := ∃ l' ∈ Lp, l.lo ≤ l'.hi ∧ l'.lo ≤ l.hi
theorem core_ne (l : Li) : l.core ≠ [] := by
  obtain ⟨⟨c, r, h, _⟩, _⟩ := core_ends l
  rw [h]; simp
theorem idx_at (L : List ByteArray) (x : ByteArray) (h : ¬ Lib.idxOfS L x < 0) : ∃ k, k < L.length ∧ Lib.idxOfS L x = ((k : Nat) : Int) ∧ L[k]? = some x := by
  unfold Lib.idxOfS at h ⊢
  have key : ∀ (L : List ByteArray) (i : Nat), ¬ Lib.idxFromS L x i < 0 → ∃ k, k < L.length ∧ Lib.idxFromS L x i = ((i + k : Nat) : Int) ∧ L[k]? = some x := by
    intro L
    induction L with
    | nil => intro i h; simp [Lib.idxFromS] at h
    | cons z zs ih =>
      intro i h
      rw [Lib.idxFromS] at h ⊢
      by_cases e : z = x
      · rw [if_pos e]; exact ⟨0, by simp, rfl, by simp [e]⟩
      · rw [if_neg e] at h ⊢
        obtain ⟨k, hk, he, h3⟩ := ih (i + 1) h
        exact ⟨k + 1, by simp; omega, by rw [he]; omega, by simpa using h3⟩
  obtain ⟨k, hk, he, h3⟩ := key L 0 h
  exact ⟨k, hk, by rw [he]; simp, h3⟩
theorem idx_miss (L : List ByteArray) (x : ByteArray) (h : Lib.idxOfS L x < 0) : ¬ x ∈ L := by
  have key : ∀ (L : List ByteArray) (i : Nat), x ∈ L → ¬ Lib.idxFromS L x i < 0 := by
    intro L
    induction L with
    | nil => intro i h; simp at h
    | cons z zs ih =>
      intro i h
      rw [Lib.idxFromS]
      by_cases e : z = x
      · rw [if_pos e]; omega
      · rw [if_neg e]
        rcases List.mem_cons.1 h with rfl | h
        · exact absurd rfl e
        · exact ih (i + 1) h
  exact fun hm => key L 0 hm h
theorem Run.any {Lp : List Li} {s : PS} (h : Run Lp s) (l : Li) (j : Int) : s.sp.any (meets ((l.lo : Int), (l.hi : Int), j)) = true ↔ Cross Lp l := by
  rw [List.any_eq_true]
  constructor
  · rintro ⟨t, ht, hm⟩
    obtain ⟨l', hl, h1, h2⟩ := h.src t ht
    simp only [meets, Bool.and_eq_true, decide_eq_true_eq] at hm
    exact ⟨l', hl, by omega, by omega⟩
  · rintro ⟨l', hl, h1, h2⟩
    obtain ⟨t, ht, e1, e2, _⟩ := h.has l' hl
    exact ⟨t, ht, by simp only [meets, Bool.and_eq_true, decide_eq_true_eq]; omega⟩
theorem Run.step {Lp : List Li} {s : PS} (h : Run Lp s) (hl : Lp.length ≤ 200) (l : Li) : (Cross Lp l → lineStep s (bareOf l.tx) = .stop 4) ∧ (¬ Cross Lp l → ∃ s', lineStep s (bareOf l.tx) = .go s' ∧ Run (Lp ++ [l]) s') := by
  have hany := h.any l (atOf s.names (rd l.nm))
  have hfew := h.few
  have hlen := h.len
  have e : ∀ r, lineStep s (bareOf l.tx) = r ↔ (if s.sp.any (meets ((l.lo : Int), (l.hi : Int), atOf s.names (rd l.nm))) then LR.stop 4 else .go ⟨if Lib.idxOfS s.names (rd l.nm) < 0 then s.names ++ [rd l.nm] else s.names, s.cl ++ [((l.lo : Int), (l.hi : Int), atOf s.names (rd l.nm))], putS s.sp ((l.lo : Int), (l.hi : Int), atOf s.names (rd l.nm))⟩) = r := fun r => by
    unfold lineStep
    rw [bare_tx, if_neg (core_ne l), said_core]
    simp only [chk_line]
    rw [if_neg (by rintro (h | h) <;> omega)]
  refine ⟨fun hc => (e _).2 (by rw [if_pos (hany.2 hc)]), fun hc => ?_⟩
  have hno : ¬ s.sp.any (meets ((l.lo : Int), (l.hi : Int), atOf s.names (rd l.nm))) = true := fun q => hc (hany.1 q)
  refine ⟨_, (e _).2 (by rw [if_neg hno]), ?_⟩
  have hstep := (e _).2 (if_neg hno)
  have hok := h.ok.step hstep
  obtain ⟨j, hj, hjn⟩ := nm_letB l
  have hat : ∃ k : Nat, atOf s.names (rd l.nm) = (k : Int) ∧ (if Lib.idxOfS s.names (rd l.nm) < 0 then s.names ++ [rd l.nm] else s.names)[k]? = some (rd l.nm) := by
    unfold atOf
    by_cases q : Lib.idxOfS s.names (rd l.nm) < 0
    · rw [if_pos q, if_pos q]; exact ⟨s.names.length, rfl, by simp⟩
    · rw [if_neg q, if_neg q]
      obtain ⟨k, hk, h1, h2⟩ := idx_at _ _ q
      exact ⟨k, h1, h2⟩
  have hkeep : ∀ (k : Nat) (x : ByteArray), s.names[k]? = some x → (if Lib.idxOfS s.names (rd l.nm) < 0 then s.names ++ [rd l.nm] else s.names)[k]? = some x := fun k x hx => by
    split
    · rw [List.getElem?_append_left (List.getElem?_eq_some_iff.1 hx).1]; exact hx
    · exact hx
  refine ⟨hok, fun x hx => ?_, ?_, by simp [hlen], fun l' hl' => ?_, fun t ht => ?_⟩
  · simp only at hx
    split at hx
    · rcases List.mem_append.1 hx with hx | hx
      · exact h.lets x hx
      · exact ⟨j, hj, by rw [List.mem_singleton.1 hx, hjn]⟩
    · exact h.lets x hx
  · show (if Lib.idxOfS s.names (rd l.nm) < 0 then s.names ++ [rd l.nm] else s.names).Nodup
    split
    · rename_i q
      rw [List.nodup_append]
      refine ⟨h.nodup, by simp, fun a ha b hb => ?_⟩
      rw [List.mem_singleton] at hb
      subst hb
      exact fun e => idx_miss _ _ q (e ▸ ha)
    · exact h.nodup
  · obtain ⟨ka, hka, hkb⟩ := hat
    rcases List.mem_append.1 hl' with hl' | hl'
    · obtain ⟨t, ht, h1, h2, k, h3, h4⟩ := h.has l' hl'
      exact ⟨t, (putS_mem _ _ _).2 (.inr ht), h1, h2, k, h3, hkeep k _ h4⟩
    · rw [List.mem_singleton.1 hl']
      exact ⟨_, (putS_mem _ _ _).2 (.inl rfl), rfl, rfl, ka, hka, hkb⟩
  · rcases (putS_mem _ _ _).1 ht with rfl | ht
    · exact ⟨l, by simp, rfl, rfl⟩
    · obtain ⟨l', hl', h1, h2⟩ := h.src t ht
      exact ⟨l', by simp [hl'], h1, h2⟩
theorem hit_cross (Lp rest : List Li) (l : Li) : Cross Lp l ↔ ∃ k, k < Lp.length ∧ Hit (Lp ++ l :: rest) Lp.length k := by
  have hL : (Lp ++ l :: rest)[Lp.length]? = some l := by simp
  constructor
  · rintro ⟨l', hl, h1, h2⟩
    obtain ⟨k, hk, e⟩ := List.getElem_of_mem hl
    refine ⟨k, hk, ⟨by simp, by simp; omega, ?_⟩⟩
    rw [List.getElem_append_left hk, e]
    have e2 : (Lp ++ l :: rest)[Lp.length]'(by simp) = l := by simp
    rw [e2]
    exact ⟨h1, h2⟩
  · rintro ⟨k, hk, _, _, h⟩
    rw [List.getElem_append_left hk] at h
    have e2 : (Lp ++ l :: rest)[Lp.length]'(by simp) = l := by simp
    rw [e2] at h
    exact ⟨Lp[k], List.getElem_mem hk, h.1, h.2⟩
theorem bare_nil : bareOf [] = [] := rfl
theorem runs : ∀ (rest Lp : List Li) (s : PS) (r : Int), (Lp ++ rest).length ≤ 200 → Run Lp s → (∀ j k, j < Lp.length → k < j → ¬ Hit (Lp ++ rest) j k) → OvIs (Lp ++ rest) r →
    (r = -1 → ∃ s', linesRun s Lp.length (rest.map Li.tx ++ [[]]) = .ok s' ∧ Run (Lp ++ rest) s') ∧ (∀ i : Nat, r = (i : Int) → linesRun s Lp.length (rest.map Li.tx ++ [[]]) = .bad (i + 1) 4)
  | [], Lp, s, r, hl, h, hno, hov => by
    have e : linesRun s Lp.length (([] : List Li).map Li.tx ++ [[]]) = .ok s := by
      show linesRun s Lp.length [[]] = _
      rw [linesRun, bare_nil]
      simp [lineStep, linesRun]
    refine ⟨fun _ => ⟨s, e, by rw [List.append_nil]; exact h⟩, fun i hi => ?_⟩
    exfalso
    rcases hov with ⟨h1, _⟩ | ⟨i', k, h1, h2, h3, _⟩
    · omega
    · have hi' : i' < (Lp ++ []).length := by obtain ⟨hi', _⟩ := id h3; exact hi'
      exact hno i' k (by simpa using hi') h2 h3
  | l :: rest, Lp, s, r, hl, h, hno, hov => by
    have hl2 : Lp.length ≤ 200 := by simp at hl; omega
    obtain ⟨h1, h2⟩ := h.step hl2 l
    have hcr := hit_cross Lp rest l
    have e : linesRun s Lp.length ((l :: rest).map Li.tx ++ [[]]) = match lineStep s (bareOf l.tx) with | .go s' => linesRun s' (Lp.length + 1) (rest.map Li.tx ++ [[]]) | .stop i => .bad (Lp.length + 1) i := by rw [List.map_cons, List.cons_append, linesRun]; cases lineStep s (bareOf l.tx) <;> rfl
    by_cases hc : Cross Lp l
    · rw [h1 hc] at e
      obtain ⟨k, hk, hh⟩ := hcr.1 hc
      rcases hov with ⟨_, g2⟩ | ⟨i', k', g1, g2, g3, g4⟩
      · exact absurd hh (g2 _ _ hk)
      · have hi : i' = Lp.length := by
          rcases Nat.lt_trichotomy i' Lp.length with q | q | q
          · exact absurd g3 (hno i' k' q g2)
          · exact q
          · exact absurd hh (g4 _ _ q hk)
        refine ⟨fun q => by omega, fun i q => ?_⟩
        have : i = Lp.length := by omega
        rw [e, this]
    · obtain ⟨s', e2, hr⟩ := h2 hc
      rw [e2] at e
      simp only at e
      have ih := runs rest (Lp ++ [l]) s' r (by simpa using hl) hr (fun j k hj hk => by
        rw [List.append_assoc, List.singleton_append]
        by_cases q : j < Lp.length
        · exact hno j k q hk
        · have : j = Lp.length := by simp at hj; omega
          subst this
          exact fun hh => hc (hcr.2 ⟨k, hk, hh⟩)) (by rw [List.append_assoc, List.singleton_append]; exact hov)
      rw [List.append_assoc, List.singleton_append, List.length_append, List.length_singleton] at ih
      rw [e]
      exact ih
theorem parse_all (L : List Li) (hl : L.length ≤ 200) (r : Int) (hov : OvIs L r) : (r = -1 → ∃ s, parseL (textL L) = .ok s ∧ Run L s) ∧ (∀ i : Nat, r = (i : Int) → parseL (textL L) = .bad (i + 1) 4) := by
  have h := runs L [] ⟨[], [], []⟩ r (by simpa using hl) Run.start (fun j k hj => by simp at hj) (by simpa using hov)
  unfold parseL
  rw [lines_all]
  simpa using h
/-- Which name a line that covers a point has; the last one. -/
def wantL (L : List Li) (x : Int) : ByteArray := L.foldl (fun acc l => if (l.lo : Int) ≤ x ∧ x ≤ (l.hi : Int) then rd l.nm else acc) ⟨#[]⟩
theorem wantL_snoc (L : List Li) (l : Li) (x : Int) : wantL (L ++ [l]) x = if (l.lo : Int) ≤ x ∧ x ≤ (l.hi : Int) then rd l.nm else wantL L x := by simp [wantL]
theorem want_cases (x : Int) : ∀ (n : Nat) (L : List Li), L.length = n → (wantL L x = ⟨#[]⟩ ∧ ∀ l ∈ L, ¬ ((l.lo : Int) ≤ x ∧ x ≤ (l.hi : Int))) ∨ ∃ l ∈ L, ((l.lo : Int) ≤ x ∧ x ≤ (l.hi : Int)) ∧ wantL L x = rd l.nm
  | 0, L, h => by
    have : L = [] := List.length_eq_zero_iff.1 h
    subst this
    exact .inl ⟨rfl, fun l hl => by simp at hl⟩
  | n + 1, L, h => by
    rcases List.eq_nil_or_concat L with rfl | ⟨M, l, rfl⟩
    · simp at h
    · rw [List.concat_eq_append] at h ⊢
      rw [wantL_snoc]
      by_cases q : (l.lo : Int) ≤ x ∧ x ≤ (l.hi : Int)
      · rw [if_pos q]; exact .inr ⟨l, by simp, q, rfl⟩
      · rw [if_neg q]
        rcases want_cases x n M (by simpa using h) with ⟨h1, h2⟩ | ⟨l', h1, h2, h3⟩
        · refine .inl ⟨h1, fun l' hl' => ?_⟩
          rcases List.mem_append.1 hl' with hl' | hl'
          · exact h2 l' hl'
          · rw [List.mem_singleton.1 hl']; exact q
        · exact .inr ⟨l', by simp [h1], h2, h3⟩
theorem cls_none (names : List ByteArray) (x : Int) : ∀ (l : List Sp), (∀ j, ¬ ptsOf l j x) → clsL names l x = ⟨#[]⟩
  | [], _ => rfl
  | t :: r, h => by
    rw [clsL, if_neg (fun q => h t.2.2 ⟨t, by simp, rfl, q.1, q.2⟩)]
    exact cls_none names x r (fun j ⟨u, hu, q⟩ => h j ⟨u, by simp [hu], q⟩)
theorem cls_some (names : List ByteArray) (x : Int) (j : Int) : ∀ (l : List Sp), Rise l → ptsOf l j x → clsL names l x = names.getD j.toNat ⟨#[]⟩
  | [], _, ⟨t, ht, _⟩ => by simp at ht
  | t :: r, hR, ⟨u, hu, h1, h2, h3⟩ => by
    have hle := hR.le
    have hup := List.pairwise_cons.1 hR.up
    rcases List.mem_cons.1 hu with rfl | hu
    · rw [clsL, if_pos ⟨h2, h3⟩, h1]
    · have h4 := hup.1 u hu
      rw [clsL, if_neg (by omega)]
      exact cls_some names x j r ⟨fun t ht => hle t (by simp [ht]), hup.2⟩ ⟨u, hu, h1, h2, h3⟩
theorem cls_run {L : List Li} {s : PS} (h : Run L s) (x : Int) : clsL s.names (joinL s.sp) x = wantL L x := by
  obtain ⟨hg, hp, _⟩ := join_good s.sp h.ok.rise
  rcases want_cases x L.length L rfl with ⟨h1, h2⟩ | ⟨l, h1, h2, h3⟩
  · rw [h1]
    refine cls_none _ _ _ (fun j q => ?_)
    obtain ⟨t, ht, _, q1, q2⟩ := (hp j x).1 q
    obtain ⟨l, hl, e1, e2⟩ := h.src t ht
    exact h2 l hl (by omega)
  · rw [h3]
    obtain ⟨t, ht, e1, e2, k, e3, e4⟩ := h.has l h1
    rw [cls_some _ x t.2.2 _ hg.rise ((hp _ x).2 ⟨t, ht, rfl, by omega, by omega⟩), e3]
    simp [List.getD, e4]
end Go.Proofs.YthdmhelgmejicaaGreatDoor
namespace Go.Proofs.YthdmhelgmejicaaGreatDoor
open Go.RowKit Go.Shelf
theorem least_of {P : Nat → Prop} : ∀ n, P n → ∃ i, P i ∧ ∀ j, j < i → ¬ P j
  | n, h => by
    by_cases q : ∃ j, j < n ∧ P j
    · obtain ⟨j, hj, hp⟩ := q
      exact least_of j hp
    · exact ⟨n, h, fun j hj hp => q ⟨j, hj, hp⟩⟩
termination_by n => n
theorem ov_ex (L : List Li) : ∃ r, OvIs L r := by
  by_cases q : ∃ i k, k < i ∧ Hit L i k
  · obtain ⟨n, k, hk⟩ := q
    obtain ⟨i, ⟨k, h1, h2⟩, h3⟩ := least_of (P := fun i => ∃ k, k < i ∧ Hit L i k) n ⟨k, hk⟩
    exact ⟨(i : Int), .inr ⟨i, k, rfl, h1, h2, fun j k hj hk hh => h3 j hj ⟨k, hk, hh⟩⟩⟩
  · exact ⟨-1, .inl ⟨rfl, fun j k hk hh => q ⟨j, k, hk, hh⟩⟩⟩
theorem ov_uniq {L : List Li} {r r' : Int} (h : OvIs L r) (h' : OvIs L r') : r = r' := by
  rcases h with ⟨h1, h2⟩ | ⟨i, k, h1, h2, h3, h4⟩ <;> rcases h' with ⟨g1, g2⟩ | ⟨i', k', g1, g2, g3, g4⟩
  · rw [h1, g1]
  · exact absurd g3 (h2 _ _ g2)
  · exact absurd h3 (g2 _ _ h2)
  · rcases Nat.lt_trichotomy i i' with q | q | q
    · exact absurd h3 (g4 _ _ q h2)
    · rw [h1, g1, q]
    · exact absurd g3 (h4 _ _ q g2)
theorem textL_more (L : List Li) (k : Nat) (h : k < L.length) : rd (textL (L.take (k + 1))) = rd (textL (L.take k)) ++ rd L[k].tx ++ ⟨#[10]⟩ := by
  have e : L.take (k + 1) = L.take k ++ [L[k]] := by rw [List.take_add_one, List.getElem?_eq_getElem h]; rfl
  have e2 : (⟨#[10]⟩ : ByteArray) = rd [10] := rfl
  have e3 : textL (L.take k ++ [L[k]]) = textL (L.take k) ++ L[k].tx ++ [10] := by unfold textL; rw [List.flatMap_append, List.flatMap_singleton, List.append_assoc]
  rw [e, e2, rd_append, rd_append, e3]
theorem wantL_more (L : List Li) (k : Nat) (h : k < L.length) (x : Int) : wantL (L.take (k + 1)) x = if (L[k].lo : Int) ≤ x ∧ x ≤ (L[k].hi : Int) then rd L[k].nm else wantL (L.take k) x := by
  have e : L.take (k + 1) = L.take k ++ [L[k]] := by rw [List.take_add_one, List.getElem?_eq_getElem h]; rfl
  rw [e, wantL_snoc]
/-- The box of what was given. -/
structure Bx (w W : World) (v0 v1 : Value) (a : Option Addr) (L : List Li) : Prop where
  c0 : W.cell? ⟨w.heap.size, 0, none⟩ = some v0
  c1 : W.cell? ⟨w.heap.size, 1, none⟩ = some v1
  la : LA W a L
  bel : Below w.heap.size w W
theorem box_at (w : World) (v0 v1 : Value) (t : TypeId) (a : Option Addr) (L : List Li) (hL : LA w a L) : ∀ W, Below (w.alloc (.cells #[v0, v1] t)).heap.size (w.alloc (.cells #[v0, v1] t)) W → Bx w W v0 v1 a L := fun W hW => by
  have hk := (hW.block w.heap.size (by simp)).trans (heap_alloc_new w (.cells #[v0, v1] t))
  have hB := ((Below.refl w.heap.size w).alloc (Nat.le_refl _) (.cells #[v0, v1] t)).trans (hW.mono (by simp))
  exact ⟨by rw [cell_of_row _ _ _ _ _ _ hk]; rfl, by rw [cell_of_row _ _ _ _ _ _ hk]; rfl, hL.later hB, hB⟩
/-- Numbers in memory. -/
structure IA (w : World) (a : Option Addr) (ps : List Int) : Prop where
  at' : ∀ k (h : k < ps.length), ∃ b off, a = some ⟨b, off, none⟩ ∧ w.cell? ⟨b, off + k, none⟩ = some (.int .i64 ps[k])
theorem IA.later {w w' : World} {a : Option Addr} {ps : List Int} (h : IA w a ps) (hb : Below w.heap.size w w') : IA w' a ps := ⟨fun k hk => by
  obtain ⟨b, off, rfl, hc⟩ := h.at' k hk
  exact ⟨b, off, rfl, (hb.cell (p := ⟨b, off + k, none⟩) (World.block_lt_of_cell? w _ hc)).trans hc⟩⟩
def OwnI (w : World) (base : Nat) (v : Value) (ps : List Int) : Prop := w.ownsRow base 3 1 v ps.length (ps.map (Value.int .i64))
theorem infoInt : (Tryz.prog.info? 3).map (fun i => (i.zero, i.size, i.bytes)) = some (some (.int .i64 0), 1, 8) := by kernel_rfl
theorem OwnI.ia {w : World} {base : Nat} {v : Value} {ps : List Int} (h : OwnI w base v ps) : ∃ a cap, v = .slice a ps.length cap ∧ IA w a ps := by
  have h0 := h
  rcases h.2 with ⟨rfl, hn⟩ | ⟨g, cap, cur, rfl, _⟩
  · have : ps = [] := List.length_eq_zero_iff.1 hn
    subst this
    exact ⟨none, 0, rfl, ⟨fun k h => absurd h (Nat.not_lt_zero _)⟩⟩
  · refine ⟨_, cap, rfl, ⟨fun k hk => ⟨g, 0, rfl, ?_⟩⟩⟩
    rw [Nat.zero_add, World.ownsRow.cellAt h0 k (by omega)]
    simp [hk]
end Go.Proofs.YthdmhelgmejicaaGreatDoor
namespace Go.Proofs.YthdmhelgmejicaaGreatDoor
open Go.RowKit Go.Shelf
set_option maxRecDepth 10000 in
set_option maxHeartbeats 3200000 in
theorem says_badA (L : List Li) (a : Option Addr) (ca : Nat) (pt : Int) (A : Nat → Addr) (w : World) (i : Nat) (hn : L.length ≤ 200) (hL : LA w a L) (hE : Sents w A) (hT : TabAt 19 Lib.deBruijn64tab w) (hp : parseL (textL L) = .bad (i + 1) 4) (hov : OvIs L (i : Int)) :
    Calls Tryz.prog 6 #[.agg #[.slice a L.length ca, .int .i64 pt]] w fun e w' => e = .returned (.bool true) ∧ Below w.heap.size w w' := by
  obtain ⟨m, hm⟩ : ∃ m, L.length = m := ⟨_, rfl⟩
  rw [hm]
  have hlen : (textL L).length ≤ 12200 := by have := all_len L; omega
  have HTL : Hid (∀ k, (rd (textL (L.take k))).size ≤ 12200) := hid0 (fun k => by
    have h1 := all_len (L.take k)
    have h2 : (L.take k).length ≤ L.length := by simp; omega
    simp only [ByteArray.size, List.size_toArray]
    omega)
  have HKn := hid0 (fun W (h : Below w.heap.size w W) => known_any A W (hE.below h) (tab_later hT h))
  have HTx := hid0 (fun (l : Li) W => text_at l W)
  have hPa := fun W (h : Below w.heap.size w W) => parse_any (textL L) (by omega) A W (hE.below h)
  rw [hp] at hPa
  have HPa := hid0 hPa
  have HOv : Hid (∀ W, LA W a L → Calls Tryz.prog 16 #[.slice a m ca] W fun e w' => e = .returned (.int .i64 (i : Int)) ∧ Below W.heap.size W w') := hid0 (fun W h => by
    have h0 := overlap_at L a ca W (by omega) h
    rw [hm] at h0
    refine h0.mono ?_
    rintro e w' ⟨r, h1, h2, h3⟩
    exact ⟨by rw [h1, ov_uniq h2 hov], h3⟩)
  have HBX := hid0 (box_at w (.slice a m ca) (.int .i64 pt) 42 a L hL)
  have HB0 := hid0 ((Below.refl w.heap.size w).alloc (Nat.le_refl _) (.cells #[.slice a m ca, .int .i64 pt] 42))
  have HNu : Hid (∀ W, Below w.heap.size w W → Calls Tryz.prog 11 #[errAt A 4] W fun e w' => e = .returned (.int .i64 5) ∧ w' = W) := hid0 (fun W h => kitNum_at W A (hE.below h) 4 (by omega))
  have hi200 : i < 200 := by
    rcases hov with ⟨h1, _⟩ | ⟨i', k, h1, _, ⟨h2, _⟩, _⟩ <;> omega
  have hi0 : (0 : Int) ≤ (i : Int) := by omega
  clear hPa hp hE hT hL hov hlen
  have hnI : ¬ (200 : Int) < (m : Int) := by omega
  go_enter Tryz.func6, Tryz.ntmps6
  go_wp2_with (first
    | (go_at_call 12; refine (HKn.out _ HB0.out).mono ?_; rintro e w1 ⟨rfl, hb1⟩; have HB1 := hid0 hb1; have x0 := (HBX.out _ hb1).c0; clear hb1)
    | fail)
  clear x0
  generalize hW0 : w.alloc (.cells #[.slice a m ca, .int .i64 pt] 42) = W0 at HBX HB1 HB0
  have hz0 : W0.heap.size = w.heap.size + 1 := by rw [← hW0]; simp
  clear hW0
  go_loopw [5, 6] (fun v t wr => ∃ k : Nat, k ≤ L.length ∧ v = .string (rd (textL (L.take k))) ∧ t = .int .i64 (k : Int) ∧ Hid (Below W0.heap.size W0 wr)) (fun _ t _ => L.length - (intOf t).toNat)
  case atStart => exact ⟨0, Nat.zero_le _, rfl, rfl, HB1⟩
  case round =>
    clear HB1
    obtain ⟨k, hk, rfl, rfl, HB⟩ := hrel
    by_cases hlt : k < L.length
    · have hkI : (k : Int) < (m : Int) := by omega
      have hk0 : (0 : Int) ≤ (k : Int) := by omega
      obtain ⟨b, off, rfl, hbl, c0, c1, c2, c3, c4, c5⟩ := (HBX.out _ HB.out).la.at' k hlt
      have HTk := hid0 (fun W => HTx.out L[k] W)
      have HMo := hid0 (textL_more L k hlt)
      have z1 := HTL.out k
      have z2 : (rd L[k].tx).size ≤ 60 := by have := tx_len L[k]; simpa [ByteArray.size] using this
      generalize rd (textL (L.take k)) = X at *
      generalize rd L[k].tx = Y at *
      generalize L[k] = l at *
      unfold Li.val at HTk
      obtain ⟨la, lb, ln, lbo, lbl, lco⟩ := l
      simp only at c0 c1 c2 c3 c4 c5 HTk
      go_wp2_with (first
        | (go_at_call 15; refine (HTk.out _).mono ?_; rintro e w2 ⟨rfl, hb2⟩; have HB2 := hid0 (HB.out.trans (hb2.mono HB.out.size)); clear hb2)
        | fail)
      go_roundw
      case rel => exact ⟨k + 1, by omega, by rw [HMo.out], by go_num, HB2⟩
      case measure => simp [intOf]; omega
    · have hkI : ¬ (k : Int) < (m : Int) := by omega
      have hkL : L.take k = L := List.take_of_length_le (by omega)
      rw [hkL]
      have z1 := HTL.out L.length
      rw [List.take_of_length_le (Nat.le_refl _)] at z1
      generalize rd (textL L) = X at *
      clear HTx HTL HKn hkL hlt
      go_wp2_with (first
        | (go_at_call 8; refine (HPa.out _ (HBX.out _ HB.out).bel).mono ?_; rintro e w2 ⟨rfl, hb2⟩; have HB2 := hid0 (HB.out.trans (hb2.mono HB.out.size)); have HB3 := hid0 (HB2.out.alloc HB2.out.size (.cells #[.slice none 0 0, .slice none 0 0] 25)); clear hb2)
        | (go_at_call 16; refine (HOv.out _ (HBX.out _ HB3.out).la).mono ?_; rintro e w3 ⟨rfl, hb3⟩; have HB4 := hid0 (HB3.out.trans (hb3.mono HB3.out.size)); clear hb3)
        | (go_at_call 11; refine (HNu.out _ (HBX.out _ HB4.out).bel).mono ?_; rintro e w4 ⟨rfl, rfl⟩)
        | fail)
      go_ret
      exact ⟨by simp, (HBX.out _ HB4.out).bel⟩
set_option maxRecDepth 10000 in
set_option maxHeartbeats 3200000 in
theorem says_badB (L : List Li) (b0 o0 n : Nat) (ca : Nat) (pt : Int) (A : Nat → Addr) (w : World) (i : Nat) (hm : L.length = 200) (hn2 : 200 < n) (hc : n ≤ ca) (hL : LA w (some ⟨b0, o0, none⟩) L) (hE : Sents w A) (hT : TabAt 19 Lib.deBruijn64tab w) (hp : parseL (textL L) = .bad (i + 1) 4) (hov : OvIs L (i : Int)) :
    Calls Tryz.prog 6 #[.agg #[.slice (some ⟨b0, o0, none⟩) n ca, .int .i64 pt]] w fun e w' => e = .returned (.bool true) ∧ Below w.heap.size w w' := by
  have hlen : (textL L).length ≤ 12200 := by have := all_len L; omega
  have HTL : Hid (∀ k, (rd (textL (L.take k))).size ≤ 12200) := hid0 (fun k => by
    have h1 := all_len (L.take k)
    have h2 : (L.take k).length ≤ L.length := by simp; omega
    simp only [ByteArray.size, List.size_toArray]
    omega)
  have HKn := hid0 (fun W (h : Below w.heap.size w W) => known_any A W (hE.below h) (tab_later hT h))
  have HTx := hid0 (fun (l : Li) W => text_at l W)
  have hPa := fun W (h : Below w.heap.size w W) => parse_any (textL L) (by omega) A W (hE.below h)
  rw [hp] at hPa
  have HPa := hid0 hPa
  have HOv : Hid (∀ W, LA W (some ⟨b0, o0, none⟩) L → Calls Tryz.prog 16 #[.slice (some ⟨b0, o0, none⟩) 200 ca] W fun e w' => e = .returned (.int .i64 (i : Int)) ∧ Below W.heap.size W w') := hid0 (fun W h => by
    have h0 := overlap_at L (some ⟨b0, o0, none⟩) ca W (by omega) h
    rw [hm] at h0
    refine h0.mono ?_
    rintro e w' ⟨r, h1, h2, h3⟩
    exact ⟨by rw [h1, ov_uniq h2 hov], h3⟩)
  have HBX := hid0 (box_at w (.slice (some ⟨b0, o0, none⟩) n ca) (.int .i64 pt) 42 (some ⟨b0, o0, none⟩) L hL)
  have HB0 := hid0 ((Below.refl w.heap.size w).alloc (Nat.le_refl _) (.cells #[.slice (some ⟨b0, o0, none⟩) n ca, .int .i64 pt] 42))
  have HNu : Hid (∀ W, Below w.heap.size w W → Calls Tryz.prog 11 #[errAt A 4] W fun e w' => e = .returned (.int .i64 5) ∧ w' = W) := hid0 (fun W h => kitNum_at W A (hE.below h) 4 (by omega))
  have hi200 : i < 200 := by
    rcases hov with ⟨h1, _⟩ | ⟨i', k, h1, _, ⟨h2, _⟩, _⟩ <;> omega
  have hi0 : (0 : Int) ≤ (i : Int) := by omega
  clear hPa hp hE hT hL hov hlen
  have hnI : (200 : Int) < (n : Int) := by omega
  have hcI : (200 : Int) ≤ (ca : Int) := by omega
  go_enter Tryz.func6, Tryz.ntmps6
  go_wp2_with (first
    | (go_at_call 12; refine (HKn.out _ HB0.out).mono ?_; rintro e w1 ⟨rfl, hb1⟩; have HB1 := hid0 hb1; have x0 := (HBX.out _ hb1).c0; clear hb1)
    | fail)
  clear x0
  generalize hW0 : w.alloc (.cells #[.slice (some ⟨b0, o0, none⟩) n ca, .int .i64 pt] 42) = W0 at HBX HB1 HB0
  have hz0 : W0.heap.size = w.heap.size + 1 := by rw [← hW0]; simp
  clear hW0
  go_loopw [5, 6] (fun v t wr => ∃ k : Nat, k ≤ L.length ∧ v = .string (rd (textL (L.take k))) ∧ t = .int .i64 (k : Int) ∧ Hid (Below W0.heap.size W0 wr)) (fun _ t _ => L.length - (intOf t).toNat)
  case atStart => exact ⟨0, Nat.zero_le _, rfl, rfl, HB1⟩
  case round =>
    clear HB1
    obtain ⟨k, hk, rfl, rfl, HB⟩ := hrel
    by_cases hlt : k < L.length
    · have hkI : (k : Int) < (200 : Int) := by omega
      have hk0 : (0 : Int) ≤ (k : Int) := by omega
      obtain ⟨b, off, e0, hbl, c0, c1, c2, c3, c4, c5⟩ := (HBX.out _ HB.out).la.at' k hlt
      simp only [Option.some.injEq, Addr.mk.injEq, and_true] at e0
      obtain ⟨rfl, rfl⟩ := e0
      have HTk := hid0 (fun W => HTx.out L[k] W)
      have HMo := hid0 (textL_more L k hlt)
      have z1 := HTL.out k
      have z2 : (rd L[k].tx).size ≤ 60 := by have := tx_len L[k]; simpa [ByteArray.size] using this
      generalize rd (textL (L.take k)) = X at *
      generalize rd L[k].tx = Y at *
      generalize L[k] = l at *
      unfold Li.val at HTk
      obtain ⟨la, lb, ln, lbo, lbl, lco⟩ := l
      simp only at c0 c1 c2 c3 c4 c5 HTk
      go_wp2_with (first
        | (go_at_call 15; refine (HTk.out _).mono ?_; rintro e w2 ⟨rfl, hb2⟩; have HB2 := hid0 (HB.out.trans (hb2.mono HB.out.size)); clear hb2)
        | fail)
      go_roundw
      case rel => exact ⟨k + 1, by omega, by rw [HMo.out], by go_num, HB2⟩
      case measure => simp [intOf]; omega
    · have hkI : ¬ (k : Int) < (200 : Int) := by omega
      have hkL : L.take k = L := List.take_of_length_le (by omega)
      rw [hkL]
      have z1 := HTL.out L.length
      rw [List.take_of_length_le (Nat.le_refl _)] at z1
      generalize rd (textL L) = X at *
      clear HTx HTL HKn hkL hlt
      go_wp2_with (first
        | (go_at_call 8; refine (HPa.out _ (HBX.out _ HB.out).bel).mono ?_; rintro e w2 ⟨rfl, hb2⟩; have HB2 := hid0 (HB.out.trans (hb2.mono HB.out.size)); have HB3 := hid0 (HB2.out.alloc HB2.out.size (.cells #[.slice none 0 0, .slice none 0 0] 25)); clear hb2)
        | (go_at_call 16; refine (HOv.out _ (HBX.out _ HB3.out).la).mono ?_; rintro e w3 ⟨rfl, hb3⟩; have HB4 := hid0 (HB3.out.trans (hb3.mono HB3.out.size)); clear hb3)
        | (go_at_call 11; refine (HNu.out _ (HBX.out _ HB4.out).bel).mono ?_; rintro e w4 ⟨rfl, rfl⟩)
        | fail)
      go_ret
      exact ⟨by simp, (HBX.out _ HB4.out).bel⟩
end Go.Proofs.YthdmhelgmejicaaGreatDoor
