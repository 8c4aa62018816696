/-
  The walks of utf8.RuneCountInString, units.all and its function value.
-/
import Derived.Test.YtlmbbohhdgeedaaDoorUListW
import Derived.RangeFuncNested
import Derived.RangeFuncBound
import Derived.RangeFuncCalls
import Derived.RangeFuncLeaves
import Derived.RangeFuncBox
import Derived.Shelf.Abstract
import Derived.OwnWalkIn
import Derived.TacticsInMore
import Derived.LoopNIn
import Derived.LoopIn
import Derived.Lib.RuneCount
import Derived.Laws.RangeString
import Derived.Laws.RangeAny
namespace Go.Proofs.YtlmbbohhdgeedaaDoor
open Go.RowKit Go.Shelf
attribute [local go_sem] Oper.semAt_some
set_option maxRecDepth 100000 in
set_option maxHeartbeats 1000000 in
theorem runeCount_any (s : ByteArray) (w : World) (hs : s.size < 9223372036854775807) :
    Calls Tryd.prog 23 #[.string s] w fun e w' => ∃ c : Nat, c ≤ s.size ∧ e = .returned (.int .i64 (c : Int)) ∧ Below w.heap.size w w' := by
  go_enter Tryd.func23, Tryd.ntmps23
  go_wp2
  go_loopw [2] (fun n w' => ∃ (pos b acc : Nat), w' = w.iter s pos ∧ n = .int .i64 acc ∧ acc + Lib.runeCountFrom s b pos = Lib.runeCount s ∧ s.size ≤ pos + b ∧ acc ≤ pos) (fun _ w' => s.size - w'.iterPos w.heap.size)
  case atStart => exact ⟨0, s.size, 0, rfl, rfl, by simp [Lib.runeCount], by omega, Nat.le_refl _⟩
  case round =>
    obtain ⟨pos, b, acc, rfl, rfl, hc, hb, ha⟩ := hrel
    by_cases hp : pos < s.size
    · have hnx : ∀ ty, (Instr.next (.pointer (some ⟨w.heap.size, 0, none⟩)) true ty).run Tryd.prog (w.iter s pos) = _ := fun ty => run_next_any w s pos ty hp
      have hwd := Lib.decode_width_pos s pos hp
      go_wp2
      go_roundw
      case rel =>
        cases b with
        | zero => omega
        | succ b =>
          refine ⟨pos + (Utf8.decode s pos).2, b, acc + 1, rfl, by go_num, ?_, by omega, by omega⟩
          rw [← hc]
          simp [Lib.runeCountFrom, hp]
          omega
      case measure =>
        simp
        omega
    · have hnx : ∀ ty, (Instr.next (.pointer (some ⟨w.heap.size, 0, none⟩)) true ty).run Tryd.prog (w.iter s pos) = _ := fun ty => run_next_end w s pos ty hp
      go_wp2
      go_ret
      have hle := Lib.runeCount_le s
      exact ⟨acc, by omega, rfl, (Below.refl _ _).alloc (Nat.le_refl _) _⟩
set_option maxRecDepth 100000 in
set_option maxHeartbeats 1000000 in
theorem all_in (n : Nat) (s : ByteArray) (w : World) :
    CallsIn Fence.wide n Tryd.prog 24 #[.string s] w fun e w' => e = .returned (.func (.func 44) #[] #[.pointer (some ⟨w.heap.size, 0, none⟩)]) ∧ w' = w.alloc (.cells #[.string s] 9) := by
  refine callsIn_of_wp Tryd.func24 rfl trivial ?_ rfl
  simp only [Tryd.ntmps24, List.size_toArray, List.length_cons, List.length_nil, Nat.reduceAdd, Nat.reduceSub, Array.replicate_succ, Array.replicate_zero, List.push_toArray, List.append_toArray, List.nil_append, List.cons_append]
  gi_wp2
  go_ret
  exact ⟨rfl, rfl⟩
/-- The block to which the slice in a box points. -/
def rowIn (bF : Nat) (W : World) : Option Nat := match W.heap[bF]? with
  | some (.cells cs _ _) => (cs[0]?).bind Value.ownBlock
  | _ => none
def InR (bF : Nat) (W : World) : Prop := ∀ g, rowIn bF W = some g → g < W.heap.size
/-- What a round keeps: all cells but the box and the row to which it points. -/
structure KeepsBut (bF : Nat) (W W' : World) : Prop where
  size : W.heap.size ≤ W'.heap.size
  row : rowIn bF W' = rowIn bF W ∨ ∀ g, rowIn bF W' = some g → W.heap.size ≤ g
  inR : InR bF W → InR bF W'
  kept : ∀ i c t z, W.heap[i]? = some (.cells c t z) → i ≠ bF → some i ≠ rowIn bF W → W'.heap[i]? = some (.cells c t z)
theorem KeepsBut.trans {bF : Nat} {A B C : World} (h1 : KeepsBut bF A B) (h2 : KeepsBut bF B C) : KeepsBut bF A C where
  size := Nat.le_trans h1.size h2.size
  row := by
    rcases h2.row with h | h
    · rcases h1.row with h' | h'
      · exact .inl (h.trans h')
      · exact .inr (fun g hg => h' g (h ▸ hg))
    · exact .inr (fun g hg => Nat.le_trans h1.size (h g hg))
  inR := fun h => h2.inR (h1.inR h)
  kept := fun i c t z hi hn hr => h2.kept i c t z (h1.kept i c t z hi hn hr) hn (by
    have hlt := (Array.getElem?_eq_some_iff.1 hi).1
    rcases h1.row with h | h
    · rw [h]; exact hr
    · intro e
      have := h i e.symm
      omega)
theorem rowIn_same {bF : Nat} {W W' : World} (h : W'.heap[bF]? = W.heap[bF]?) : rowIn bF W' = rowIn bF W := by rw [rowIn, rowIn, h]
theorem KeepsBut.putObj {bF n : Nat} (hF : bF < n) (W : World) (l : Nat) (o o' : Obj) (hl : n ≤ l) (ho : W.heap[l]? = some o) (hc : o.isCells = false) : KeepsBut bF W (W.putObj l o') := by
  have hrow : rowIn bF (W.putObj l o') = rowIn bF W := rowIn_same (World.putObj_heap_other (by omega))
  refine ⟨by simp, .inl hrow, fun h g hg => ?_, fun i c t z hi _ _ => ?_⟩
  · have := h g (hrow ▸ hg)
    simpa using this
  · rw [World.putObj_heap_other (fun e => by subst e; rw [ho] at hi; simp at hi; subst hi; simp [Obj.isCells] at hc)]
    exact hi
theorem SeqAt.of_block {W W' : World} (h : SeqAt W) (hb : W'.heap[11]? = W.heap[11]?) : SeqAt W' := fun i hi k hk => (World.cell?_of_block (a := ⟨11, _, none⟩) hb).trans (h i hi k hk)
theorem SeqAt.block {W : World} (h : SeqAt W) : ∃ c t z, W.heap[11]? = some (.cells c t z) := by
  have h1 := (h.row 0 (by omega)).1
  unfold World.cell? at h1
  split at h1
  · rename_i c t z he
    exact ⟨c, t, z, he⟩
  · simp at h1
theorem grownBy_of_below {W W' : World} (h : Below W.heap.size W W') : W.grownBy W' none := ⟨h.os, h.tape, h.output, h.size, fun i hi _ => h.block i hi⟩
set_option maxRecDepth 100000 in
set_option maxHeartbeats 2000000 in
theorem all1_in (n : Nat) (hn : 1 ≤ n) (l Bn bF B : Nat) (s : ByteArray) (hs : s.size ≤ 4194400) (J Jx : List (Int × Nat × Nat) → World → Prop) (hJ : AbidesFrom B J)
    (hY : ∀ pre x W, J pre W → pre.length < (unitsOf s.data.toList).length → YieldAt Fence.wide (n - 1) Tryd.prog l #[unitVal x.1 x.2.1 x.2.2] W fun e W' =>
      (e = .returned (.bool true) ∧ J (pre ++ [x]) W' ∧ KeepsBut bF W W') ∨ (e = .returned (.bool false) ∧ Jx (pre ++ [x]) W'))
    (W : World) (hBn : W.heap[Bn]? = some (.cells #[.string s] 9 (0, 0))) (hT : SeqAt W) (hF : bF < W.heap.size) (hBF : Bn ≠ bF) (hgF : 11 ≠ bF) (hIn : InR bF W) (hr1 : rowIn bF W ≠ some Bn) (hr2 : rowIn bF W ≠ some 11) (h0 : J [] W) :
    CallsIn Fence.wide n Tryd.prog 44 #[.func (.yield l) #[] #[], .pointer (some ⟨Bn, 0, none⟩)] W fun e W' => (∃ v, e = .returned v) ∧
      ((∃ ys, ys = unitsOf s.data.toList ∧ J ys W') ∨ (∃ pre, pre <+: unitsOf s.data.toList ∧ Jx pre W')) := by
  refine callsIn_of_wp Tryd.func44 rfl trivial ?_ rfl
  simp only [Tryd.ntmps44, List.size_toArray, List.length_cons, List.length_nil, Nat.reduceAdd, Nat.reduceSub, Array.replicate_succ, Array.replicate_zero, List.push_toArray, List.append_toArray, List.nil_append, List.cons_append]
  gi_wp2
  have hlen : s.data.toList.length = s.size := bsize s
  have HYd := hid hY
  have HJd := hid hJ
  clear hY hJ
  gi_loopw [3] (fun i wr => ∃ (k : Nat) (pre : List (Int × Nat × Nat)), k ≤ s.size ∧ i = .int .i64 (k : Int) ∧ unitsOf s.data.toList = pre ++ unitsAt s.data.toList k ∧ J pre wr ∧
      wr.heap[Bn]? = some (.cells #[.string s] 9 (0, 0)) ∧ SeqAt wr ∧ bF < wr.heap.size ∧ InR bF wr ∧ rowIn bF wr ≠ some Bn ∧ rowIn bF wr ≠ some 11)
    (fun i _ => s.size - (intOf i).toNat)
  case atStart => exact ⟨0, [], Nat.zero_le _, rfl, rfl, h0, hBn, hT, hF, hIn, hr1, hr2⟩
  case round =>
    clear hBn hT hF hIn hr1 hr2 h0
    obtain ⟨k, pre, hk, rfl, hpre, hJs, hBn, hT, hF, hIn, hr1, hr2⟩ := hrel
    have hcell : wr.cell? ⟨Bn, 0, none⟩ = some (.string s) := by rw [cell_of_row wr Bn 0 _ _ _ hBn]; rfl
    have HPre := hid hpre
    have HJs := hid hJs
    have HBn := hid hBn
    have HT := hid hT
    have HIn := hid hIn
    have HR1 := hid hr1
    have HR2 := hid hr2
    clear hpre hJs hBn hT hIn hr1 hr2
    by_cases hlt : k < s.size
    · have hl := drop_cons s k hlt
      have hsz1 := uni_size s[k] (s.data.toList.drop (k + 1))
      have hbd := uni_bound s[k] (s.data.toList.drop (k + 1))
      rw [← hl] at hsz1 hbd
      have hll : (s.data.toList.drop (k + 1)).length = s.size - (k + 1) := by rw [List.length_drop, hlen]
      rw [hll] at hsz1
      have HU : Hid (unitsAt s.data.toList k = ((uniOf (s.data.toList.drop k)).1, k, k + (uniOf (s.data.toList.drop k)).2) :: unitsAt s.data.toList (k + (uniOf (s.data.toList.drop k)).2)) := unitsAt_step _ _ (by omega)
      have HC := hid (unitAt_any s k hlt (by omega) wr HT.out)
      clear hl hll hlen
      generalize (uniOf (s.data.toList.drop k)).1 = p at *
      generalize (uniOf (s.data.toList.drop k)).2 = m at *
      have hpl : pre.length < (unitsOf s.data.toList).length := by rw [HPre.out, HU.out]; simp
      have HPl := hid hpl
      clear hpl
      gi_wp2_with (refine ⟨trivial, ?_⟩; gi_at_call 45; refine (callsIn_wide.2 HC.out).mono ?_; rintro e w2 ⟨rfl, hb⟩; simp only [unitVal]; have hw3 : Below wr.heap.size wr (w2.alloc (.cells #[.int .i64 p, .int .i64 (k : Int), .int .i64 ((k : Int) + (m : Int))] 28)) := (hb.alloc hb.size _); obtain ⟨fn, tmps, assign, body, hy, hR⟩ := HYd.out pre (p, k, k + m) (w2.alloc (.cells #[.int .i64 p, .int .i64 (k : Int), .int .i64 ((k : Int) + (m : Int))] 28)) (HJd.out _ _ _ none HJs.out (grownBy_of_below hw3) (fun r e => by cases e)) HPl.out; dsimp only [unitVal] at hy; simp only [Int.natCast_add] at hy; have HRd := hid hR; clear hR)
      have hu : (w2.alloc (.cells #[.int .i64 p, .int .i64 (k : Int), .int .i64 ((k : Int) + (m : Int))] 28)).heap[w2.heap.size]? = some (.cells #[.int .i64 p, .int .i64 (k : Int), .int .i64 ((k : Int) + (m : Int))] 28 (0, 0)) := heap_alloc_new _ _
      have HU3 := hid hu
      have hrow : rowIn bF (w2.alloc (.cells #[.int .i64 p, .int .i64 (k : Int), .int .i64 ((k : Int) + (m : Int))] 28)) = rowIn bF wr := rowIn_same (hw3.block bF hF)
      have HRow := hid hrow
      have HW3 := hid hw3
      have hin : InR bF (w2.alloc (.cells #[.int .i64 p, .int .i64 (k : Int), .int .i64 ((k : Int) + (m : Int))] 28)) := fun g hg => Nat.lt_of_lt_of_le (HIn.out g (hrow ▸ hg)) hw3.size
      have HIn3 := hid hin
      have hsz2 := hb.size
      clear hu hrow hw3 hin hy hb HC
      refine HRd.out.mono ?_
      rintro e W3 (⟨rfl, hJ3, hk3⟩ | ⟨rfl, hJx3⟩)
      · have hq3 : W3.heap[w2.heap.size]? = _ := hk3.kept w2.heap.size _ _ _ HU3.out (by omega) (by rw [HRow.out]; intro e; have := HIn.out _ e.symm; omega)
        obtain ⟨⟨_, _, c2⟩, _⟩ := row3 hq3
        have hbn3 : W3.heap[Bn]? = _ := hk3.kept Bn _ _ _ ((HW3.out.block Bn (Array.getElem?_eq_some_iff.1 HBn.out).1).trans HBn.out) hBF (by rw [HRow.out]; exact fun e => HR1.out e.symm)
        obtain ⟨ct, tt, zt, htt⟩ := HT.out.block
        have htt3 : W3.heap[11]? = _ := hk3.kept _ _ _ _ ((HW3.out.block _ HT.out.pos).trans htt) hgF (by rw [HRow.out]; exact fun e => HR2.out e.symm)
        have HT3 := hid (HT.out.of_block (W' := W3) (htt3.trans htt.symm))
        have HBn3 := hid hbn3
        have HI3 := hid (hk3.inR HIn3.out)
        have hs3 : wr.heap.size ≤ W3.heap.size := Nat.le_trans HW3.out.size hk3.size
        have hrow3 := hk3.row
        rw [HRow.out] at hrow3
        have HRW : Hid (rowIn bF W3 ≠ some Bn ∧ rowIn bF W3 ≠ some 11) := by
          have hb1 := (Array.getElem?_eq_some_iff.1 HBn.out).1
          have hb2 := HT.out.pos
          rcases hrow3 with h | h
          · rw [h]; exact ⟨HR1.out, HR2.out⟩
          · exact ⟨fun e => by have := h _ e; have := HW3.out.size; omega, fun e => by have := h _ e; have := HW3.out.size; omega⟩
        have HJ3 := hid hJ3
        clear hq3 hbn3 htt htt3 hrow3 hJ3 hk3
        gi_wp2
        go_roundw
        case rel => exact ⟨k + m, pre ++ [(p, k, k + m)], by omega, by go_num, by rw [HPre.out, HU.out]; simp, HJ3.out, HBn3.out, HT3.out, by omega, HI3.out, HRW.out.1, HRW.out.2⟩
        case measure => simp [intOf]; omega
      · gi_wp2
        refine bodyPost_ret (results_none rfl _ _ _) rfl ?_
        exact ⟨⟨_, rfl⟩, .inr ⟨pre ++ [(p, k, k + m)], ⟨unitsAt s.data.toList (k + m), by rw [HPre.out, HU.out]; simp⟩, hJx3⟩⟩
    · gi_wp2
      go_end0
      have hkk : unitsAt s.data.toList k = [] := unitsAt_end _ _ (by omega)
      exact ⟨⟨_, rfl⟩, .inl ⟨pre, by rw [HPre.out, hkk, List.append_nil], HJs.out⟩⟩
end Go.Proofs.YtlmbbohhdgeedaaDoor
