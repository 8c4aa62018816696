/-
  The walk of Table.fill.
-/
import Derived.Test.YtpimameogmkpcaaDoorPbNbW
import Derived.Laws.StructEq
import Derived.Carry
namespace Go.Proofs.YtpimameogmkpcaaDoor
open Go.RowKit Go.Maps Go.ChangeShapes
theorem eq70 {b c : List Int} (hb : IsB b) (hc : IsB c) (w : World) : (Op.equalIn 10000 70 (.agg (b.map (Value.int .u8)).toArray) (.agg (c.map (Value.int .u8)).toArray)).run Tryd.prog w = .ok (decide (b = c)) w := by
  obtain ⟨r, h1, h2⟩ := run_equal_deep (P := Tryd.prog) w (m := 5) (by decide) (k := 70) (by kernel_rfl) (by kernel_rfl) (key_of hb) (key_of hc)
  have h3 : r = decide (b = c) := by
    rw [Bool.eq_iff_iff, h2, decide_eq_true_iff]
    exact ⟨fun h => keyB_inj hb hc h, fun h => by rw [h]⟩
  rw [h3] at h1
  exact h1
theorem isB_blk {N : Int} {ss : List Sp} (hR : Rise N ss) (h0 : 0 ≤ N) (hN : N ≤ 254) (i : Nat) : IsB (blkOf (cls ss) i) := ⟨blkOf_len _ _, fun x hx => by
  obtain ⟨j, _, rfl⟩ := List.mem_map.1 hx
  have := cls_bounds hR h0 (128 * (i : Int) + (j : Int))
  omega⟩
/-- The table behind i blocks. -/
structure FillRel (ss : List Sp) (T : Nat) (c0 : Array Value) (w : World) (i : Nat) (c : Array Value) (vB : Value) (x : List Int) (wr : World) : Prop where
  row : wr.heap[T]? = some (.cells c 67 (0, 0))
  size : c.size = 8706
  zero : c[0]? = c0[0]?
  which : ∀ k, k < i → c[1 + k]? = some (.int .u16 ((ord (blkOf (cls ss)) i).idxOf (blkOf (cls ss) k) : Int))
  last : c[8705]? = some vB
  own : OwnB wr (w.heap.size + 2) vB (ord (blkOf (cls ss)) i)
  known : Known wr w.heap.size (ord (blkOf (cls ss)) i)
  ahead : wr.heap[w.heap.size + 1]? = some (.cells (cellsB x) 70 (0, 0))
  isB : IsB x
  same : 0 < i → x = blkOf (cls ss) (i - 1)
  only : Only w wr (fun k => k = T)
  more : w.heap.size + 2 ≤ wr.heap.size
theorem grown_of_only {w w' : World} (h : Only w w' (fun _ => False)) : w.grownBy w' none := ⟨h.os, h.tape, h.output, h.size, fun k hk _ => h.block k hk id⟩
theorem FillRel.later {ss : List Sp} {T : Nat} {c0 : Array Value} {w : World} {i : Nat} {c : Array Value} {vB : Value} {x : List Int} {wr w' : World} (h : FillRel ss T c0 w i c vB x wr) (ho : Only wr w' (fun _ => False)) : FillRel ss T c0 w i c vB x w' := by
  have hT : T < wr.heap.size := (Array.getElem?_eq_some_iff.1 h.row).1
  have hm := h.more
  refine ⟨(ho.block T hT id).trans h.row, h.size, h.zero, h.which, h.last, World.ownsRow.kept h.own (grown_of_only ho) (by cases hv : vB.ownBlock <;> simp), h.known.block (ho.block _ (by omega) id), (ho.block _ (by omega) id).trans h.ahead, h.isB, h.same, h.only.trans ho (fun _ hf => hf.elim), Nat.le_trans h.more ho.size⟩
theorem zc70 (i : Nat) : Tryd.zeroCells70 = cellsB (blkOf (fun _ => 0) i) := (by kernel_rfl : Tryd.zeroCells70 = cellsB (blkOf (fun _ => 0) 0))
theorem isB_zero : IsB (blkOf (fun _ => 0) 0) := ⟨blkOf_len _ _, fun x hx => by obtain ⟨j, _, rfl⟩ := List.mem_map.1 hx; show (0 : Int) ≤ 0 ∧ (0 : Int) ≤ 255; decide⟩
theorem wpList_load_midG {P : Program} {ops : Array Oper} {rest : List Oper} {op : Oper} {a : Act} {w : World} {Q : Exit → Act → World → Prop} (hw : Region.wanted op (yielded ops a.tmps) = true) (ty : TypeId) (x : Operand) (ho : op.op = .load ty x)
    (b o : Nat) (hx : a.eval x = .pointer (some ⟨b, o, none⟩)) (cs : List Value) (d : TypeDesc) (hc : w.rangeAt b o cs)
    (hu : P.underlying ty = some d) (hd : d.isRow = true) (hi : (P.info? ty).map (·.size) = some cs.length)
    (h : wpList P ops Q rest (a.put op.dst (.agg cs.toArray)) w) : wpList P ops Q (op :: rest) a w := by
  simp only [wpList, hw, if_true]
  exact .inl (wp_load_mid ty x ho b o hx cs d hc hu hd hi h)
theorem range_row {w : World} {g : Nat} {b : List Int} {t : TypeId} (h : w.heap[g]? = some (.cells (cellsB b) t (0, 0))) : w.rangeAt g 0 (b.map (Value.int .u8)) := fun j v hv => by
  rw [cell_of_row _ _ _ _ _ _ h, Nat.zero_add]
  simpa [cellsB] using hv
theorem size_of {b : List Int} (h : IsB b) : (Tryd.prog.info? 70).map (·.size) = some (b.map (Value.int .u8)).length := by rw [List.length_map, h.len]; exact size70
theorem ord_next (B : Nat → List Int) (i : Nat) : ord B (i + 1) = nextL (ord B i) (B i) := rfl
theorem set_at_other {c : Array Value} {i j : Nat} {v : Value} (h : i ≠ j) : (c.setIfInBounds i v)[j]? = c[j]? := by rw [Array.getElem?_setIfInBounds, if_neg h]
theorem set_at_same {c : Array Value} {i : Nat} {v : Value} (h : i < c.size) : (c.setIfInBounds i v)[i]? = some v := by rw [Array.getElem?_setIfInBounds, if_pos rfl, if_pos h]
theorem FillRel.oldStep {ss : List Sp} {T : Nat} {c0 : Array Value} {w : World} {i m : Nat} {c : Array Value} {vB : Value} {x : List Int} {wr : World} (h : FillRel ss T c0 w i c vB x wr) (hi : i < 8704) (hm : i = m + 1) (hTw : T < w.heap.size) (hs : blkOf (cls ss) i = x) (hx : x = blkOf (cls ss) m) (q : Int) (hq : q = ((ord (blkOf (cls ss)) i).idxOf (blkOf (cls ss) m) : Int)) :
    FillRel ss T c0 w (i + 1) (c.setIfInBounds (1 + i) (.int .u16 q)) vB x (wr.setCell ⟨T, 1 + i, none⟩ (.int .u16 q)).drew := by
  have hmem : blkOf (cls ss) i ∈ ord (blkOf (cls ss)) i := by rw [hs, hx]; exact ord_mem _ i m (by omega)
  have ho : ord (blkOf (cls ss)) (i + 1) = ord (blkOf (cls ss)) i := by rw [ord_next, nextL_old hmem]
  have hrow := heap_setCell_same wr T (1 + i) _ _ (.int .u16 q) h.row
  have oth : ∀ k, ¬ k = T → (wr.setCell ⟨T, 1 + i, none⟩ (.int .u16 q)).drew.heap[k]? = wr.heap[k]? := fun k hk => Below.heap_setCell wr ⟨T, 1 + i, none⟩ _ k hk
  refine ⟨hrow, by rw [Array.size_setIfInBounds]; exact h.size, by rw [set_at_other (by omega)]; exact h.zero, fun k hk => ?_, by rw [set_at_other (by omega)]; exact h.last, ?_, ?_, (oth _ (by omega)).trans h.ahead, h.isB, fun _ => by rw [Nat.add_sub_cancel]; exact hs.symm, (h.only.trans (Only.setCell wr T (1 + i) _) (fun k hk => .inl hk)).drew, by simpa [World.setCell, World.drew] using h.more⟩
  · rw [ho]
    by_cases e : k = i
    · subst e
      rw [set_at_same (by rw [h.size]; omega), hq, hs, hx]
    · rw [set_at_other (by omega)]
      exact h.which k (by omega)
  · rw [ho]
    exact ownsRow_setCell_other h.own (a := ⟨T, 1 + i, none⟩) (fun e => by have := (World.ownsRow.lt h.own T e).1; omega) _
  · rw [ho]
    exact h.known.block (oth _ (by omega))
theorem FillRel.newStep {ss : List Sp} {T : Nat} {c0 : Array Value} {w : World} {i : Nat} {c : Array Value} {vB vB' : Value} {x : List Int} {w3 w4 : World} (h : FillRel ss T c0 w i c vB x w3) (hi : i < 8704) (hTw : T < w.heap.size) (hB : IsB (blkOf (cls ss) i)) (q : Int) (hq : q = ((ord (blkOf (cls ss)) (i + 1)).idxOf (blkOf (cls ss) i) : Int))
    (n1 : Known w4 w.heap.size (ord (blkOf (cls ss)) (i + 1))) (n2 : w4.heap[T]? = some (.cells (c.setIfInBounds 8705 vB') 67 (0, 0))) (n3 : OwnB w4 (w.heap.size + 2) vB' (ord (blkOf (cls ss)) (i + 1))) (n5 : Only w3 w4 (fun k => k = T ∨ k = w.heap.size ∨ vB.ownBlock = some k)) :
    FillRel ss T c0 w (i + 1) ((c.setIfInBounds 8705 vB').setIfInBounds (1 + i) (.int .u16 q)) vB' (blkOf (cls ss) i) ((w4.setCell ⟨T, 1 + i, none⟩ (.int .u16 q)).setRow (w.heap.size + 1) (cellsB (blkOf (cls ss) i))) := by
  have hm := h.more
  have hs := n5.size
  have hT1 : ¬ T = w.heap.size + 1 := by omega
  have hown : ∀ k, vB.ownBlock = some k → w.heap.size + 2 ≤ k := fun k hk => (World.ownsRow.lt h.own k hk).1
  have a4 : w4.heap[w.heap.size + 1]? = some (.cells (cellsB x) 70 (0, 0)) := (n5.block _ (by omega) (fun e => by
    rcases e with e | e | e
    · omega
    · omega
    · have := hown _ e; omega)).trans h.ahead
  have a5 : (w4.setCell ⟨T, 1 + i, none⟩ (.int .u16 q)).heap[w.heap.size + 1]? = some (.cells (cellsB x) 70 (0, 0)) := (Below.heap_setCell w4 ⟨T, 1 + i, none⟩ _ _ (fun e => hT1 e.symm)).trans a4
  have oth : ∀ k, ¬ k = T → ¬ k = w.heap.size + 1 → ((w4.setCell ⟨T, 1 + i, none⟩ (.int .u16 q)).setRow (w.heap.size + 1) (cellsB (blkOf (cls ss) i))).heap[k]? = w4.heap[k]? := fun k h1 h2 => (setRow_other _ _ _ _ h2).trans (Below.heap_setCell w4 ⟨T, 1 + i, none⟩ _ k h1)
  refine ⟨(setRow_other _ _ _ _ hT1).trans (heap_setCell_same w4 T (1 + i) _ _ (.int .u16 q) n2), by rw [Array.size_setIfInBounds, Array.size_setIfInBounds]; exact h.size, by rw [set_at_other (by omega), set_at_other (by omega)]; exact h.zero, fun k hk => ?_, by rw [set_at_other (by omega), set_at_same (by rw [h.size]; omega)], ?_, n1.block (oth _ (by omega) (by omega)), setRow_heap _ _ _ _ _ _ a5, hB, fun _ => by rw [Nat.add_sub_cancel], ?_, ?_⟩
  · by_cases e : k = i
    · subst e
      rw [set_at_same (by rw [Array.size_setIfInBounds, h.size]; omega), hq]
    · rw [set_at_other (by omega), set_at_other (by omega), h.which k (by omega), idx_ord (blkOf (cls ss)) i k (by omega)]
  · have g1 : w4.ownsRow (w.heap.size + 2) 70 128 vB' (ord (blkOf (cls ss)) (i + 1)).length (flatB (ord (blkOf (cls ss)) (i + 1))) := n3
    have g2 := ownsRow_setCell_other g1 (a := ⟨T, 1 + i, none⟩) (fun e => by have := (World.ownsRow.lt g1 T e).1; omega) (.int .u16 q)
    refine World.ownsRow.kept g2 (w' := (w4.setCell ⟨T, 1 + i, none⟩ (.int .u16 q)).setRow (w.heap.size + 1) (cellsB (blkOf (cls ss) i))) (row := some (w.heap.size + 1)) ⟨rfl, rfl, rfl, by simp, fun k _ hk => setRow_other _ _ _ _ (fun e => hk (by rw [e]))⟩ (.inr (fun e => by have := (World.ownsRow.lt g2 _ e).1; omega))
  · have o1 : Only w w4 (fun k => k = T) := h.only.trans n5 (fun k hk => by
      rcases hk with hk | hk | hk
      · exact .inl hk
      · exact .inr (by omega)
      · exact .inr (by have := hown _ hk; omega))
    have o2 := o1.trans (Only.setCell w4 T (1 + i) (.int .u16 q)) (fun k hk => .inl hk)
    exact o2.trans (T := fun k => k = w.heap.size + 1) ⟨rfl, rfl, rfl, by simp, fun k _ hk => setRow_other _ _ _ _ hk⟩ (fun k hk => .inr (by omega))
  · simp [World.setCell]
    omega
theorem nextPA {ss : List Sp} {a a' a2 : Option Addr} {k k2 T : Nat} {w w3 w' : World} (h : PA w3 a2 ((ss.drop k).drop k2)) (h3 : ∀ p, a2 = some p → ∃ q, a' = some q ∧ q.block = p.block) (hq : ∀ p, a' = some p → ∃ q, a = some q ∧ q.block = p.block) (hab : ∀ p, a = some p → p.block ≠ T ∧ p.block < w.heap.size) (ho : Only w3 w' (fun k => k = T ∨ w.heap.size ≤ k)) : PA w' a2 (ss.drop (k + k2)) := by
  rw [List.drop_drop] at h
  refine h.only ho (fun p hp e => ?_)
  obtain ⟨q, h1, h2⟩ := h3 p hp
  obtain ⟨q2, h4, h5⟩ := hq q h1
  obtain ⟨h6, h7⟩ := hab q2 h4
  rw [h5, h2] at h6 h7
  rcases e with e | e
  · exact h6 e
  · omega
theorem nextS {ss : List Sp} {k k2 i : Nat} (h : ∀ s ∈ ss.take k, s.2.1 < 128 * (i : Int)) (h2 : ∀ s ∈ (ss.drop k).take k2, s.2.1 ≤ 128 * (i : Int) + 127) : ∀ s ∈ ss.take (k + k2), s.2.1 < 128 * ((i + 1 : Nat) : Int) := fun s hs => by
  rw [List.take_add] at hs
  rcases List.mem_append.1 hs with hs | hs
  · have := h s hs; omega
  · have := h2 s hs; omega
theorem nextQ {a a' a2 : Option Addr} (h3 : ∀ p, a2 = some p → ∃ q, a' = some q ∧ q.block = p.block) (hq : ∀ p, a' = some p → ∃ q, a = some q ∧ q.block = p.block) : ∀ p, a2 = some p → ∃ q, a = some q ∧ q.block = p.block := fun p hp => by
  obtain ⟨q, h1, h2⟩ := h3 p hp
  obtain ⟨q2, h4, h5⟩ := hq q h1
  exact ⟨q2, h4, h5.trans h2⟩
/-- What fill leaves: both stages. -/
def Filled (ss : List Sp) (T : Nat) (c0 : Array Value) (w : World) (e : Ending) (w' : World) : Prop :=
  ∃ c vB, e = .returned (.tuple #[]) ∧ w'.heap[T]? = some (.cells c 67 (0, 0)) ∧ c.size = 8706 ∧ c[0]? = c0[0]? ∧ (∀ k, k < 8704 → c[1 + k]? = some (.int .u16 ((ord (blkOf (cls ss)) 8704).idxOf (blkOf (cls ss) k) : Int))) ∧ c[8705]? = some vB ∧ OwnB w' w.heap.size vB (ord (blkOf (cls ss)) 8704) ∧ Only w w' (fun k => k = T)
set_option maxRecDepth 10000 in
set_option maxHeartbeats 800000 in
theorem fill_any (N : Int) (ss : List Sp) (a : Option Addr) (cap T : Nat) (c0 : Array Value) (w : World) (hR : Rise N ss) (h0 : 0 ≤ N) (hN : N ≤ 254) (hl : ss.length ≤ cap) (ha : PA w a ss) (hab : ∀ p, a = some p → p.block ≠ T ∧ p.block < w.heap.size) (hT : w.heap[T]? = some (.cells c0 67 (0, 0))) (hcs : c0.size = 8706) (hcB : c0[8705]? = some (.slice none 0 0)) :
    Calls Tryd.prog 31 #[.pointer (some ⟨T, 0, none⟩), .slice a ss.length cap] w fun e w' => Filled ss T c0 w e w' := by
  have hTw : T < w.heap.size := by
    rw [Array.getElem?_eq_some_iff] at hT
    exact hT.1
  have HR := hid0 hR
  have HA := hid0 ha
  have HAB := hid0 hab
  have HT := hid0 hT
  have HCS := hid0 hcs
  have HCB := hid0 hcB
  have hmm := @run_makeMap Tryd.prog
  clear hR ha hab hT hcs hcB
  go_enter Tryd.func31, Tryd.ntmps31
  have HF0 : Hid (FillRel ss T c0 w 0 c0 (.slice none 0 0) (blkOf (fun _ => 0) 0) ((w.alloc (.map #[] 0)).alloc (.cells Tryd.zeroCells70 70))) := hid0 (by
    have hs1 : (w.alloc (.map #[] 0)).heap.size = w.heap.size + 1 := by simp
    have o1 : Only w ((w.alloc (.map #[] 0)).alloc (.cells Tryd.zeroCells70 70)) (fun _ => False) := (Only.alloc w (.map #[] 0) (fun _ => False)).trans (Only.alloc _ _ (fun _ => False)) (fun _ h => h.elim)
    refine ⟨(o1.block T hTw id).trans HT.out, HCS.out, rfl, fun k hk => by omega, HCB.out, World.ownsRow_nil _ _ _ _, (Known.made w).block (Below.heap_alloc _ _ _ (by rw [hs1]; omega)), ?_, isB_zero, fun h => by omega, o1.mono (fun _ h => h.elim), by simp⟩
    rw [← hs1, heap_alloc_new, zc70 0])
  have HAB0 : Hid (∀ p, a = some p → ∃ q, a = some q ∧ q.block = p.block) := hid0 (fun p hp => ⟨p, hp, rfl⟩)
  have HA0 : Hid (PA ((w.alloc (.map #[] 0)).alloc (.cells Tryd.zeroCells70 70)) a ss) := hid0 (HA.out.only (HF0.out.only.mono (T := fun k => k = T) (fun _ h => h)) (fun p hp => (HAB.out p hp).1))
  go_wp2
  go_loopw [1, 9] (fun s1 v9 wr => ∃ (i k : Nat) (a' : Option Addr) (cap' : Nat) (c : Array Value) (vB : Value) (x : List Int), i ≤ 8704 ∧ k ≤ ss.length ∧ s1 = .slice a' (ss.length - k) cap' ∧ v9 = .int .i64 (i : Int) ∧ ss.length - k ≤ cap' ∧ cap' ≤ cap ∧ Hid (PA wr a' (ss.drop k)) ∧ Hid (∀ p, a' = some p → ∃ q, a = some q ∧ q.block = p.block) ∧ Hid (∀ s ∈ ss.take k, s.2.1 < 128 * (i : Int)) ∧ Hid (FillRel ss T c0 w i c vB x wr)) (fun _ v _ => 8704 - (intOf v).toNat)
  case atStart => exact ⟨0, 0, a, cap, c0, _, _, by omega, by omega, rfl, rfl, hl, Nat.le_refl _, HA0, HAB0, hid0 (fun s hs => by simp at hs), HF0⟩
  case round =>
    clear HF0 HAB0 HA0 HT HCS HCB hmm
    obtain ⟨i, k, a', cap', c, vB, x, hi, hk, rfl, rfl, hc1, hc2, HP, HQ, HS, HF⟩ := hrel
    by_cases hlt : i < 8704
    · have hltI : (i : Int) < 8704 := by omega
      have hmul : (i : Int) * 128 = 128 * (i : Int) := by omega
      have HB : Hid (IsB (blkOf (cls ss) i)) := hid0 (isB_blk HR.out h0 hN i)
      have HPN := hid0 (paint_any N (ss.drop k) a' cap' i wr.heap.size (wr.alloc (.cells Tryd.zeroCells70 70)) (HR.out.drop k) hN hlt (by rw [List.length_drop]; exact hc1) (HP.out.only (Only.alloc _ _ (fun _ => False)) (fun _ _ => id)) (fun p hp e => by
          obtain ⟨q, h1, h2⟩ := HQ.out p hp
          have h3 := (HAB.out q h1).2
          have h4 := HF.out.more
          omega) (by simp) (by rw [heap_alloc_new, zc70 i]))
      rw [List.length_drop] at HPN
      have HR6 : Hid (∀ w3 : World, w3.heap[wr.heap.size]? = some (.cells (cellsB (blkOf (cls (ss.drop k)) i)) 70 (0, 0)) → w3.rangeAt wr.heap.size 0 ((blkOf (cls ss) i).map (Value.int .u8))) := hid0 (fun w3 h => by
        rw [blkOf_congr (f := cls (ss.drop k)) (g := cls ss) (fun p h1 _ => cls_drop (fun s hs => by have := HS.out s hs; omega))] at h
        exact range_row h)
      have HO7 : Hid (∀ w3, Only (wr.alloc (.cells Tryd.zeroCells70 70)) w3 (fun k => k = wr.heap.size) → Only wr w3 (fun _ => False)) := hid0 (fun w3 h => (Only.alloc wr _ (fun _ => False)).trans h (fun j hj => .inr (by omega)))
      have HR7 : Hid (∀ w3, Only (wr.alloc (.cells Tryd.zeroCells70 70)) w3 (fun k => k = wr.heap.size) → w3.rangeAt (w.heap.size + 1) 0 (x.map (Value.int .u8))) := hid0 (fun w3 h => range_row (HF.out.later (HO7.out w3 h)).ahead)
      have HIB := hid0 (size_of HB.out)
      have HIX := hid0 (size_of HF.out.isB)
      rcases Nat.eq_zero_or_pos i with hi0 | hi0
      · have hz0 : ¬ 0 < i := by omega
        clear hi0
        go_wp2_with (first | (go_at_call 43; refine HPN.out.mono ?_; rintro e w3 ⟨k2, a2, cap2, p1, rfl, p2, p3, p4, p5, p6, p7⟩; have HP2 := hid0 p2; have HP3 := hid0 p3; have HP5 := hid0 p5; have HP6 := hid0 p6; have HP7 := hid0 p7; clear p2 p3 p5 p6 p7))
        rw [List.length_drop] at p1 p4
        obtain ⟨p41, p42⟩ := p4
        have HF3 := hid0 (HF.out.later (HO7.out _ HP7.out))
        have HRB := hid0 (HR6.out _ HP6.out)
        obtain ⟨q, hq⟩ : ∃ q : Int, q = ((ord (blkOf (cls ss)) (i + 1)).idxOf (blkOf (cls ss) i) : Int) := ⟨_, rfl⟩
        have hq0 : 0 ≤ q ∧ q ≤ 8704 := by
          have h1 := ord_len (blkOf (cls ss)) (i + 1)
          have h2 := List.idxOf_le_length (l := ord (blkOf (cls ss)) (i + 1)) (a := blkOf (cls ss) i)
          omega
        obtain ⟨hq1, hq2⟩ := hq0
        have HNB := hid0 (number_any (blkOf (cls ss) i) HB.out (ord (blkOf (cls ss)) i) T w.heap.size (w.heap.size + 2) c vB w3.drew HF3.out.row HF3.out.size HF3.out.last HF3.out.own HF3.out.known (by omega) (by omega) (by omega) HF3.out.more (by have := ord_len (blkOf (cls ss)) i; omega))
        have HBN : Hid (∀ k, (k = T ∨ k = w.heap.size ∨ vB.ownBlock = some k) → ¬ k = wr.heap.size) := hid0 (fun k hk e => by
          have hm := HF.out.more
          rcases hk with hk | hk | hk
          · omega
          · omega
          · have := (World.ownsRow.lt HF.out.own k hk).2; omega)
        have HTN : Hid (¬ wr.heap.size = T) := hid0 (by have := HF.out.more; omega)
        have HLT3 : Hid (wr.heap.size < w3.heap.size) := hid0 (by have := HP7.out.size; simp at this; omega)
        have HSZ : Hid (c.size = 8706) := hid0 HF.out.size
        have HNB2 : Hid (Calls Tryd.prog 44 #[.pointer (some ⟨T, 0, none⟩), .map (some w.heap.size), .agg ((blkOf (cls ss) i).map (Value.int .u8)).toArray] w3.drew fun e w4 => e = .returned (.int .i64 q) ∧ (∃ u, w4.cell? ⟨T, 1 + i, none⟩ = some u) ∧ w4.frozen? ⟨T, 1 + i, none⟩ = false ∧ w4.rangeAt wr.heap.size 0 ((blkOf (cls ss) i).map (Value.int .u8)) ∧ Hid (∃ vB', FillRel ss T c0 w (i + 1) ((c.setIfInBounds 8705 vB').setIfInBounds (1 + i) (.int .u16 q)) vB' (blkOf (cls ss) i) ((w4.setCell ⟨T, 1 + i, none⟩ (.int .u16 q)).setRow (w.heap.size + 1) (cellsB (blkOf (cls ss) i)))) ∧ Hid (Only w3 w4 (fun k => k = T ∨ w.heap.size ≤ k)) ∧ Hid (∃ y, y.length = 128 ∧ w4.heap[w.heap.size + 1]? = some (.cells (cellsB y) 70 (0, 0)))) := hid0 (HNB.out.mono (fun e w4 h => by
          obtain ⟨vB', e1, n1, n2, n3, n4, n5⟩ := h
          have n5' : Only w3 w4 (fun k => k = T ∨ k = w.heap.size ∨ vB.ownBlock = some k) := ⟨n5.os, n5.tape, n5.output, n5.size, n5.block⟩
          refine ⟨by rw [e1, hq]; rfl, ?_, ?_, ?_, hid0 ⟨vB', HF3.out.newStep hlt hTw HB.out q hq n1 n2 n3 n5'⟩, hid0 (n5'.mono (fun k hk => by
            rcases hk with hk | hk | hk
            · exact .inl hk
            · exact .inr (by omega)
            · exact .inr (by have := (World.ownsRow.lt HF3.out.own k hk).1; omega))), hid0 ⟨x, HF3.out.isB.len, (n5'.block _ (by have := HF3.out.more; omega) (fun e => by
            rcases e with e | e | e
            · omega
            · omega
            · have := (World.ownsRow.lt HF3.out.own _ e).1; omega)).trans HF3.out.ahead⟩⟩
          · rw [cell_of_row _ _ _ _ _ _ n2]
            exact ⟨_, Array.getElem?_eq_getElem (by rw [Array.size_setIfInBounds, HSZ.out]; omega)⟩
          · simp [World.frozen?, n2]
          · exact range_row ((n5'.block _ HLT3.out (fun e => HBN.out _ e rfl)).trans (by have := HP6.out; rw [blkOf_congr (f := cls (ss.drop k)) (g := cls ss) (fun p h1 _ => cls_drop (fun s hs => by have := HS.out s hs; omega))] at this; exact this))))
        have HQQ := hid0 hq
        have hcv : IntKind.u16.wrap q = q := by simp [IntKind.wrap, IntKind.bits, IntKind.signed]; omega
        have hu70 := Tryd.underlying70
        have hi70 : (Tryd.prog.info? 70).map (·.size) = some ((blkOf (cls ss) i).map (Value.int .u8)).length := HIB.out
        have hl70 : ((blkOf (cls ss) i).map (Value.int .u8)).length = 128 := by rw [List.length_map, HB.out.len]
        have h170 : ∀ v ∈ (blkOf (cls ss) i).map (Value.int .u8), v.oneCell' = true := fun v hv => by obtain ⟨x, _, rfl⟩ := List.mem_map.1 hv; rfl
        have hiI0 : (0 : Int) ≤ (i : Int) := by omega
        clear hq HNB HPN HR6 HR7 hq1 hq2
        go_region_held3 (fun w' => w'.rangeAt wr.heap.size 0 ((blkOf (cls ss) i).map (Value.int .u8))) (first | exact HRB.out | exact HS4.out | exact range_setCell HS4.out _ _ HTN.out)
          ((go_at_call 44; refine HNB2.out.mono ?_; rintro e w4 ⟨rfl, ⟨u4, hc4⟩, hf4, hr4, HG4, HO4, HY4⟩; have HS4 := hid0 hr4; clear hr4))
        have HR5 : Hid ((w4.setCell ⟨T, 1 + i, none⟩ (.int .u16 q)).rangeAt wr.heap.size 0 ((blkOf (cls ss) i).map (Value.int .u8))) := hid0 (range_setCell HS4.out _ _ HTN.out)
        obtain ⟨vB', HG5⟩ := HG4.out
        have HG6 := hid0 HG5
        obtain ⟨y, hy1, hy2⟩ := HY4.out
        have HA5 : Hid ((w4.setCell ⟨T, 1 + i, none⟩ (.int .u16 q)).heap[w.heap.size + 1]? = some (.cells (cellsB y) 70 (0, 0))) := hid0 ((Below.heap_setCell w4 ⟨T, 1 + i, none⟩ _ _ (fun e => by simp at e; omega)).trans hy2)
        have HYL : Hid ((cellsB y).size = (cellsB (blkOf (cls ss) i)).size) := hid0 (by rw [cellsB_size, cellsB_size, hy1, HB.out.len])
        have HI5 : Hid ((Tryd.prog.info? 70).map (·.size) = some (cellsB (blkOf (cls ss) i)).size) := hid0 (by rw [cellsB_size, HB.out.len]; exact size70)
        have HN2 : Hid (PA ((w4.setCell ⟨T, 1 + i, none⟩ (.int .u16 q)).setRow (w.heap.size + 1) (cellsB (blkOf (cls ss) i))) a2 (ss.drop (k + k2))) := hid0 (nextPA HP2.out HP3.out HQ.out HAB.out ((HO4.out.trans (Only.setCell w4 T (1 + i) (.int .u16 q)) (fun k hk => .inl (.inl hk))).trans (T := fun k => k = w.heap.size + 1) ⟨rfl, rfl, rfl, by simp, fun k _ hk => setRow_other _ _ _ _ hk⟩ (fun k hk => .inl (.inr (by omega)))))
        have HN3 := hid0 (nextQ HP3.out HQ.out)
        have HN4 := hid0 (nextS HS.out HP5.out)
        have hlen : ss.length - k - k2 = ss.length - (k + k2) := by omega
        have HLN := hid0 hlen
        clear hlen hy1 hy2 HG5 HP2 HP3 HP5 HP6 HP7 HP HQ HS HF HF3 HG4 HO4 HY4 hc4 hf4 hi70 hl70 h170 hu70 hcv
        go_wp2_with (first
          | (refine wpList_load_mid rfl 70 _ rfl wr.heap.size 0 rfl ((blkOf (cls ss) i).map (Value.int .u8)) (.array 128 5) HR5.out Tryd.underlying70 rfl HIB.out ?_)
          | (refine wpList_store_row rfl 70 _ _ rfl (w.heap.size + 1) (cellsB (blkOf (cls ss) i)) rfl rfl 70 _ HA5.out HI5.out HYL.out (cellsB_one _) ?_))
        go_roundw
        case rel => exact ⟨i + 1, k + k2, a2, cap2, _, vB', blkOf (cls ss) i, by omega, by omega, by rw [HLN.out], by go_num, by rw [← HLN.out]; exact p41, by omega, HN2, HN3, HN4, HG6⟩
        case measure => simp [intOf]; omega
      · obtain ⟨m, hm⟩ : ∃ m, i = m + 1 := ⟨i - 1, by omega⟩
        have hsub : (i : Int) - 1 = (m : Int) := by omega
        have HM := hid0 hm
        have HXE : Hid (x = blkOf (cls ss) m) := hid0 (by have := HF.out.same hi0; rw [hm] at this; exact this)
        clear hm
        have hgt : Tryd.prog.eqGuardType Tryd.prog.depth 70 = false := by kernel_rfl
        by_cases hsame : blkOf (cls ss) i = x
        · have heq : ∀ w, (Op.equalIn 10000 70 (.agg ((blkOf (cls ss) i).map (Value.int .u8)).toArray) (.agg (x.map (Value.int .u8)).toArray)).run Tryd.prog w = .ok true w := fun w => by rw [eq70 HB.out HF.out.isB w, decide_eq_true hsame]
          have HSA := hid0 hsame
          clear hsame
          go_wp2_with (first
            | (go_at_call 43; refine HPN.out.mono ?_; rintro e w3 ⟨k2, a2, cap2, p1, rfl, p2, p3, p4, p5, p6, p7⟩; have HP2 := hid0 p2; have HP3 := hid0 p3; have HP5 := hid0 p5; have HP6 := hid0 p6; have HP7 := hid0 p7; clear p2 p3 p5 p6 p7)
            | (refine wpList_load_midG (by rfl) 70 _ rfl wr.heap.size 0 rfl ((blkOf (cls ss) i).map (Value.int .u8)) (.array 128 5) (HR6.out _ HP6.out) Tryd.underlying70 rfl HIB.out ?_)
            | (refine wpList_load_midG (by rfl) 70 _ rfl (w.heap.size + 1) 0 rfl (x.map (Value.int .u8)) (.array 128 5) (HR7.out _ HP7.out) Tryd.underlying70 rfl HIX.out ?_))
          rw [List.length_drop] at p1 p4
          obtain ⟨p41, p42⟩ := p4
          have HF3 := hid0 (HF.out.later (HO7.out _ HP7.out))
          obtain ⟨q, hq⟩ : ∃ q : Int, q = ((ord (blkOf (cls ss)) i).idxOf (blkOf (cls ss) m) : Int) := ⟨_, rfl⟩
          have c1 : w3.cell? ⟨T, 1 + m, none⟩ = some (.int .u16 q) := by
            rw [cell_of_row _ _ _ _ _ _ HF3.out.row, HF3.out.which m (by have := HM.out; omega), hq]
          have c2 : ∃ u, w3.cell? ⟨T, 1 + i, none⟩ = some u := by
            rw [cell_of_row _ _ _ _ _ _ HF3.out.row]
            exact ⟨_, Array.getElem?_eq_getElem (by rw [HF3.out.size]; omega)⟩
          obtain ⟨u2, c2⟩ := c2
          have f2 : w3.frozen? ⟨T, 1 + i, none⟩ = false := by simp [World.frozen?, HF3.out.row]
          have hmI0 : (0 : Int) ≤ (m : Int) := by omega
          have hmI : (m : Int) < 8704 := by have := HM.out; omega
          have hiI0 : (0 : Int) ≤ (i : Int) := by omega
          have HN1 : Hid (FillRel ss T c0 w (i + 1) (c.setIfInBounds (1 + i) (.int .u16 q)) vB x (w3.setCell ⟨T, 1 + i, none⟩ (.int .u16 q)).drew) := hid0 (HF3.out.oldStep hlt HM.out hTw HSA.out HXE.out q hq)
          have HN2 : Hid (PA (w3.setCell ⟨T, 1 + i, none⟩ (.int .u16 q)).drew a2 (ss.drop (k + k2))) := hid0 (nextPA HP2.out HP3.out HQ.out HAB.out ((Only.setCell w3 T (1 + i) (.int .u16 q)).mono (fun k hk => .inl hk)).drew)
          have HN3 := hid0 (nextQ HP3.out HQ.out)
          have HN4 := hid0 (nextS HS.out HP5.out)
          have hlen : ss.length - k - k2 = ss.length - (k + k2) := by omega
          have HLN := hid0 hlen
          clear hq HF3 HF HP2 HP3 HP5 HP6 HP7 HP HQ HS HR6 HR7 HPN heq hgt hlen
          go_region
          go_wp2
          go_roundw
          case rel => exact ⟨i + 1, k + k2, a2, cap2, _, vB, x, by omega, by omega, by rw [HLN.out], by go_num, by rw [← HLN.out]; exact p41, by omega, HN2, HN3, HN4, HN1⟩
          case measure => simp [intOf]; omega
        · have heq : ∀ w, (Op.equalIn 10000 70 (.agg ((blkOf (cls ss) i).map (Value.int .u8)).toArray) (.agg (x.map (Value.int .u8)).toArray)).run Tryd.prog w = .ok false w := fun w => by rw [eq70 HB.out HF.out.isB w, decide_eq_false hsame]
          clear hsame HXE HM hsub
          go_wp2_with (first
            | (go_at_call 43; refine HPN.out.mono ?_; rintro e w3 ⟨k2, a2, cap2, p1, rfl, p2, p3, p4, p5, p6, p7⟩; have HP2 := hid0 p2; have HP3 := hid0 p3; have HP5 := hid0 p5; have HP6 := hid0 p6; have HP7 := hid0 p7; clear p2 p3 p5 p6 p7)
            | (refine wpList_load_midG (by rfl) 70 _ rfl wr.heap.size 0 rfl ((blkOf (cls ss) i).map (Value.int .u8)) (.array 128 5) (HR6.out _ HP6.out) Tryd.underlying70 rfl HIB.out ?_)
            | (refine wpList_load_midG (by rfl) 70 _ rfl (w.heap.size + 1) 0 rfl (x.map (Value.int .u8)) (.array 128 5) (HR7.out _ HP7.out) Tryd.underlying70 rfl HIX.out ?_))
          clear heq hgt
          rw [List.length_drop] at p1 p4
          obtain ⟨p41, p42⟩ := p4
          have HF3 := hid0 (HF.out.later (HO7.out _ HP7.out))
          have HRB := hid0 (HR6.out _ HP6.out)
          obtain ⟨q, hq⟩ : ∃ q : Int, q = ((ord (blkOf (cls ss)) (i + 1)).idxOf (blkOf (cls ss) i) : Int) := ⟨_, rfl⟩
          have hq0 : 0 ≤ q ∧ q ≤ 8704 := by
            have h1 := ord_len (blkOf (cls ss)) (i + 1)
            have h2 := List.idxOf_le_length (l := ord (blkOf (cls ss)) (i + 1)) (a := blkOf (cls ss) i)
            omega
          obtain ⟨hq1, hq2⟩ := hq0
          have HNB := hid0 (number_any (blkOf (cls ss) i) HB.out (ord (blkOf (cls ss)) i) T w.heap.size (w.heap.size + 2) c vB w3.drew HF3.out.row HF3.out.size HF3.out.last HF3.out.own HF3.out.known (by omega) (by omega) (by omega) HF3.out.more (by have := ord_len (blkOf (cls ss)) i; omega))
          have HBN : Hid (∀ k, (k = T ∨ k = w.heap.size ∨ vB.ownBlock = some k) → ¬ k = wr.heap.size) := hid0 (fun k hk e => by
            have hm := HF.out.more
            rcases hk with hk | hk | hk
            · omega
            · omega
            · have := (World.ownsRow.lt HF.out.own k hk).2; omega)
          have HTN : Hid (¬ wr.heap.size = T) := hid0 (by have := HF.out.more; omega)
          have HLT3 : Hid (wr.heap.size < w3.heap.size) := hid0 (by have := HP7.out.size; simp at this; omega)
          have HSZ : Hid (c.size = 8706) := hid0 HF.out.size
          have HNB2 : Hid (Calls Tryd.prog 44 #[.pointer (some ⟨T, 0, none⟩), .map (some w.heap.size), .agg ((blkOf (cls ss) i).map (Value.int .u8)).toArray] w3.drew fun e w4 => e = .returned (.int .i64 q) ∧ (∃ u, w4.cell? ⟨T, 1 + i, none⟩ = some u) ∧ w4.frozen? ⟨T, 1 + i, none⟩ = false ∧ w4.rangeAt wr.heap.size 0 ((blkOf (cls ss) i).map (Value.int .u8)) ∧ Hid (∃ vB', FillRel ss T c0 w (i + 1) ((c.setIfInBounds 8705 vB').setIfInBounds (1 + i) (.int .u16 q)) vB' (blkOf (cls ss) i) ((w4.setCell ⟨T, 1 + i, none⟩ (.int .u16 q)).setRow (w.heap.size + 1) (cellsB (blkOf (cls ss) i)))) ∧ Hid (Only w3 w4 (fun k => k = T ∨ w.heap.size ≤ k)) ∧ Hid (∃ y, y.length = 128 ∧ w4.heap[w.heap.size + 1]? = some (.cells (cellsB y) 70 (0, 0)))) := hid0 (HNB.out.mono (fun e w4 h => by
            obtain ⟨vB', e1, n1, n2, n3, n4, n5⟩ := h
            have n5' : Only w3 w4 (fun k => k = T ∨ k = w.heap.size ∨ vB.ownBlock = some k) := ⟨n5.os, n5.tape, n5.output, n5.size, n5.block⟩
            refine ⟨by rw [e1, hq]; rfl, ?_, ?_, ?_, hid0 ⟨vB', HF3.out.newStep hlt hTw HB.out q hq n1 n2 n3 n5'⟩, hid0 (n5'.mono (fun k hk => by
              rcases hk with hk | hk | hk
              · exact .inl hk
              · exact .inr (by omega)
              · exact .inr (by have := (World.ownsRow.lt HF3.out.own k hk).1; omega))), hid0 ⟨x, HF3.out.isB.len, (n5'.block _ (by have := HF3.out.more; omega) (fun e => by
              rcases e with e | e | e
              · omega
              · omega
              · have := (World.ownsRow.lt HF3.out.own _ e).1; omega)).trans HF3.out.ahead⟩⟩
            · rw [cell_of_row _ _ _ _ _ _ n2]
              exact ⟨_, Array.getElem?_eq_getElem (by rw [Array.size_setIfInBounds, HSZ.out]; omega)⟩
            · simp [World.frozen?, n2]
            · exact range_row ((n5'.block _ HLT3.out (fun e => HBN.out _ e rfl)).trans (by have := HP6.out; rw [blkOf_congr (f := cls (ss.drop k)) (g := cls ss) (fun p h1 _ => cls_drop (fun s hs => by have := HS.out s hs; omega))] at this; exact this))))
          have HQQ := hid0 hq
          have hcv : IntKind.u16.wrap q = q := by simp [IntKind.wrap, IntKind.bits, IntKind.signed]; omega
          have hu70 := Tryd.underlying70
          have hi70 : (Tryd.prog.info? 70).map (·.size) = some ((blkOf (cls ss) i).map (Value.int .u8)).length := HIB.out
          have hl70 : ((blkOf (cls ss) i).map (Value.int .u8)).length = 128 := by rw [List.length_map, HB.out.len]
          have h170 : ∀ v ∈ (blkOf (cls ss) i).map (Value.int .u8), v.oneCell' = true := fun v hv => by obtain ⟨x, _, rfl⟩ := List.mem_map.1 hv; rfl
          have hiI0 : (0 : Int) ≤ (i : Int) := by omega
          clear hq HNB HPN HR6 HR7 hq1 hq2
          go_region_held3 (fun w' => w'.rangeAt wr.heap.size 0 ((blkOf (cls ss) i).map (Value.int .u8))) (first | exact HRB.out | exact HS4.out | exact range_setCell HS4.out _ _ HTN.out)
            ((go_at_call 44; refine HNB2.out.mono ?_; rintro e w4 ⟨rfl, ⟨u4, hc4⟩, hf4, hr4, HG4, HO4, HY4⟩; have HS4 := hid0 hr4; clear hr4))
          have HR5 : Hid ((w4.setCell ⟨T, 1 + i, none⟩ (.int .u16 q)).rangeAt wr.heap.size 0 ((blkOf (cls ss) i).map (Value.int .u8))) := hid0 (range_setCell HS4.out _ _ HTN.out)
          obtain ⟨vB', HG5⟩ := HG4.out
          have HG6 := hid0 HG5
          obtain ⟨y, hy1, hy2⟩ := HY4.out
          have HA5 : Hid ((w4.setCell ⟨T, 1 + i, none⟩ (.int .u16 q)).heap[w.heap.size + 1]? = some (.cells (cellsB y) 70 (0, 0))) := hid0 ((Below.heap_setCell w4 ⟨T, 1 + i, none⟩ _ _ (fun e => by simp at e; omega)).trans hy2)
          have HYL : Hid ((cellsB y).size = (cellsB (blkOf (cls ss) i)).size) := hid0 (by rw [cellsB_size, cellsB_size, hy1, HB.out.len])
          have HI5 : Hid ((Tryd.prog.info? 70).map (·.size) = some (cellsB (blkOf (cls ss) i)).size) := hid0 (by rw [cellsB_size, HB.out.len]; exact size70)
          have HN2 : Hid (PA ((w4.setCell ⟨T, 1 + i, none⟩ (.int .u16 q)).setRow (w.heap.size + 1) (cellsB (blkOf (cls ss) i))) a2 (ss.drop (k + k2))) := hid0 (nextPA HP2.out HP3.out HQ.out HAB.out ((HO4.out.trans (Only.setCell w4 T (1 + i) (.int .u16 q)) (fun k hk => .inl (.inl hk))).trans (T := fun k => k = w.heap.size + 1) ⟨rfl, rfl, rfl, by simp, fun k _ hk => setRow_other _ _ _ _ hk⟩ (fun k hk => .inl (.inr (by omega)))))
          have HN3 := hid0 (nextQ HP3.out HQ.out)
          have HN4 := hid0 (nextS HS.out HP5.out)
          have hlen : ss.length - k - k2 = ss.length - (k + k2) := by omega
          have HLN := hid0 hlen
          clear hlen hy1 hy2 HG5 HP2 HP3 HP5 HP6 HP7 HP HQ HS HF HF3 HG4 HO4 HY4 hc4 hf4 hi70 hl70 h170 hu70 hcv
          go_wp2_with (first
            | (refine wpList_load_mid rfl 70 _ rfl wr.heap.size 0 rfl ((blkOf (cls ss) i).map (Value.int .u8)) (.array 128 5) HR5.out Tryd.underlying70 rfl HIB.out ?_)
            | (refine wpList_store_row rfl 70 _ _ rfl (w.heap.size + 1) (cellsB (blkOf (cls ss) i)) rfl rfl 70 _ HA5.out HI5.out HYL.out (cellsB_one _) ?_))
          go_roundw
          case rel => exact ⟨i + 1, k + k2, a2, cap2, _, vB', blkOf (cls ss) i, by omega, by omega, by rw [HLN.out], by go_num, by rw [← HLN.out]; exact p41, by omega, HN2, HN3, HN4, HG6⟩
          case measure => simp [intOf]; omega
    · have hltI : ¬ (i : Int) < 8704 := by omega
      have HE : Hid (Filled ss T c0 w (.returned (.tuple #[])) wr) := hid0 (by
        obtain rfl : i = 8704 := by omega
        have h := HF.out
        refine ⟨c, vB, rfl, h.row, h.size, h.zero, h.which, h.last, ⟨h.own.1, ?_⟩, h.only⟩
        rcases h.own.2 with h2 | ⟨g, cap, cur, hv, hg, r⟩
        · exact .inl h2
        · exact .inr ⟨g, cap, cur, hv, by omega, r⟩)
      clear HF HP HQ HS
      go_wp2
      go_end0
      exact HE.out
end Go.Proofs.YtpimameogmkpcaaDoor
