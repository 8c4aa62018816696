/-
  The walks of (*bytes.Buffer).WriteByte and WriteString at whatever fill, of (*codec.Writer).Num and Text.
-/
import Derived.Test.YtnclpcnpaodjjaaDoorGrowW
import Derived.Test.YtnclpcnpaodjjaaDoorNumW
import Derived.Lib.BufferWrite
namespace Go.Proofs.YtnclpcnpaodjjaaDoor
open Go.RowKit
/-- Room was made for n more. -/
structure Roomy (W : World) (B g cap : Nat) (cur : Array Value) (L : List UInt8) (n : Nat) : Prop where
  blk : WrBlk W B (.slice (some ⟨g, 0, none⟩) (L.length + n) cap)
  row : W.heap[g]? = some (.cells cur 5 (0, 0))
  size : cur.size = cap
  take : cur.toList.take L.length = cellsOf L
  fit : L.length + n ≤ cap
  r64 : 64 ≤ cap
  max : cap ≤ maxLen
theorem Roomy.ne {W : World} {B g cap : Nat} {cur : Array Value} {L : List UInt8} {n : Nat} (h : Roomy W B g cap cur L n) : ¬ g = B := by
  intro e
  subst e
  have := h.blk
  unfold WrBlk at this
  rw [h.row] at this
  simp at this
theorem cellsOf_append (a b : List UInt8) : cellsOf (a ++ b) = cellsOf a ++ cellsOf b := by simp [cellsOf]
theorem Roomy.str {W : World} {B g cap : Nat} {cur : Array Value} {L S : List UInt8} {n : Nat} (h : Roomy W B g cap cur L n) (hn : S.length = n) :
    Wr (W.setRow g (cur.toList.take L.length ++ cellsOf S ++ cur.toList.drop (L.length + n)).toArray) B (.slice (some ⟨g, 0, none⟩) (L.length + n) cap) (L ++ S) ∧ Only W (W.setRow g (cur.toList.take L.length ++ cellsOf S ++ cur.toList.drop (L.length + n)).toArray) (fun i => i = g) := by
  subst hn
  have hsz := h.size
  have hfit := h.fit
  refine ⟨⟨?_, ⟨by simp [cellsOf], .inr ⟨g, cap, _, by simp, Nat.zero_le _, setRow_heap W g cur _ 5 (0, 0) h.row, by simpa using h.fit, h.max, ?_, ?_⟩⟩, fun a m k e => ?_⟩, ⟨rfl, rfl, rfl, by simp, fun k _ hk => setRow_other W g k _ (fun e => hk e)⟩⟩
  · exact (setRow_other W g B _ (fun e => h.ne e.symm)).trans h.blk
  · simp [cellsOf, hsz]; omega
  · rw [h.take, cellsOf_append]
    have e : (L ++ S).length * 1 = (cellsOf L ++ cellsOf S).length := by simp [cellsOf]
    rw [e]
    exact List.take_left
  · simp only [Value.slice.injEq] at e
    rw [← e.2.2]; exact h.r64
theorem Roomy.byte {W : World} {B g cap : Nat} {cur : Array Value} {L : List UInt8} (h : Roomy W B g cap cur L 1) (c : UInt8) :
    Wr (W.setCell ⟨g, L.length, none⟩ (.int .u8 (c.toNat : Int))) B (.slice (some ⟨g, 0, none⟩) (L.length + 1) cap) (L ++ [c]) := by
  have hsz := h.size
  have hfit := h.fit
  have g1 := heap_setCell_same W g L.length cur 5 (.int .u8 (c.toNat : Int)) h.row
  refine ⟨(heap_setCell_other W ⟨g, L.length, none⟩ B _ (fun e => h.ne e.symm)).trans h.blk, ⟨by simp [cellsOf], .inr ⟨g, cap, _, by simp, Nat.zero_le _, g1, by simpa using h.fit, h.max, by simpa using h.size, ?_⟩⟩, fun a m k e => ?_⟩
  · have hlt : L.length < cur.toList.length := by simp; omega
    rw [Array.toList_setIfInBounds, cellsOf_append]
    have e3 : (L ++ [c]).length * 1 = L.length + 1 := by simp
    rw [e3, List.take_succ_eq_append_getElem (by simpa using hlt), List.take_set_of_le (Nat.le_refl _), h.take]
    simp [cellsOf]
  · simp only [Value.slice.injEq] at e
    rw [← e.2.2]; exact h.r64
/-- The last operation's mark is laid anew: nothing turns. -/
theorem wr_mark {w : World} {B : Nat} {v : Value} (h : WrBlk w B v) : WrBlk (w.setCell ⟨B, 2, none⟩ (.int .i8 0)) B v := heap_setCell_same w B 2 _ _ (.int .i8 0) h
set_option maxRecDepth 10000 in
set_option maxHeartbeats 800000 in
theorem writeByte_full (c : UInt8) (B g cap : Nat) (cur : Array Value) (L : List UInt8) (w : World) (h : Roomy w B g cap cur L 0) (hl : 1 ≤ L.length) (hfull : cap < L.length + 1) (hb : cap ≤ 1073741823) :
    Calls Tryd.prog 32 #[.pointer (some ⟨B, 0, none⟩), .int .u8 (c.toNat : Int)] w fun e w' => e = .returned .nilIface ∧ ∃ v', Wr w' B v' (L ++ [c]) ∧ Only w w' (fun i => i = B) ∧ (∀ k, v'.ownBlock = some k → w.heap.size ≤ k) := by
  have hmk := wr_mark h.blk
  have hfit := h.fit
  have hgl : g < w.heap.size := (Array.getElem?_eq_some_iff.1 h.row).1
  have hg1 : (w.setCell ⟨B, 2, none⟩ (.int .i8 0)).heap[g]? = some (.cells cur 5 (0, 0)) := (heap_setCell_other w ⟨B, 2, none⟩ g _ h.ne).trans h.row
  have hG := grow_row B g L.length cap 1 cur _ hmk hg1 h.size (by omega) hl (by omega) h.r64 (by omega) (by omega) (by omega) (by rw [h.take]; intro v hv; simp [cellsOf] at hv; obtain ⟨x, _, rfl⟩ := hv; rfl)
  have hs1 : (w.setCell ⟨B, 2, none⟩ (.int .i8 0)).heap.size = w.heap.size := by simp
  rw [hs1, show ((1 : Nat) : Int) = 1 from rfl] at hG
  obtain ⟨h0, h1, h2, hf⟩ := h.blk.cells
  have hf2 := hf 2
  have HT := hid2 h.take
  have hcapm : cap ≤ 9223372036854775807 := by omega
  have hlt : B < w.heap.size := (Array.getElem?_eq_some_iff.1 h.blk).1
  clear hf hmk hg1 h hs1
  go_enter Tryd.func32, Tryd.ntmps32
  go_wp2_with (first
    | (go_at_call 38; refine hG.mono ?_; rintro e w1 ⟨rfl, cap2, cells, q1, q2, q3, q4, q5, q6, q7, q8⟩; obtain ⟨d0, d1, d2, df⟩ := q1.cells; have hR : Roomy w1 B w.heap.size cap2 cells L 1 := ⟨q1, q2, q3, q4.trans HT.out, q5, q6, q7⟩; have hx : w1.cell? ⟨w.heap.size, L.length, none⟩ = some (cells[L.length]'(by omega)) := (by rw [cell_of_row w1 w.heap.size _ _ _ _ q2]; simp); have hfz := frozen_of_row w1 w.heap.size L.length _ _ q2; have HR := hid2 hR; have HO := hid2 q8; clear hR q1 q2 q4 q8 df)
    | go_in)
  go_ret
  refine ⟨rfl, _, HR.out.byte c, ?_, fun k hk => by simp [Value.ownBlock] at hk; omega⟩
  exact ((Only.setCell w B 2 _).trans HO.out (fun i hi => .inl hi)).trans (Only.setCell w1 w.heap.size _ _) (fun i hi => .inr (by omega))
theorem writeByte_gen (c : UInt8) (B : Nat) (v : Value) (l : List UInt8) (w : World) (h : Wr w B v l) (hl : l.length < 536870912) :
    Calls Tryd.prog 32 #[.pointer (some ⟨B, 0, none⟩), .int .u8 (c.toNat : Int)] w fun e w' => e = .returned .nilIface ∧ ∃ v', Wr w' B v' (l ++ [c]) ∧ Only w w' (Wr.S B v) ∧ (∀ k, v'.ownBlock = some k → v.ownBlock = some k ∨ w.heap.size ≤ k) := by
  have h0 := h
  rcases h.own.2 with ⟨rfl, hn⟩ | ⟨g, cap, cur, rfl, _, hh, hnc, hcm, hcs, htake⟩
  · obtain rfl := List.length_eq_zero_iff.1 hn
    refine (writeByte_nil B _ w h.blk).mono ?_
    rintro e w' ⟨rfl, k, rfl⟩
    obtain ⟨q1, q2⟩ := wr_nil c k h.blk
    exact ⟨rfl, _, q1, q2.mono (fun i hi => .inl hi), fun j hj => .inr (by simp [Value.ownBlock] at hj; omega)⟩
  · have h64 := h.room _ _ _ rfl
    have hne : ¬ B = g := fun e => h.ne (by simp [Value.ownBlock, e])
    by_cases hr : l.length < cap
    · have hsz : l.length < cur.size := by omega
      refine (writeByte_room B g l.length cap _ cur[l.length] w h.blk hne (by rw [cell_of_row w g _ _ _ _ hh]; simp [hsz]) (frozen_of_row w g _ _ _ hh) (by omega) (by unfold maxLen at hcm; omega)).mono ?_
      rintro e w' ⟨rfl, rfl⟩
      refine ⟨rfl, _, wr_room c h0 (by omega), ?_, fun j hj => .inl hj⟩
      refine ((Only.setCell w B 2 _).mono (T := Wr.S B _) (fun _ h => .inl h)).trans (((Only.setCell _ B 0 _).mono (T := Wr.S B _) (fun _ h => .inl h)).trans (Only.setCell _ g _ _) (fun i hi => ?_)) (fun _ h => .inl h)
      exact .inl (.inr (by simp [Value.ownBlock, hi]))
    · refine (writeByte_full c B g cap cur l w ⟨h.blk, hh, by omega, by rw [Nat.mul_one] at htake; exact htake, by omega, h64, hcm⟩ (by omega) (by omega) (by omega)).mono ?_
      rintro e w' ⟨rfl, v', q1, q2, q3⟩
      exact ⟨rfl, v', q1, q2.mono (fun i hi => .inl hi), fun k hk => .inr (q3 k hk)⟩
set_option maxRecDepth 10000 in
set_option maxHeartbeats 400000 in
theorem wrNum_gen (N : Nat) (hN : N < 9223372036854775808) (B : Nat) (v : Value) (l : List UInt8) (w : World) (h : Wr w B v l) (hl : l.length + 10 ≤ 536870912) :
    Calls Tryd.prog 23 #[.pointer (some ⟨B, 0, none⟩), .int .i64 (N : Int)] w fun e w' => e = .returned .nilIface ∧ ∃ v', Wr w' B v' (l ++ form 9 N) ∧ Only w w' (Wr.S B v) ∧ (∀ k, v'.ownBlock = some k → v.ownBlock = some k ∨ w.heap.size ≤ k) := by
  have hneg : ¬ (N : Int) < 0 := by omega
  have HW : Hid (Wr w B v l) := h
  clear h
  go_enter Tryd.func23, Tryd.ntmps23
  go_wp2
  go_loopw [1] (fun i wr => ∃ (m f : Nat) (p : List UInt8) (u : Value), i = .int .i64 (m : Int) ∧ m < 9223372036854775808 ∧ m < 128 ^ (f + 1) ∧ p.length + f ≤ 9 ∧ p ++ form f m = form 9 N ∧
      Wr wr B u (l ++ p) ∧ Only w wr (Wr.S B v) ∧ (∀ k, u.ownBlock = some k → v.ownBlock = some k ∨ w.heap.size ≤ k)) (fun i _ => (intOf i).toNat)
  case atStart => exact ⟨N, 9, [], v, rfl, hN, by omega, by simp, rfl, by simpa using HW.out, Only.refl _ _, fun k hk => .inl hk⟩
  case round =>
    obtain ⟨m, f, p, u, rfl, hm, hf, hp, hform, hwr, honly, hnew⟩ := hrel
    have HF : Hid (p ++ form f m = form 9 N) := hform
    have HR : Hid (Wr wr B u (l ++ p)) := hwr
    have HO : Hid (Only w wr (Wr.S B v)) := honly
    have HK : Hid (∀ k, u.ownBlock = some k → v.ownBlock = some k ∨ w.heap.size ≤ k) := hnew
    by_cases hbig : m < 128
    · have hWB := writeByte_gen (UInt8.ofNat m) B u (l ++ p) wr hwr (by simp; omega)
      rw [u8_toNat _ (by omega)] at hWB
      clear hform hwr honly hnew hf
      go_wp2_with (go_at_call 32; refine hWB.mono ?_; rintro e w1 ⟨rfl, u1, hwr1, honly1, hnew1⟩)
      go_ret
      refine ⟨rfl, u1, ?_, HO.out.trans honly1 (fun i hi => ?_), fun k hk => ?_⟩
      · rw [← HF.out, form_small f m hbig, ← List.append_assoc]; exact hwr1
      · rcases hi with hi | hi
        · exact .inl (.inl hi)
        · exact (HK.out i hi).elim (fun h => .inl (.inr h)) .inr
      · rcases hnew1 k hk with h | h
        · exact HK.out k h
        · exact .inr (Nat.le_trans HO.out.size h)
    · have hWB := writeByte_gen (UInt8.ofNat (m % 128 + 128)) B u (l ++ p) wr hwr (by simp; omega)
      have ec : ((UInt8.ofNat (m % 128 + 128)).toNat : Int) = (m : Int) % 128 + 128 := by rw [u8_toNat _ (by omega)]; omega
      rw [ec] at hWB
      have e7 := low7 m hm
      have e8 := high8 m
      obtain ⟨f, rfl⟩ : ∃ f', f = f' + 1 := by
        cases f with
        | zero => simp at hf; omega
        | succ f => exact ⟨f, rfl⟩
      have HD : Hid (m / 128 < 128 ^ (f + 1)) := by
        show _ < _
        rw [Nat.div_lt_iff_lt_mul (by omega)]
        rw [Nat.pow_succ] at hf
        exact hf
      clear hform hwr honly hnew ec hf
      go_wp2_with (go_at_call 32; refine hWB.mono ?_; rintro e w1 ⟨rfl, u1, hwr1, honly1, hnew1⟩)
      go_roundw
      case rel =>
        refine ⟨m / 128, f, p ++ [UInt8.ofNat (m % 128 + 128)], u1, by go_num, by omega, HD.out, by simp; omega, ?_, ?_, HO.out.trans honly1 (fun i hi => ?_), fun k hk => ?_⟩
        · rw [← HF.out, form_big f m hbig]; simp
        · rw [← List.append_assoc]; exact hwr1
        · rcases hi with hi | hi
          · exact .inl (.inl hi)
          · exact (HK.out i hi).elim (fun h => .inl (.inr h)) .inr
        · rcases hnew1 k hk with h | h
          · exact HK.out k h
          · exact .inr (Nat.le_trans HO.out.size h)
      case measure => simp [intOf]; omega
set_option maxRecDepth 10000 in
set_option maxHeartbeats 800000 in
/-- WriteString, where there is room. -/
theorem writeString_room (s : ByteArray) (B g cap : Nat) (cur : Array Value) (L : List UInt8) (w : World) (h : Roomy w B g cap cur L 0) (hr : L.length + s.size ≤ cap) (hs : 1 ≤ s.size) :
    Calls Tryd.prog 30 #[.pointer (some ⟨B, 0, none⟩), .string s] w fun e w' => e = .returned (.tuple #[.int .i64 s.size, .nilIface]) ∧
      w' = ((w.setCell ⟨B, 2, none⟩ (.int .i8 0)).setCell ⟨B, 0, none⟩ (.slice (some ⟨g, 0, none⟩) (L.length + s.size) cap)).setRow g (cur.toList.take L.length ++ cellsOf s.data.toList ++ cur.toList.drop (L.length + s.size)).toArray := by
  have hmax := h.max
  unfold maxLen at hmax
  have hinfo : (Tryd.prog.info? 5).map (·.size) = some 1 := by kernel_rfl
  obtain ⟨h0, h1, h2, hf⟩ := h.blk.cells
  have hf0 := hf 0
  have hf2 := hf 2
  have hsz := h.size
  have hg1 : ((w.setCell ⟨B, 2, none⟩ (.int .i8 0)).setCell ⟨B, 0, none⟩ (.slice (some ⟨g, 0, none⟩) (L.length + s.size) cap)).heap[g]? = some (.cells cur 5 (0, 0)) := (heap_setCell_other _ ⟨B, 0, none⟩ g _ h.ne).trans ((heap_setCell_other w ⟨B, 2, none⟩ g _ h.ne).trans h.row)
  have hcp := Lib.run_copy_row_string (P := Tryd.prog) _ 26 9 3 5 g L.length s.size (cap - L.length) s cur 5 Tryd.underlying26 hinfo hg1 (Nat.le_refl _) (by omega)
  rw [show Lib.byteCells s.data.toList = cellsOf s.data.toList from rfl] at hcp
  rw [Nat.add_zero] at h0
  have hne : ¬ cap = L.length := by omega
  clear hf h hg1 hinfo
  go_enter Tryd.func30, Tryd.ntmps30
  go_wp2
  go_ret2
  exact ⟨rfl, by rw [List.append_assoc]⟩
set_option maxRecDepth 10000 in
set_option maxHeartbeats 800000 in
/-- WriteString, where there is none. -/
theorem writeString_full (s : ByteArray) (B g cap : Nat) (cur : Array Value) (L : List UInt8) (w : World) (h : Roomy w B g cap cur L 0) (hl : 1 ≤ L.length) (hfull : cap < L.length + s.size) (hb : L.length + s.size ≤ 1073741823) :
    Calls Tryd.prog 30 #[.pointer (some ⟨B, 0, none⟩), .string s] w fun e w' => e = .returned (.tuple #[.int .i64 s.size, .nilIface]) ∧ ∃ v', Wr w' B v' (L ++ s.data.toList) ∧ Only w w' (fun i => i = B) ∧ (∀ k, v'.ownBlock = some k → w.heap.size ≤ k) := by
  have hmk := wr_mark h.blk
  have hfit := h.fit
  have hinfo : (Tryd.prog.info? 5).map (·.size) = some 1 := by kernel_rfl
  have hg1 : (w.setCell ⟨B, 2, none⟩ (.int .i8 0)).heap[g]? = some (.cells cur 5 (0, 0)) := (heap_setCell_other w ⟨B, 2, none⟩ g _ h.ne).trans h.row
  have hG := grow_row B g L.length cap s.size cur _ hmk hg1 h.size (by omega) hl (by omega) h.r64 (by omega) (by omega) (by omega) (by rw [h.take]; intro v hv; simp [cellsOf] at hv; obtain ⟨x, _, rfl⟩ := hv; rfl)
  have hs1 : (w.setCell ⟨B, 2, none⟩ (.int .i8 0)).heap.size = w.heap.size := by simp
  rw [hs1] at hG
  obtain ⟨h0, h1, h2, hf⟩ := h.blk.cells
  have hf2 := hf 2
  have HT := hid2 h.take
  have hcapm : cap ≤ 9223372036854775807 := by omega
  have hlt : B < w.heap.size := (Array.getElem?_eq_some_iff.1 h.blk).1
  have hcp := fun W cap2 cells (q2 : W.heap[w.heap.size]? = some (.cells cells 5 (0, 0))) (hf : L.length + s.size ≤ cells.size) => Lib.run_copy_row_string (P := Tryd.prog) W 26 9 3 5 w.heap.size L.length s.size (cap2 - L.length) s cells 5 Tryd.underlying26 hinfo q2 (Nat.le_refl _) hf
  rw [Nat.add_zero] at h0
  have HC := hid2 hcp
  clear hf hmk hg1 h hs1 hinfo hcp
  go_enter Tryd.func30, Tryd.ntmps30
  go_wp2_with (first
    | (go_at_call 38; refine hG.mono ?_; rintro e w1 ⟨rfl, cap2, cells, q1, q2, q3, q4, q5, q6, q7, q8⟩; obtain ⟨d0, d1, d2, df⟩ := q1.cells; have hR : Roomy w1 B w.heap.size cap2 cells L s.size := ⟨q1, q2, q3, q4.trans HT.out, q5, q6, q7⟩; have hcp := HC.out w1 cap2 cells q2 (by omega); rw [show Lib.byteCells s.data.toList = cellsOf s.data.toList from rfl] at hcp; have hmax2 : cap2 ≤ 9223372036854775807 := q7; have hne2 : ¬ cap2 = L.length := (by omega); have HR := hid2 hR; have HO := hid2 q8; clear hR q1 q2 q4 q8 df)
    | go_in)
  go_ret2
  obtain ⟨r1, r2⟩ := HR.out.str (S := s.data.toList) (by simp)
  rw [List.append_assoc] at r1 r2
  refine ⟨rfl, _, r1, ?_, fun k hk => by simp [Value.ownBlock] at hk; omega⟩
  exact ((Only.setCell w B 2 _).trans HO.out (fun i hi => .inl hi)).trans r2 (fun i hi => .inr (by omega))
set_option maxRecDepth 10000 in
set_option maxHeartbeats 800000 in
/-- WriteString of nothing. -/
theorem writeString_none (s : ByteArray) (B g cap : Nat) (cur : Array Value) (L : List UInt8) (w : World) (h : Roomy w B g cap cur L 0) (hs : s.size = 0) :
    Calls Tryd.prog 30 #[.pointer (some ⟨B, 0, none⟩), .string s] w fun e w' => e = .returned (.tuple #[.int .i64 0, .nilIface]) ∧
      w' = (w.setCell ⟨B, 2, none⟩ (.int .i8 0)).setCell ⟨B, 0, none⟩ (.slice (some ⟨g, 0, none⟩) L.length cap) := by
  have hmax := h.max
  unfold maxLen at hmax
  have hfit := h.fit
  have hinfo : (Tryd.prog.info? 5).map (·.size) = some 1 := by kernel_rfl
  obtain ⟨h0, h1, h2, hf⟩ := h.blk.cells
  have hf0 := hf 0
  have hf2 := hf 2
  have hcp : ∀ d dLen dCap W, (Builtin.copy_ #[26, 9] 3 #[.slice d dLen dCap, .string s]).run Tryd.prog W = .ok (goInt 0) W := fun d dLen dCap W => Lib.run_copy_empty_string W 26 9 3 5 d dLen dCap s Tryd.underlying26 (by rw [hinfo]; rfl) hs
  rw [Nat.add_zero] at h0
  clear hf h hinfo
  by_cases hne : cap = L.length
  · subst hne
    go_enter Tryd.func30, Tryd.ntmps30
    go_wp2
    go_ret2
    exact ⟨rfl, rfl⟩
  · go_enter Tryd.func30, Tryd.ntmps30
    go_wp2
    go_ret2
    exact ⟨rfl, rfl⟩
end Go.Proofs.YtnclpcnpaodjjaaDoor
