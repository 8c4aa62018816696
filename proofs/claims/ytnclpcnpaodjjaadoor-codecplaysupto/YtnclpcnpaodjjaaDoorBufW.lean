/-
  The walks of codec.NewWriter, (*bytes.Buffer).WriteByte, (*codec.Writer).Num, (*codec.Writer).Bytes.
-/
import Derived.Test.YtnclpcnpaodjjaaDoorOnlyW
namespace Go.Proofs.YtnclpcnpaodjjaaDoor
open Go.RowKit
/-- A writer's block: the buffer's slice, its offset 0, its last operation none. -/
def WrBlk (w : World) (B : Nat) (v : Value) : Prop := w.heap[B]? = some (.cells #[v, .int .i64 0, .int .i8 0] 73 (0, 0))
theorem WrBlk.cells {w : World} {B : Nat} {v : Value} (h : WrBlk w B v) : w.cell? ⟨B, 0, none⟩ = some v ∧ w.cell? ⟨B, 1, none⟩ = some (.int .i64 0) ∧ w.cell? ⟨B, 2, none⟩ = some (.int .i8 0) ∧ (∀ k, w.frozen? ⟨B, k, none⟩ = false) := by
  refine ⟨?_, ?_, ?_, fun k => frozen_of_row w B k _ _ h⟩
  all_goals (rw [cell_of_row w B _ _ _ _ h]; rfl)
set_option maxRecDepth 10000 in
set_option maxHeartbeats 400000 in
theorem writeByte_room (B g n cap : Nat) (c : Int) (x : Value) (w : World) (hB : WrBlk w B (.slice (some ⟨g, 0, none⟩) n cap)) (hne : ¬ B = g) (hx : w.cell? ⟨g, n, none⟩ = some x) (hfz : w.frozen? ⟨g, n, none⟩ = false) (hn : n < cap) (hcap : cap ≤ 9223372036854775807) :
    Calls Tryd.prog 32 #[.pointer (some ⟨B, 0, none⟩), .int .u8 c] w fun e w' => e = .returned .nilIface ∧
      w' = ((w.setCell ⟨B, 2, none⟩ (.int .i8 0)).setCell ⟨B, 0, none⟩ (.slice (some ⟨g, 0, none⟩) (n + 1) cap)).setCell ⟨g, n, none⟩ (.int .u8 c) := by
  obtain ⟨h0, h1, h2, hf⟩ := hB.cells
  have hf0 := hf 0
  have hf2 := hf 2
  clear hf hB
  have hne' : ¬ g = B := fun e => hne e.symm
  go_enter Tryd.func32, Tryd.ntmps32
  go_wp2
  go_ret
  exact ⟨rfl, rfl⟩
set_option maxRecDepth 10000 in
theorem bufLen_any (B : Nat) (v : Value) (a : Option Addr) (n cap : Nat) (hv : v = .slice a n cap) (w : World) (hB : WrBlk w B v) (hn : n ≤ 9223372036854775807) :
    Calls Tryd.prog 40 #[.pointer (some ⟨B, 0, none⟩)] w fun e w' => e = .returned (.int .i64 n) ∧ ∃ k, w' = w.drewN k := by
  subst hv
  obtain ⟨h0, h1, h2, hf⟩ := hB.cells
  clear hf hB h2
  go_enter Tryd.func40, Tryd.ntmps40
  go_wp2
  go_quiet ((fail))
  go_wp2
  go_ret
  exact ⟨rfl, _, rfl⟩
theorem WrBlk.drewN {w : World} {B : Nat} {v : Value} (h : WrBlk w B v) (k : Nat) : WrBlk (w.drewN k) B v := h
def zeros64 : Array Value := Array.replicate 64 (.int .u8 0)
set_option maxRecDepth 10000 in
set_option maxHeartbeats 400000 in
theorem grow1_nil (B : Nat) (w : World) (hB : WrBlk w B (.slice none 0 0)) :
    Calls Tryd.prog 38 #[.pointer (some ⟨B, 0, none⟩), .int .i64 1] w fun e w' => e = .returned (.int .i64 0) ∧ ∃ k,
      w' = ((w.drewN k).alloc (.cells zeros64 5)).setCell ⟨B, 0, none⟩ (.slice (some ⟨w.heap.size, 0, none⟩) 1 64) := by
  have hLen := bufLen_any B _ none 0 0 rfl w hB (by omega)
  obtain ⟨h0, h1, h2, hf⟩ := hB.cells
  have hf0 := hf 0
  have hlt : B < w.heap.size := (Array.getElem?_eq_some_iff.1 hB).1
  have q25 : ∀ (w : World) (a : Option Addr) (n c : Nat), (binOp .eql 26 (.slice a n c) (.slice none 0 0)).run Tryd.prog w = .ok (.bool a.isNone) w := fun w a n c => Lib.run_eql_slice_nil w _ _ a n c 0 0 Tryd.underlying26
  have hmk : ∀ w : World, (Instr.makeSlice 26 (.int .i64 1) (.int .i64 64)).run Tryd.prog w = .ok (.slice (some ⟨w.heap.size, 0, none⟩) 1 64) (w.alloc (.cells zeros64 5)) := fun _ => by kernel_rfl
  have c0a : ∀ k o, ((w.drewN k).alloc o).cell? ⟨B, 0, none⟩ = some (.slice none 0 0) := fun k o => (World.cell?_of_block (w := w) (a := ⟨B, 0, none⟩) (Below.heap_alloc (w.drewN k) o B hlt)).trans h0
  have f0a : ∀ k o, ((w.drewN k).alloc o).frozen? ⟨B, 0, none⟩ = false := fun k o => (World.frozen?_of_block (w := w) (a := ⟨B, 0, none⟩) (Below.heap_alloc (w.drewN k) o B hlt)).trans hf0
  clear hf hB
  go_enter Tryd.func38, Tryd.ntmps38
  go_wp2_with (first
    | (go_at_call 40; refine hLen.mono ?_; rintro e w1 ⟨rfl, k1, rfl⟩)
    | go_in)
  go_ret
  exact ⟨rfl, _, rfl⟩
/-- A writer: its block, its bytes; a buffer that is there has room for 64 at least. -/
structure Wr (w : World) (B : Nat) (v : Value) (l : List UInt8) : Prop where
  blk : WrBlk w B v
  own : Own w 0 v l
  room : ∀ a n c, v = .slice (some a) n c → 64 ≤ c
/-- What a call on a writer may turn. -/
def Wr.S (B : Nat) (v : Value) (k : Nat) : Prop := k = B ∨ v.ownBlock = some k
theorem Wr.lt {w : World} {B : Nat} {v : Value} {l : List UInt8} (h : Wr w B v l) : B < w.heap.size := (Array.getElem?_eq_some_iff.1 h.blk).1
theorem Wr.ne {w : World} {B : Nat} {v : Value} {l : List UInt8} (h : Wr w B v l) : ¬ v.ownBlock = some B := by
  intro hk
  rcases h.own.2 with ⟨rfl, _⟩ | ⟨g, cap, cur, rfl, _, hh, _⟩
  · simp [Value.ownBlock] at hk
  · simp [Value.ownBlock] at hk
    subst hk
    have := h.blk
    unfold WrBlk at this
    rw [hh] at this
    simp at this
theorem Wr.only {w w' : World} {B : Nat} {v : Value} {l : List UInt8} {S : Nat → Prop} (h : Wr w B v l) (ho : Only w w' S) (h1 : ¬ S B) (h2 : ∀ k, v.ownBlock = some k → ¬ S k) : Wr w' B v l :=
  ⟨(ho.block B h.lt h1).trans h.blk, ho.own h.own h2, h.room⟩
theorem own_made (w : World) (c : UInt8) : ((w.alloc (.cells zeros64 5)).setCell ⟨w.heap.size, 0, none⟩ (.int .u8 (c.toNat : Int))).heap[w.heap.size]? = some (.cells (zeros64.setIfInBounds 0 (.int .u8 (c.toNat : Int))) 5 (0, 0)) :=
  heap_setCell_same _ _ _ _ _ _ (heap_alloc_new w _)
/-- What the bytes written so far are, one more. -/
theorem wr_room {w : World} {B g n cap : Nat} {l : List UInt8} (c : UInt8) (h : Wr w B (.slice (some ⟨g, 0, none⟩) n cap) l) (hn : n < cap) :
    Wr (((w.setCell ⟨B, 2, none⟩ (.int .i8 0)).setCell ⟨B, 0, none⟩ (.slice (some ⟨g, 0, none⟩) (n + 1) cap)).setCell ⟨g, n, none⟩ (.int .u8 (c.toNat : Int))) B (.slice (some ⟨g, 0, none⟩) (n + 1) cap) (l ++ [c]) := by
  have hne : ¬ g = B := fun e => h.ne (by simp [Value.ownBlock, e])
  have hb := h.blk
  rcases h.own.2 with ⟨h', _⟩ | ⟨g', cap', cur, h', _, hh, hnc, hcm, hcs, htake⟩
  · simp at h'
  simp only [Value.slice.injEq, Option.some.injEq, Addr.mk.injEq, and_true] at h'
  obtain ⟨rfl, rfl, rfl⟩ := h'
  have b1 := heap_setCell_same w B 2 _ _ (.int .i8 0) hb
  have b2 := heap_setCell_same _ B 0 _ _ (.slice (some ⟨g, 0, none⟩) (l.length + 1) cap) b1
  have b3 := (heap_setCell_other ((w.setCell ⟨B, 2, none⟩ (.int .i8 0)).setCell ⟨B, 0, none⟩ (.slice (some ⟨g, 0, none⟩) (l.length + 1) cap)) ⟨g, l.length, none⟩ B (.int .u8 (c.toNat : Int)) (fun e => hne e.symm)).trans b2
  have g1 := (heap_setCell_other w ⟨B, 2, none⟩ g (.int .i8 0) hne).trans hh
  have g2 := (heap_setCell_other _ ⟨B, 0, none⟩ g (.slice (some ⟨g, 0, none⟩) (l.length + 1) cap) hne).trans g1
  have g3 := heap_setCell_same _ g l.length _ _ (.int .u8 (c.toNat : Int)) g2
  refine ⟨b3, ⟨?_, .inr ⟨g, cap, _, ?_, Nat.zero_le _, g3, ?_, hcm, ?_, ?_⟩⟩, fun a m k e => ?_⟩
  · simp [cellsOf]
  · simp
  · simp; omega
  · simpa using hcs
  · have hsz : l.length < cur.toList.length := by simp; omega
    have e2 : cellsOf (l ++ [c]) = cellsOf l ++ [.int .u8 (c.toNat : Int)] := by simp [cellsOf]
    rw [Array.toList_setIfInBounds, e2]
    have e3 : (l ++ [c]).length * 1 = l.length + 1 := by simp
    rw [e3, List.take_succ_eq_append_getElem (by simpa using hsz)]
    rw [List.take_set_of_le (Nat.le_refl _)]
    simp only [Nat.mul_one] at htake
    rw [htake]
    simp
  · simp only [Value.slice.injEq, Option.some.injEq] at e
    exact h.room ⟨g, 0, none⟩ l.length k (by rw [e.2.2])
set_option maxRecDepth 10000 in
set_option maxHeartbeats 400000 in
theorem writeByte_nil (B : Nat) (c : Int) (w : World) (hB : WrBlk w B (.slice none 0 0)) :
    Calls Tryd.prog 32 #[.pointer (some ⟨B, 0, none⟩), .int .u8 c] w fun e w' => e = .returned .nilIface ∧ ∃ k,
      w' = (((w.setCell ⟨B, 2, none⟩ (.int .i8 0)).drewN k).setCell ⟨B, 0, none⟩ (.slice (some ⟨w.heap.size, 0, none⟩) 1 64)).alloc (.cells (zeros64.setIfInBounds 0 (.int .u8 c)) 5) := by
  obtain ⟨h0, h1, h2, hf⟩ := hB.cells
  have hf2 := hf 2
  have hlt : B < w.heap.size := (Array.getElem?_eq_some_iff.1 hB).1
  have hB1 : WrBlk (w.setCell ⟨B, 2, none⟩ (.int .i8 0)) B (.slice none 0 0) := heap_setCell_same w B 2 _ _ (.int .i8 0) hB
  have hG := grow1_nil B _ hB1
  have hs1 : (w.setCell ⟨B, 2, none⟩ (.int .i8 0)).heap.size = w.heap.size := by simp
  rw [hs1] at hG
  have HS : Hid ((w.setCell ⟨B, 2, none⟩ (.int .i8 0)).heap.size = w.heap.size) := hs1
  have hX : ∀ k, ((((w.setCell ⟨B, 2, none⟩ (.int .i8 0)).drewN k).alloc (.cells zeros64 5)).setCell ⟨B, 0, none⟩ (.slice (some ⟨w.heap.size, 0, none⟩) 1 64)).cell? ⟨B, 0, none⟩ = some (.slice (some ⟨w.heap.size, 0, none⟩) 1 64) ∧
      ((((w.setCell ⟨B, 2, none⟩ (.int .i8 0)).drewN k).alloc (.cells zeros64 5)).setCell ⟨B, 0, none⟩ (.slice (some ⟨w.heap.size, 0, none⟩) 1 64)).cell? ⟨w.heap.size, 0, none⟩ = some (.int .u8 0) ∧
      ((((w.setCell ⟨B, 2, none⟩ (.int .i8 0)).drewN k).alloc (.cells zeros64 5)).setCell ⟨B, 0, none⟩ (.slice (some ⟨w.heap.size, 0, none⟩) 1 64)).frozen? ⟨w.heap.size, 0, none⟩ = false := by
    intro k
    have a1 : (((w.setCell ⟨B, 2, none⟩ (.int .i8 0)).drewN k).alloc (.cells zeros64 5)).heap[B]? = _ := (Below.heap_alloc ((w.setCell ⟨B, 2, none⟩ (.int .i8 0)).drewN k) _ B (by rw [← hs1] at hlt; exact hlt)).trans hB1
    have a2 := heap_setCell_same _ B 0 _ _ (.slice (some ⟨w.heap.size, 0, none⟩) 1 64) a1
    have n1 : (((w.setCell ⟨B, 2, none⟩ (.int .i8 0)).drewN k).alloc (.cells zeros64 5)).heap[w.heap.size]? = some (.cells zeros64 5 (0, 0)) := by
      have := heap_alloc_new ((w.setCell ⟨B, 2, none⟩ (.int .i8 0)).drewN k) (.cells zeros64 5)
      rw [show ((w.setCell ⟨B, 2, none⟩ (.int .i8 0)).drewN k).heap.size = w.heap.size from hs1] at this
      exact this
    have n2 := (heap_setCell_other _ ⟨B, 0, none⟩ w.heap.size (.slice (some ⟨w.heap.size, 0, none⟩) 1 64) (by show ¬ w.heap.size = B; omega)).trans n1
    refine ⟨?_, ?_, frozen_of_row _ _ 0 _ _ n2⟩
    · rw [cell_of_row _ B 0 _ _ _ a2]; rfl
    · rw [cell_of_row _ w.heap.size 0 _ _ _ n2]; rfl
  clear hf hB hB1 hs1
  go_enter Tryd.func32, Tryd.ntmps32
  go_wp2_with (first
    | (go_at_call 38; refine hG.mono ?_; rintro e w1 ⟨rfl, k1, rfl⟩; obtain ⟨x0, x1, x2⟩ := hX k1; clear hX)
    | go_in)
  go_ret
  exact ⟨rfl, _, rfl⟩
theorem wr_nil {w : World} {B : Nat} (c : UInt8) (k : Nat) (h : WrBlk w B (.slice none 0 0)) :
    Wr ((((w.setCell ⟨B, 2, none⟩ (.int .i8 0)).drewN k).setCell ⟨B, 0, none⟩ (.slice (some ⟨w.heap.size, 0, none⟩) 1 64)).alloc (.cells (zeros64.setIfInBounds 0 (.int .u8 (c.toNat : Int))) 5)) B (.slice (some ⟨w.heap.size, 0, none⟩) 1 64) [c] ∧
      Only w ((((w.setCell ⟨B, 2, none⟩ (.int .i8 0)).drewN k).setCell ⟨B, 0, none⟩ (.slice (some ⟨w.heap.size, 0, none⟩) 1 64)).alloc (.cells (zeros64.setIfInBounds 0 (.int .u8 (c.toNat : Int))) 5)) (fun i => i = B) := by
  have hlt : B < w.heap.size := (Array.getElem?_eq_some_iff.1 h).1
  have b1 := heap_setCell_same w B 2 _ _ (.int .i8 0) h
  have b2 := heap_setCell_same ((w.setCell ⟨B, 2, none⟩ (.int .i8 0)).drewN k) B 0 _ _ (.slice (some ⟨w.heap.size, 0, none⟩) 1 64) b1
  have hsz : (((w.setCell ⟨B, 2, none⟩ (.int .i8 0)).drewN k).setCell ⟨B, 0, none⟩ (.slice (some ⟨w.heap.size, 0, none⟩) 1 64)).heap.size = w.heap.size := by simp
  have n1 := heap_alloc_new (((w.setCell ⟨B, 2, none⟩ (.int .i8 0)).drewN k).setCell ⟨B, 0, none⟩ (.slice (some ⟨w.heap.size, 0, none⟩) 1 64)) (.cells (zeros64.setIfInBounds 0 (.int .u8 (c.toNat : Int))) 5)
  rw [hsz] at n1
  refine ⟨⟨(Below.heap_alloc _ _ B (by rw [hsz]; exact hlt)).trans b2, ⟨by simp [cellsOf], .inr ⟨w.heap.size, 64, _, rfl, Nat.zero_le _, n1, by simp, by unfold maxLen; omega, ?_, ?_⟩⟩, fun a n k e => ?_⟩, ?_⟩
  · simp [zeros64]
  · simp [zeros64, cellsOf, List.replicate_succ]
  · simp only [Value.slice.injEq] at e; omega
  · refine ((Only.setCell w B 2 _).trans ((Only.drewN _ k (fun i => i = B)).trans ((Only.setCell _ B 0 _).trans (Only.alloc _ _ (fun _ => False)) (fun _ h => h.elim)) (fun _ h => .inl h)) (fun _ h => .inl h))
theorem writeByte_any (c : UInt8) (B : Nat) (v : Value) (l : List UInt8) (w : World) (h : Wr w B v l) (hl : l.length < 64) :
    Calls Tryd.prog 32 #[.pointer (some ⟨B, 0, none⟩), .int .u8 (c.toNat : Int)] w fun e w' => e = .returned .nilIface ∧ ∃ v', Wr w' B v' (l ++ [c]) ∧ Only w w' (Wr.S B v) ∧ (∀ k, v'.ownBlock = some k → v.ownBlock = some k ∨ w.heap.size ≤ k) := by
  have h0 := h
  rcases h.own.2 with ⟨rfl, hn⟩ | ⟨g, cap, cur, rfl, _, hh, hnc, hcm, hcs, htake⟩
  · obtain rfl := List.length_eq_zero_iff.1 hn
    refine (writeByte_nil B _ w h.blk).mono ?_
    rintro e w' ⟨rfl, k, rfl⟩
    obtain ⟨q1, q2⟩ := wr_nil c k h.blk
    exact ⟨rfl, _, q1, q2.mono (fun i hi => .inl hi), fun j hj => .inr (by simp [Value.ownBlock] at hj; omega)⟩
  · have h64 := h.room _ _ _ rfl
    have hne : ¬ B = g := fun e => h.ne (by simp [Value.ownBlock, e])
    have hsz : l.length < cur.size := by omega
    refine (writeByte_room B g l.length cap _ cur[l.length] w h.blk hne (by rw [cell_of_row w g _ _ _ _ hh]; simp [hsz]) (frozen_of_row w g _ _ _ hh) (by omega) (by unfold maxLen at hcm; omega)).mono ?_
    rintro e w' ⟨rfl, rfl⟩
    refine ⟨rfl, _, wr_room c h0 (by omega), ?_, fun j hj => .inl hj⟩
    refine ((Only.setCell w B 2 _).mono (T := Wr.S B _) (fun _ h => .inl h)).trans (((Only.setCell _ B 0 _).mono (T := Wr.S B _) (fun _ h => .inl h)).trans (Only.setCell _ g _ _) (fun i hi => ?_)) (fun _ h => .inl h)
    exact .inl (.inr (by simp [Value.ownBlock, hi]))
end Go.Proofs.YtnclpcnpaodjjaaDoor
