/-
  The walk of propfile.readClaim.
-/
import Derived.Test.YthdmhelgmejicaaGreatDoorPfRcW
namespace Go.Proofs.YthdmhelgmejicaaGreatDoor
open Go.RowKit Go.Shelf
/-- While a line is read. -/
structure Rc (w wr : World) (lo hi : Int) (nm : ByteArray) (s : ByteArray) : Prop where
  c : wr.heap[w.heap.size]? = some (.cells #[.int .i64 lo, .int .i64 hi, .string nm] 88 (0, 0))
  e : wr.heap[w.heap.size + 1]? = some (.cells #[.nilIface] 27 (0, 0))
  r : Rdr wr (w.heap.size + 2) s
  bel : Below w.heap.size w wr
theorem Rc.cells {w wr : World} {lo hi : Int} {nm s : ByteArray} (h : Rc w wr lo hi nm s) : wr.cell? ⟨w.heap.size, 0, none⟩ = some (.int .i64 lo) ∧ wr.cell? ⟨w.heap.size, 1, none⟩ = some (.int .i64 hi) ∧ wr.cell? ⟨w.heap.size, 2, none⟩ = some (.string nm) ∧ wr.cell? ⟨w.heap.size + 1, 0, none⟩ = some .nilIface ∧ (∀ k, wr.frozen? ⟨w.heap.size, k, none⟩ = false) ∧ wr.frozen? ⟨w.heap.size + 1, 0, none⟩ = false :=
  ⟨by rw [cell_of_row _ _ _ _ _ _ h.c]; rfl, by rw [cell_of_row _ _ _ _ _ _ h.c]; rfl, by rw [cell_of_row _ _ _ _ _ _ h.c]; rfl, by rw [cell_of_row _ _ _ _ _ _ h.e]; rfl, fun k => frozen_of_row _ _ _ _ _ h.c, frozen_of_row _ _ _ _ _ h.e⟩
theorem Rc.start (w : World) (s : ByteArray) : Rc w (((w.alloc (.cells #[.int .i64 0, .int .i64 0, .string ⟨#[]⟩] 88)).alloc (.cells #[.nilIface] 27)).alloc (.cells #[.string s] 124)) 0 0 ⟨#[]⟩ s := by
  refine ⟨?_, ?_, ⟨?_⟩, ?_⟩
  · rw [Below.heap_alloc _ _ _ (by simp; omega), Below.heap_alloc _ _ _ (by simp)]; exact heap_alloc_new w _
  · rw [Below.heap_alloc _ _ _ (by simp)]; have := heap_alloc_new (w.alloc (.cells #[.int .i64 0, .int .i64 0, .string ⟨#[]⟩] 88)) (.cells #[.nilIface] 27); simpa using this
  · have := heap_alloc_new ((w.alloc (.cells #[.int .i64 0, .int .i64 0, .string ⟨#[]⟩] 88)).alloc (.cells #[.nilIface] 27)) (.cells #[.string s] 124); simpa using this
  · exact (((Below.refl _ _).alloc (Nat.le_refl _) _).alloc (by simp) _).alloc (by simp; omega) _
theorem Rc.step {w wr w' : World} {lo hi : Int} {nm s s' : ByteArray} (h : Rc w wr lo hi nm s) (ho : Only wr w' (fun i => i = w.heap.size + 2)) (hr : Rdr w' (w.heap.size + 2) s') : Rc w w' lo hi nm s' :=
  ⟨(ho.block _ (Array.getElem?_eq_some_iff.1 h.c).1 (by omega)).trans h.c, (ho.block _ (Array.getElem?_eq_some_iff.1 h.e).1 (by omega)).trans h.e, hr, h.bel.trans (ho.below h.bel.size (fun i hi => by omega))⟩
theorem Rc.setLo {w wr : World} {lo hi : Int} {nm s : ByteArray} (h : Rc w wr lo hi nm s) (x : Int) : Rc w (wr.setCell ⟨w.heap.size, 0, none⟩ (.int .i64 x)) x hi nm s :=
  ⟨heap_setCell_same wr w.heap.size 0 _ _ _ h.c, (heap_setCell_other wr ⟨w.heap.size, 0, none⟩ _ _ (by simp)).trans h.e, ⟨(heap_setCell_other wr ⟨w.heap.size, 0, none⟩ _ _ (by simp)).trans h.r.blk⟩, h.bel.trans ((Only.setCell wr w.heap.size 0 _).below h.bel.size (fun i hi => by omega))⟩
theorem Rc.setHi {w wr : World} {lo hi : Int} {nm s : ByteArray} (h : Rc w wr lo hi nm s) (x : Int) : Rc w (wr.setCell ⟨w.heap.size, 1, none⟩ (.int .i64 x)) lo x nm s :=
  ⟨heap_setCell_same wr w.heap.size 1 _ _ _ h.c, (heap_setCell_other wr ⟨w.heap.size, 1, none⟩ _ _ (by simp)).trans h.e, ⟨(heap_setCell_other wr ⟨w.heap.size, 1, none⟩ _ _ (by simp)).trans h.r.blk⟩, h.bel.trans ((Only.setCell wr w.heap.size 1 _).below h.bel.size (fun i hi => by omega))⟩
theorem Rc.setNm {w wr : World} {lo hi : Int} {nm s : ByteArray} (h : Rc w wr lo hi nm s) (x : ByteArray) : Rc w (wr.setCell ⟨w.heap.size, 2, none⟩ (.string x)) lo hi x s :=
  ⟨heap_setCell_same wr w.heap.size 2 _ _ _ h.c, (heap_setCell_other wr ⟨w.heap.size, 2, none⟩ _ _ (by simp)).trans h.e, ⟨(heap_setCell_other wr ⟨w.heap.size, 2, none⟩ _ _ (by simp)).trans h.r.blk⟩, h.bel.trans ((Only.setCell wr w.heap.size 2 _).below h.bel.size (fun i hi => by omega))⟩
/-- The same, whatever the reader has left. -/
structure RcB (w wr : World) (lo hi : Int) (nm : ByteArray) : Prop where
  c : wr.heap[w.heap.size]? = some (.cells #[.int .i64 lo, .int .i64 hi, .string nm] 88 (0, 0))
  e : wr.heap[w.heap.size + 1]? = some (.cells #[.nilIface] 27 (0, 0))
  bel : Below w.heap.size w wr
theorem Rc.off {w wr w' : World} {lo hi : Int} {nm s : ByteArray} (h : Rc w wr lo hi nm s) (ho : Only wr w' (fun i => i = w.heap.size + 2)) : RcB w w' lo hi nm :=
  ⟨(ho.block _ (Array.getElem?_eq_some_iff.1 h.c).1 (by omega)).trans h.c, (ho.block _ (Array.getElem?_eq_some_iff.1 h.e).1 (by omega)).trans h.e, h.bel.trans (ho.below h.bel.size (fun i hi => by omega))⟩
theorem Rc.b {w wr : World} {lo hi : Int} {nm s : ByteArray} (h : Rc w wr lo hi nm s) : RcB w wr lo hi nm := ⟨h.c, h.e, h.bel⟩
/-- What readClaim answers. -/
def claimVal (lo hi : Int) (nm : ByteArray) : Value := .agg #[.int .i64 lo, .int .i64 hi, .string nm]
theorem RcB.gave {w wr : World} {lo hi : Int} {nm : ByteArray} (h : RcB w wr lo hi nm) (pt : Addr) (hT : w.cell? ⟨2, 0, none⟩ = some (.iface 236 (.pointer (some pt)))) :
    CallsD Tryz.prog 77 #[.pointer (some ⟨w.heap.size, 0, none⟩), .pointer (some ⟨w.heap.size + 1, 0, none⟩)] (.panicking [{ v := .iface 122 (.agg #[]), recovered := false }]) wr fun e u' w' => e = .returned (.tuple #[]) ∧ u' = .panicking [{ v := .iface 122 (.agg #[]), recovered := true }] ∧
      (w'.cell? ⟨w.heap.size, 0, none⟩ = some (.int .i64 0) ∧ w'.cell? ⟨w.heap.size, 1, none⟩ = some (.int .i64 0) ∧ w'.cell? ⟨w.heap.size, 2, none⟩ = some (.string ⟨#[]⟩) ∧ w'.cell? ⟨w.heap.size + 1, 0, none⟩ = some (.iface 236 (.pointer (some pt)))) ∧ Below w.heap.size w w' := by
  refine (catch_gave w.heap.size (w.heap.size + 1) _ _ _ _ pt wr h.c h.e ((h.bel.cell (p := ⟨2, 0, none⟩) (World.block_lt_of_cell? w _ hT)).trans hT) (by omega)).mono ?_
  rintro e u' w' ⟨rfl, rfl, h1, h2, h3⟩
  exact ⟨rfl, rfl, ⟨by rw [cell_of_row _ _ _ _ _ _ h1]; rfl, by rw [cell_of_row _ _ _ _ _ _ h1]; rfl, by rw [cell_of_row _ _ _ _ _ _ h1]; rfl, by rw [cell_of_row _ _ _ _ _ _ h2]; rfl⟩, h.bel.trans (h3.below h.bel.size (fun i hi => by omega))⟩
set_option maxRecDepth 10000 in
set_option maxHeartbeats 800000 in
theorem readClaim_p1 (s : ByteArray) (hs : s.size ≤ 4194400) (pt : Addr) (w : World) (hT : w.cell? ⟨2, 0, none⟩ = some (.iface 236 (.pointer (some pt)))) (h1 : ptOk s.data.toList = false) :
    Calls Tryz.prog 46 #[.string s] w fun e w' => e = .returned (.tuple #[claimVal 0 0 ⟨#[]⟩, .iface 236 (.pointer (some pt))]) ∧ Below w.heap.size w w' := by
  have hmf : ∀ (fn : Fn) (first cap : Array Value) (w : World), (Instr.makeFunc fn first cap).run Tryz.prog w = .ok (.func fn first cap) w := fun _ _ _ _ => rfl
  have HS := hid0 (Rc.start w s)
  have HT := hid0 hT
  have HP := hid0 (fun W (h : Rdr W (w.heap.size + 2) s) => point_no s hs h1 (w.heap.size + 2) W h)
  clear hT h1 hs
  go_enter_defers Tryz.func46, Tryz.ntmps46
  go_wp2_with (go_at_call 78; refine (HP.out _ HS.out.r).mono ?_; rintro e w1 ⟨rfl, ho1⟩; have HO1 := hid0 ho1; clear ho1)
  refine leaves_cons (f := 77) (args := #[.pointer (some ⟨w.heap.size, 0, none⟩), .pointer (some ⟨w.heap.size + 1, 0, none⟩)]) (by simp) (by simp [go_sem]) ?_
  refine ((HS.out.off HO1.out).gave pt HT.out).mono ?_
  rintro e u' w'' ⟨rfl, rfl, ⟨k0, k1, k2, k3⟩, hb⟩
  simp [Leaves, settle, results, Tryz.results46, go_sem, k0, k1, k2, k3, claimVal, hb]
end Go.Proofs.YthdmhelgmejicaaGreatDoor
