/-
  The walk of caesurakit.OverSet.
-/
import Derived.Test.YtiebndgpbgiclaaEh4W
namespace Go.Proofs.Ytiebndgpbgiclaa
open Go.RowKit Go.Shelf
theorem ownS_sa {w : World} {lo g n cap : Nat} {L : List ByteArray} (h : OwnS w lo (.slice (some ⟨g, 0, none⟩) n cap) L) : SA w (some ⟨g, 0, none⟩) L := by
  obtain ⟨a, c, e, hs, _⟩ := h.sa
  injection e with e1 _ _
  rw [e1]
  exact hs
theorem ownR_ra {w : World} {lo g n cap : Nat} {R : List (Int × Int)} (h : OwnR w lo (.slice (some ⟨g, 0, none⟩) n cap) R) : RA w (some ⟨g, 0, none⟩) R := by
  obtain ⟨a, c, e, hs⟩ := h.ra
  injection e with e1 _ _
  rw [e1]
  exact hs
theorem ownS_row {w : World} {lo g n cap : Nat} {L : List ByteArray} (h : OwnS w lo (.slice (some ⟨g, 0, none⟩) n cap) L) (hn : n = L.length) : w.ownsRow lo 9 1 (.slice (some ⟨g, 0, none⟩) n cap) n (cellsS L) := by
  subst hn
  exact h
theorem ownR_row {w : World} {lo g n cap : Nat} {L : List (Int × Int)} (h : OwnR w lo (.slice (some ⟨g, 0, none⟩) n cap) L) (hn : n = L.length) : w.ownsRow lo 37 2 (.slice (some ⟨g, 0, none⟩) n cap) n (cellsR L) := by
  subst hn
  exact h
def qB : ByteArray := ⟨#[81]⟩
theorem setS {w : World} {lo g n cap : Nat} {s : ByteArray} {L : List ByteArray} (h : OwnS w lo (.slice (some ⟨g, 0, none⟩) n cap) (s :: L)) (hn : n = (s :: L).length) : OwnS (w.setCell ⟨g, 0, none⟩ (.string ⟨#[81]⟩)) lo (.slice (some ⟨g, 0, none⟩) n cap) (qB :: L) := by
  subst hn
  exact (World.ownsRow.stored h 0 (.string ⟨#[81]⟩)).1
theorem setR1 {w : World} {lo g n cap : Nat} {r : Int × Int} {R : List (Int × Int)} (h : OwnR w lo (.slice (some ⟨g, 0, none⟩) n cap) (r :: R)) (hn : n = (r :: R).length) : OwnR ((w.setCell ⟨g, 0, none⟩ (.int .i64 1)).setCell ⟨g, 1, none⟩ (.int .i64 1)) lo (.slice (some ⟨g, 0, none⟩) n cap) ((1, 1) :: R) := by
  subst hn
  exact (World.ownsRow.stored (World.ownsRow.stored h 0 (.int .i64 1)).1 1 (.int .i64 1)).1
/-- What OverSet leaves: lists as long as they were, and nothing else is written. -/
def Overed (n m g h : Nat) (w : World) (e : Ending) (w' : World) : Prop :=
  (∃ v, e = .returned v) ∧ (∃ L R, L.length = n ∧ R.length = m ∧ SA w' (some ⟨g, 0, none⟩) L ∧ RA w' (some ⟨h, 0, none⟩) R) ∧ Only w w' (fun k => k = g ∨ k = h)
set_option maxRecDepth 10000 in
set_option maxHeartbeats 800000 in
theorem over00 (nt : Bool) (n m g h cap cap' lo : Nat) (w : World) (_hgh : ¬ g = h) (hn : n = ([] : List ByteArray).length) (hm : m = ([] : List (Int × Int)).length) (hl : n ≤ 8796093022208) (hr : m ≤ 8796093022208)
    (hN : OwnS w lo (.slice (some ⟨g, 0, none⟩) (n + 1) cap) (([] : List ByteArray) ++ [markB])) (hR : OwnR w lo (.slice (some ⟨h, 0, none⟩) (m + 1) cap') (([] : List (Int × Int)) ++ [(-77, 0)])) :
    Calls Try.prog 9 #[.agg #[.bool nt, .slice (some ⟨g, 0, none⟩) n cap, .slice (some ⟨h, 0, none⟩) m cap']] w fun e w' => Overed n m g h w e w' := by
  obtain ⟨w0, hw0⟩ : ∃ w0, w0 = w.alloc (.cells #[.bool nt, .slice (some ⟨g, 0, none⟩) n cap, .slice (some ⟨h, 0, none⟩) m cap'] 25) := ⟨_, rfl⟩
  have hX0 : w0.heap[w.heap.size]? = some (.cells #[.bool nt, .slice (some ⟨g, 0, none⟩) n cap, .slice (some ⟨h, 0, none⟩) m cap'] 25 (0, 0)) := by rw [hw0]; exact heap_alloc_new w _
  have hN0 : OwnS w0 lo (.slice (some ⟨g, 0, none⟩) (n + 1) cap) (([] : List ByteArray) ++ [markB]) := by rw [hw0]; exact World.ownsRow.alloc hN _
  have hR0 : OwnR w0 lo (.slice (some ⟨h, 0, none⟩) (m + 1) cap') (([] : List (Int × Int)) ++ [(-77, 0)]) := by rw [hw0]; exact World.ownsRow.alloc hR _
  have hO0 : Only w w0 (fun k => k = g ∨ k = h) := by rw [hw0]; exact Only.alloc w _ _
  have hgw := (World.ownsRow.lt hN g rfl).2
  have hhw := (World.ownsRow.lt hR h rfl).2
  have x1 : w0.cell? ⟨w.heap.size, 1, none⟩ = some (.slice (some ⟨g, 0, none⟩) n cap) := by rw [cell_of_row _ _ _ _ _ _ hX0]; rfl
  have x2 : w0.cell? ⟨w.heap.size, 2, none⟩ = some (.slice (some ⟨h, 0, none⟩) m cap') := by rw [cell_of_row _ _ _ _ _ _ hX0]; rfl
  have hf0 := hw0.symm
  have hn0 : n = 0 := hn
  subst hn0
  have hm0 : m = 0 := hm
  subst hm0
  have HE : Hid (∀ v, Overed 0 0 g h w (.returned v) w0) := hid0 (fun v => ⟨⟨v, rfl⟩, ⟨[], [], rfl, rfl, SA.front (ownS_sa hN0), RA.front (ownR_ra hR0)⟩, hO0⟩)
  clear hn hm hgw hhw hw0 hX0 hN hR hN0 hR0 hO0
  go_enter Try.func9, Try.ntmps9
  go_wp2
  go_returns
  exact HE.out _
set_option maxRecDepth 10000 in
set_option maxHeartbeats 800000 in
theorem over01 (nt : Bool) (r : Int × Int) (R : List (Int × Int)) (n m g h cap cap' lo : Nat) (w : World) (hgh : ¬ g = h) (hn : n = ([] : List ByteArray).length) (hm : m = (r :: R).length) (hl : n ≤ 8796093022208) (hr : m ≤ 8796093022208)
    (hN : OwnS w lo (.slice (some ⟨g, 0, none⟩) (n + 1) cap) (([] : List ByteArray) ++ [markB])) (hR : OwnR w lo (.slice (some ⟨h, 0, none⟩) (m + 1) cap') ((r :: R) ++ [(-77, 0)])) :
    Calls Try.prog 9 #[.agg #[.bool nt, .slice (some ⟨g, 0, none⟩) n cap, .slice (some ⟨h, 0, none⟩) m cap']] w fun e w' => Overed n m g h w e w' := by
  obtain ⟨w0, hw0⟩ : ∃ w0, w0 = w.alloc (.cells #[.bool nt, .slice (some ⟨g, 0, none⟩) n cap, .slice (some ⟨h, 0, none⟩) m cap'] 25) := ⟨_, rfl⟩
  have hX0 : w0.heap[w.heap.size]? = some (.cells #[.bool nt, .slice (some ⟨g, 0, none⟩) n cap, .slice (some ⟨h, 0, none⟩) m cap'] 25 (0, 0)) := by rw [hw0]; exact heap_alloc_new w _
  have hN0 : OwnS w0 lo (.slice (some ⟨g, 0, none⟩) (n + 1) cap) (([] : List ByteArray) ++ [markB]) := by rw [hw0]; exact World.ownsRow.alloc hN _
  have hR0 : OwnR w0 lo (.slice (some ⟨h, 0, none⟩) (m + 1) cap') ((r :: R) ++ [(-77, 0)]) := by rw [hw0]; exact World.ownsRow.alloc hR _
  have hO0 : Only w w0 (fun k => k = g ∨ k = h) := by rw [hw0]; exact Only.alloc w _ _
  have hgw := (World.ownsRow.lt hN g rfl).2
  have hhw := (World.ownsRow.lt hR h rfl).2
  have x1 : w0.cell? ⟨w.heap.size, 1, none⟩ = some (.slice (some ⟨g, 0, none⟩) n cap) := by rw [cell_of_row _ _ _ _ _ _ hX0]; rfl
  have x2 : w0.cell? ⟨w.heap.size, 2, none⟩ = some (.slice (some ⟨h, 0, none⟩) m cap') := by rw [cell_of_row _ _ _ _ _ _ hX0]; rfl
  have hf0 := hw0.symm
  have hn0 : n = 0 := hn
  subst hn0
  have h0 : w0.cell? ⟨h, 0, none⟩ = some (.int .i64 r.1) := by
    rw [World.ownsRow.cellAt (ownR_row hR0 (by rw [hm]; simp)) 0 (by omega)]; rfl
  have h1 : w0.cell? ⟨h, 1, none⟩ = some (.int .i64 r.2) := by
    rw [World.ownsRow.cellAt (ownR_row hR0 (by rw [hm]; simp)) 1 (by omega)]; rfl
  have hf : w0.frozen? ⟨h, 0, none⟩ = false := World.ownsRow.frozenAt (ownR_row hR0 (by rw [hm]; simp)) 0
  have hf' : w0.frozen? ⟨h, 1, none⟩ = false := World.ownsRow.frozenAt (ownR_row hR0 (by rw [hm]; simp)) 1
  obtain ⟨wB, hwB⟩ : ∃ wB, wB = (w0.setCell ⟨h, 0, none⟩ (.int .i64 1)).setCell ⟨h, 1, none⟩ (.int .i64 1) := ⟨_, rfl⟩
  have hRB : OwnR wB lo (.slice (some ⟨h, 0, none⟩) (m + 1) cap') (((1, 1) :: R) ++ [(-77, 0)]) := by rw [hwB]; exact setR1 hR0 (by rw [hm]; simp)
  have hNB : OwnS wB lo (.slice (some ⟨g, 0, none⟩) (0 + 1) cap) (([] : List ByteArray) ++ [markB]) := own_blk hN0 (fun k hk => by cases hk; rw [hwB, Below.heap_setCell _ _ _ g hgh, Below.heap_setCell _ _ _ g hgh])
  have hOB : Only w wB (fun k => k = g ∨ k = h) := (hO0.trans (Only.setCell w0 h 0 (.int .i64 1)) (fun i hi => .inl (.inr hi))).trans (by rw [hwB]; exact Only.setCell _ h 1 _) (fun i hi => .inl (.inr hi))
  have hRl : (0 : Int) < (m : Int) := by rw [hm]; simp
  have HE : Hid (∀ v, Overed 0 m g h w (.returned v) wB) := hid0 (fun v => ⟨⟨v, rfl⟩, ⟨[], (1, 1) :: R, rfl, by rw [hm]; rfl, SA.front (ownS_sa hNB), RA.front (ownR_ra hRB)⟩, hOB⟩)
  have HWB := hid0 hwB
  clear hn hm hgw hhw hw0 hX0 hN hR hN0 hR0 hO0 hRB hNB hOB hwB
  go_enter Try.func9, Try.ntmps9
  go_wp2
  rw [← HWB.out]
  go_returns
  exact HE.out _
set_option maxRecDepth 10000 in
set_option maxHeartbeats 800000 in
theorem over10 (nt : Bool) (s : ByteArray) (L : List ByteArray) (n m g h cap cap' lo : Nat) (w : World) (hgh : ¬ g = h) (hn : n = (s :: L).length) (hm : m = ([] : List (Int × Int)).length) (hl : n ≤ 8796093022208) (hr : m ≤ 8796093022208)
    (hN : OwnS w lo (.slice (some ⟨g, 0, none⟩) (n + 1) cap) ((s :: L) ++ [markB])) (hR : OwnR w lo (.slice (some ⟨h, 0, none⟩) (m + 1) cap') (([] : List (Int × Int)) ++ [(-77, 0)])) :
    Calls Try.prog 9 #[.agg #[.bool nt, .slice (some ⟨g, 0, none⟩) n cap, .slice (some ⟨h, 0, none⟩) m cap']] w fun e w' => Overed n m g h w e w' := by
  obtain ⟨w0, hw0⟩ : ∃ w0, w0 = w.alloc (.cells #[.bool nt, .slice (some ⟨g, 0, none⟩) n cap, .slice (some ⟨h, 0, none⟩) m cap'] 25) := ⟨_, rfl⟩
  have hX0 : w0.heap[w.heap.size]? = some (.cells #[.bool nt, .slice (some ⟨g, 0, none⟩) n cap, .slice (some ⟨h, 0, none⟩) m cap'] 25 (0, 0)) := by rw [hw0]; exact heap_alloc_new w _
  have hN0 : OwnS w0 lo (.slice (some ⟨g, 0, none⟩) (n + 1) cap) ((s :: L) ++ [markB]) := by rw [hw0]; exact World.ownsRow.alloc hN _
  have hR0 : OwnR w0 lo (.slice (some ⟨h, 0, none⟩) (m + 1) cap') (([] : List (Int × Int)) ++ [(-77, 0)]) := by rw [hw0]; exact World.ownsRow.alloc hR _
  have hO0 : Only w w0 (fun k => k = g ∨ k = h) := by rw [hw0]; exact Only.alloc w _ _
  have hgw := (World.ownsRow.lt hN g rfl).2
  have hhw := (World.ownsRow.lt hR h rfl).2
  have x1 : w0.cell? ⟨w.heap.size, 1, none⟩ = some (.slice (some ⟨g, 0, none⟩) n cap) := by rw [cell_of_row _ _ _ _ _ _ hX0]; rfl
  have x2 : w0.cell? ⟨w.heap.size, 2, none⟩ = some (.slice (some ⟨h, 0, none⟩) m cap') := by rw [cell_of_row _ _ _ _ _ _ hX0]; rfl
  have hf0 := hw0.symm
  have g0 : w0.cell? ⟨g, 0, none⟩ = some (.string s) := by
    rw [World.ownsRow.cellAt (ownS_row hN0 (by rw [hn]; simp)) 0 (by omega)]; rfl
  have gf : w0.frozen? ⟨g, 0, none⟩ = false := World.ownsRow.frozenAt (ownS_row hN0 (by rw [hn]; simp)) 0
  obtain ⟨wA, hwA⟩ : ∃ wA, wA = w0.setCell ⟨g, 0, none⟩ (.string ⟨#[81]⟩) := ⟨_, rfl⟩
  have hNA : OwnS wA lo (.slice (some ⟨g, 0, none⟩) (n + 1) cap) ((qB :: L) ++ [markB]) := by rw [hwA]; exact setS hN0 (by rw [hn]; simp)
  have hRA : OwnR wA lo (.slice (some ⟨h, 0, none⟩) (m + 1) cap') (([] : List (Int × Int)) ++ [(-77, 0)]) := own_blk hR0 (fun k hk => by cases hk; rw [hwA]; exact Below.heap_setCell w0 _ _ h (fun e => hgh e.symm))
  have hOA : Only w wA (fun k => k = g ∨ k = h) := hO0.trans (by rw [hwA]; exact Only.setCell w0 g 0 _) (fun i hi => .inl (.inl hi))
  have hXA : wA.heap[w.heap.size]? = some (.cells #[.bool nt, .slice (some ⟨g, 0, none⟩) n cap, .slice (some ⟨h, 0, none⟩) m cap'] 25 (0, 0)) := by rw [hwA]; exact (Below.heap_setCell w0 _ _ w.heap.size (by simp; omega)).trans hX0
  have y1 : wA.cell? ⟨w.heap.size, 1, none⟩ = some (.slice (some ⟨g, 0, none⟩) n cap) := by rw [cell_of_row _ _ _ _ _ _ hXA]; rfl
  have y2 : wA.cell? ⟨w.heap.size, 2, none⟩ = some (.slice (some ⟨h, 0, none⟩) m cap') := by rw [cell_of_row _ _ _ _ _ _ hXA]; rfl
  have hfA := hwA.symm
  have hNl : (0 : Int) < (n : Int) := by rw [hn]; simp
  have hm0 : m = 0 := hm
  subst hm0
  have HE : Hid (∀ v, Overed n 0 g h w (.returned v) wA) := hid0 (fun v => ⟨⟨v, rfl⟩, ⟨qB :: L, [], by rw [hn]; rfl, rfl, SA.front (ownS_sa hNA), RA.front (ownR_ra hRA)⟩, hOA⟩)
  clear hn hm hgw hhw hw0 hX0 hN hR hN0 hR0 hO0 hwA hNA hRA hOA hXA
  go_enter Try.func9, Try.ntmps9
  go_wp2
  go_returns
  exact HE.out _
set_option maxRecDepth 10000 in
set_option maxHeartbeats 800000 in
theorem over11 (nt : Bool) (s : ByteArray) (L : List ByteArray) (r : Int × Int) (R : List (Int × Int)) (n m g h cap cap' lo : Nat) (w : World) (hgh : ¬ g = h) (hn : n = (s :: L).length) (hm : m = (r :: R).length) (hl : n ≤ 8796093022208) (hr : m ≤ 8796093022208)
    (hN : OwnS w lo (.slice (some ⟨g, 0, none⟩) (n + 1) cap) ((s :: L) ++ [markB])) (hR : OwnR w lo (.slice (some ⟨h, 0, none⟩) (m + 1) cap') ((r :: R) ++ [(-77, 0)])) :
    Calls Try.prog 9 #[.agg #[.bool nt, .slice (some ⟨g, 0, none⟩) n cap, .slice (some ⟨h, 0, none⟩) m cap']] w fun e w' => Overed n m g h w e w' := by
  obtain ⟨w0, hw0⟩ : ∃ w0, w0 = w.alloc (.cells #[.bool nt, .slice (some ⟨g, 0, none⟩) n cap, .slice (some ⟨h, 0, none⟩) m cap'] 25) := ⟨_, rfl⟩
  have hX0 : w0.heap[w.heap.size]? = some (.cells #[.bool nt, .slice (some ⟨g, 0, none⟩) n cap, .slice (some ⟨h, 0, none⟩) m cap'] 25 (0, 0)) := by rw [hw0]; exact heap_alloc_new w _
  have hN0 : OwnS w0 lo (.slice (some ⟨g, 0, none⟩) (n + 1) cap) ((s :: L) ++ [markB]) := by rw [hw0]; exact World.ownsRow.alloc hN _
  have hR0 : OwnR w0 lo (.slice (some ⟨h, 0, none⟩) (m + 1) cap') ((r :: R) ++ [(-77, 0)]) := by rw [hw0]; exact World.ownsRow.alloc hR _
  have hO0 : Only w w0 (fun k => k = g ∨ k = h) := by rw [hw0]; exact Only.alloc w _ _
  have hgw := (World.ownsRow.lt hN g rfl).2
  have hhw := (World.ownsRow.lt hR h rfl).2
  have x1 : w0.cell? ⟨w.heap.size, 1, none⟩ = some (.slice (some ⟨g, 0, none⟩) n cap) := by rw [cell_of_row _ _ _ _ _ _ hX0]; rfl
  have x2 : w0.cell? ⟨w.heap.size, 2, none⟩ = some (.slice (some ⟨h, 0, none⟩) m cap') := by rw [cell_of_row _ _ _ _ _ _ hX0]; rfl
  have hf0 := hw0.symm
  have g0 : w0.cell? ⟨g, 0, none⟩ = some (.string s) := by
    rw [World.ownsRow.cellAt (ownS_row hN0 (by rw [hn]; simp)) 0 (by omega)]; rfl
  have gf : w0.frozen? ⟨g, 0, none⟩ = false := World.ownsRow.frozenAt (ownS_row hN0 (by rw [hn]; simp)) 0
  obtain ⟨wA, hwA⟩ : ∃ wA, wA = w0.setCell ⟨g, 0, none⟩ (.string ⟨#[81]⟩) := ⟨_, rfl⟩
  have hNA : OwnS wA lo (.slice (some ⟨g, 0, none⟩) (n + 1) cap) ((qB :: L) ++ [markB]) := by rw [hwA]; exact setS hN0 (by rw [hn]; simp)
  have hRA : OwnR wA lo (.slice (some ⟨h, 0, none⟩) (m + 1) cap') ((r :: R) ++ [(-77, 0)]) := own_blk hR0 (fun k hk => by cases hk; rw [hwA]; exact Below.heap_setCell w0 _ _ h (fun e => hgh e.symm))
  have hOA : Only w wA (fun k => k = g ∨ k = h) := hO0.trans (by rw [hwA]; exact Only.setCell w0 g 0 _) (fun i hi => .inl (.inl hi))
  have hXA : wA.heap[w.heap.size]? = some (.cells #[.bool nt, .slice (some ⟨g, 0, none⟩) n cap, .slice (some ⟨h, 0, none⟩) m cap'] 25 (0, 0)) := by rw [hwA]; exact (Below.heap_setCell w0 _ _ w.heap.size (by simp; omega)).trans hX0
  have y1 : wA.cell? ⟨w.heap.size, 1, none⟩ = some (.slice (some ⟨g, 0, none⟩) n cap) := by rw [cell_of_row _ _ _ _ _ _ hXA]; rfl
  have y2 : wA.cell? ⟨w.heap.size, 2, none⟩ = some (.slice (some ⟨h, 0, none⟩) m cap') := by rw [cell_of_row _ _ _ _ _ _ hXA]; rfl
  have hfA := hwA.symm
  have hNl : (0 : Int) < (n : Int) := by rw [hn]; simp
  have h0 : wA.cell? ⟨h, 0, none⟩ = some (.int .i64 r.1) := by
    rw [World.ownsRow.cellAt (ownR_row hRA (by rw [hm]; simp)) 0 (by omega)]; rfl
  have h1 : wA.cell? ⟨h, 1, none⟩ = some (.int .i64 r.2) := by
    rw [World.ownsRow.cellAt (ownR_row hRA (by rw [hm]; simp)) 1 (by omega)]; rfl
  have hf : wA.frozen? ⟨h, 0, none⟩ = false := World.ownsRow.frozenAt (ownR_row hRA (by rw [hm]; simp)) 0
  have hf' : wA.frozen? ⟨h, 1, none⟩ = false := World.ownsRow.frozenAt (ownR_row hRA (by rw [hm]; simp)) 1
  obtain ⟨wB, hwB⟩ : ∃ wB, wB = (wA.setCell ⟨h, 0, none⟩ (.int .i64 1)).setCell ⟨h, 1, none⟩ (.int .i64 1) := ⟨_, rfl⟩
  have hRB : OwnR wB lo (.slice (some ⟨h, 0, none⟩) (m + 1) cap') (((1, 1) :: R) ++ [(-77, 0)]) := by rw [hwB]; exact setR1 hRA (by rw [hm]; simp)
  have hNB : OwnS wB lo (.slice (some ⟨g, 0, none⟩) (n + 1) cap) ((qB :: L) ++ [markB]) := own_blk hNA (fun k hk => by cases hk; rw [hwB, Below.heap_setCell _ _ _ g hgh, Below.heap_setCell _ _ _ g hgh])
  have hOB : Only w wB (fun k => k = g ∨ k = h) := (hOA.trans (Only.setCell wA h 0 (.int .i64 1)) (fun i hi => .inl (.inr hi))).trans (by rw [hwB]; exact Only.setCell _ h 1 _) (fun i hi => .inl (.inr hi))
  have hRl : (0 : Int) < (m : Int) := by rw [hm]; simp
  have HE : Hid (∀ v, Overed n m g h w (.returned v) wB) := hid0 (fun v => ⟨⟨v, rfl⟩, ⟨qB :: L, (1, 1) :: R, by rw [hn]; rfl, by rw [hm]; rfl, SA.front (ownS_sa hNB), RA.front (ownR_ra hRB)⟩, hOB⟩)
  have HWB := hid0 hwB
  clear hn hm hgw hhw hw0 hX0 hN hR hN0 hR0 hO0 hwA hNA hRA hOA hXA hRB hNB hOB hwB
  go_enter Try.func9, Try.ntmps9
  go_wp2
  rw [← HWB.out]
  go_returns
  exact HE.out _
theorem overSet_any (nt : Bool) (L : List ByteArray) (R : List (Int × Int)) (g h cap cap' lo : Nat) (w : World) (hgh : ¬ g = h) (hl : L.length ≤ 8796093022208) (hr : R.length ≤ 8796093022208)
    (hN : OwnS w lo (.slice (some ⟨g, 0, none⟩) (L.length + 1) cap) (L ++ [markB])) (hR : OwnR w lo (.slice (some ⟨h, 0, none⟩) (R.length + 1) cap') (R ++ [(-77, 0)])) :
    Calls Try.prog 9 #[.agg #[.bool nt, .slice (some ⟨g, 0, none⟩) L.length cap, .slice (some ⟨h, 0, none⟩) R.length cap']] w fun e w' => Overed L.length R.length g h w e w' := by
  cases L with
  | nil =>
    cases R with
    | nil => exact over00 nt _ _ g h cap cap' lo w hgh rfl rfl hl hr hN hR
    | cons r R => exact over01 nt r R _ _ g h cap cap' lo w hgh rfl rfl hl hr hN hR
  | cons s L =>
    cases R with
    | nil => exact over10 nt s L _ _ g h cap cap' lo w hgh rfl rfl hl hr hN hR
    | cons r R => exact over11 nt s L r R _ _ g h cap cap' lo w hgh rfl rfl hl hr hN hR
end Go.Proofs.Ytiebndgpbgiclaa
