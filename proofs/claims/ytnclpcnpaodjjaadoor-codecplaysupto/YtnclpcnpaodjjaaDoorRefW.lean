/-
  The walks of caesuraref1's Writer.
-/
import Derived.Test.YtnclpcnpaodjjaaDoorRefWrW
import Derived.Deep.RegionHeld3
import Derived.Deep.RegionLaw
import Derived.Deep.AppendLies
namespace Go.Proofs.YtnclpcnpaodjjaaDoor
open Go.RowKit
/-- The reference's writer. -/
structure RWr (w : World) (B : Nat) (v : Value) (l : List UInt8) : Prop where
  blk : w.heap[B]? = some (.cells #[v] 75 (0, 0))
  own : Own w 0 v l
theorem RWr.lt {w : World} {B : Nat} {v : Value} {l : List UInt8} (h : RWr w B v l) : B < w.heap.size := (Array.getElem?_eq_some_iff.1 h.blk).1
theorem RWr.ne {w : World} {B : Nat} {v : Value} {l : List UInt8} (h : RWr w B v l) : ¬ v.ownBlock = some B := h.own.seg.ne h.blk (by decide)
theorem RWr.cells {w : World} {B : Nat} {v : Value} {l : List UInt8} (h : RWr w B v l) : w.cell? ⟨B, 0, none⟩ = some v ∧ w.frozen? ⟨B, 0, none⟩ = false :=
  ⟨by rw [cell_of_row w B _ _ _ _ h.blk]; rfl, frozen_of_row w B _ _ _ h.blk⟩
theorem RWr.only {w w' : World} {S : Nat → Prop} {B : Nat} {v : Value} {l : List UInt8} (h : RWr w B v l) (ho : Only w w' S) (h1 : ¬ S B) (h2 : ∀ k, v.ownBlock = some k → ¬ S k) : RWr w' B v l :=
  ⟨(ho.block B h.lt h1).trans h.blk, ho.own h.own h2⟩
theorem RWr.later {w w' : World} {B : Nat} {v : Value} {l : List UInt8} (h : RWr w B v l) (hb : Below w.heap.size w w') : RWr w' B v l :=
  ⟨(hb.block B h.lt).trans h.blk, h.own.later hb⟩
theorem RWr.drewN {w : World} {B : Nat} {v : Value} {l : List UInt8} (h : RWr w B v l) (k : Nat) : RWr (w.drewN k) B v l := ⟨h.blk, h.own⟩
/-- Behind an append and its store. -/
theorem RWr.put {w w1 w2 : World} {B : Nat} {v v' : Value} {l m : List UInt8} (h : RWr w B v l) (hb : Below w.heap.size w w1) (hg : w1.grownBy w2 v.ownBlock) (ho : Own w2 0 v' m) (hat : v'.ownBlock = v.ownBlock ∨ v'.ownBlock = some w1.heap.size) :
    RWr (w2.setCell ⟨B, 0, none⟩ v') B v' m ∧ Only w (w2.setCell ⟨B, 0, none⟩ v') (Wr.S B v) ∧ (∀ k, v'.ownBlock = some k → v.ownBlock = some k ∨ w.heap.size ≤ k) := by
  have o1 : Only w w1 (Wr.S B v) := Only.ofBelow hb _ (fun i h1 h2 => by omega)
  have o2 : Only w w2 (Wr.S B v) := o1.trans (Only.ofGrown hg) (fun i hi => .inl (.inr hi))
  have hB : w2.heap[B]? = some (.cells #[v] 75 (0, 0)) :=
    (hg.block B (Nat.lt_of_lt_of_le h.lt hb.size) (fun e => h.ne e.symm)).trans ((hb.block B h.lt).trans h.blk)
  refine ⟨⟨heap_setCell_same w2 B 0 _ _ v' hB, (Only.setCell w2 B 0 v').own ho (fun k hk e => ?_)⟩, o2.trans (Only.setCell w2 B 0 v') (fun i hi => .inl (.inl hi)), fun k hk => ?_⟩
  · subst e
    exact ho.seg.ne hB (by decide) hk
  · rcases hat with h' | h'
    · exact .inl (h' ▸ hk)
    · rw [h'] at hk
      simp at hk
      have := hb.size
      right; omega
set_option maxRecDepth 10000 in
theorem refNew_any (w : World) : Calls Tryd.prog 20 #[] w fun e w' => e = .returned (.pointer (some ⟨w.heap.size, 0, none⟩)) ∧ w' = w.alloc (.cells #[.slice none 0 0] 75) := by
  go_enter Tryd.func20, Tryd.ntmps20
  go_wp2
  go_ret
  exact ⟨rfl, rfl⟩
theorem rwr_new (w : World) : RWr (w.alloc (.cells #[.slice none 0 0] 75)) w.heap.size (.slice none 0 0) [] := ⟨heap_alloc_new w _, World.ownsRow_nil _ _ _ _⟩
set_option maxRecDepth 10000 in
theorem refNum_neg (N : Int) (hN : N < 0) (p : Value) (w : World) : Calls Tryd.prog 24 #[p, .int .i64 N] w fun e w' => e = .returned (.int .i64 1) ∧ w' = w := by
  go_enter Tryd.func24, Tryd.ntmps24
  go_wp2
  go_ret
  exact ⟨rfl, rfl⟩
theorem cells_add {w : World} {g n cap base : Nat} {l : List UInt8} (h : Own w base (.slice (some ⟨g, 0, none⟩) n cap) l) : ∀ j u, (cellsOf l)[j]? = some u → w.cell? ((⟨g, 0, none⟩ : Addr).add j) = some u := by
  intro j u hj
  have hjl : j < l.length := by
    have := (List.getElem?_eq_some_iff.1 hj).1
    simpa [cellsOf] using this
  rw [WideShapes.add_plain, h.cell j hjl]
  simp [cellsOf, hjl] at hj
  rw [hj]
theorem cells_one (l : List UInt8) : ∀ u ∈ cellsOf l, u.oneCell' = true := by
  intro u hu
  simp [cellsOf] at hu
  obtain ⟨c, _, rfl⟩ := hu
  rfl
set_option maxRecDepth 10000 in
set_option maxHeartbeats 400000 in
theorem refNum_any (N : Nat) (hN : N < 9223372036854775808) (B : Nat) (v : Value) (l : List UInt8) (w : World) (h : RWr w B v l) (hl : l.length + 10 ≤ 536870912) :
    Calls Tryd.prog 24 #[.pointer (some ⟨B, 0, none⟩), .int .i64 (N : Int)] w fun e w' => e = .returned (.int .i64 0) ∧ ∃ v', RWr w' B v' (l ++ form 9 N) ∧ Only w w' (Wr.S B v) ∧ (∀ k, v'.ownBlock = some k → v.ownBlock = some k ∨ w.heap.size ≤ k) := by
  obtain ⟨i0, hi, hz0, hz1, hz2⟩ := info_parts infoU8
  have hneg : ¬ (N : Int) < 0 := by omega
  have hfl := form_length 9 N
  have HR := hid0 h
  obtain ⟨q0, f0⟩ := h.cells
  clear h
  go_enter Tryd.func24, Tryd.ntmps24
  go_wp2
  have HRd : Hid (RWr w.drew B v l) := ⟨HR.out.blk, HR.out.own⟩
  go_region_law
    (first
    | (refine step_append_lies _ (by rfl) _ _ _ (by rfl) 0 5 i0 (.int .u8 0) 1 1 Tryd.underlying26 hi hz0 hz1 hz2 rfl (by decide) v l.length (cellsOf l) (by rfl) (HRd.out.own.later HB1.out) ⟨g1, 0, none⟩ (form 9 N).length c1 (cellsOf (form 9 N)) (by rfl) (by simp [cellsOf]) (cells_add HO1.out) (cells_one _) (by omega) (by unfold maxLen; omega) (by omega) (Nat.zero_le _) w1.heap.size rfl ?_; intro g2 cap2 w2 hown2 hgrow2 hat2 hlt2; have hq2 : w2.cell? ⟨B, 0, none⟩ = some v := (hgrow2.cell hq1 (fun e => HRd.out.ne e.symm)); have hf2 : w2.frozen? ⟨B, 0, none⟩ = false := ((World.frozen?_of_block (hgrow2.block B (Nat.lt_of_lt_of_le HRd.out.lt HB1.out.size) (fun e => HRd.out.ne e.symm))).trans hf1); have HO2 := hid0 hown2; have HG2 := hid0 hgrow2; have HA2 := hid0 hat2; clear hown2 hgrow2 hat2)
    | (go_simp; go_at_call 31; refine (refForm_any N hN _).mono ?_; rintro e w1 ⟨v1, rfl, ho1, hb1⟩; have hq1 : w1.cell? ⟨B, 0, none⟩ = some v := (HRd.out.later hb1).cells.1; have hf1 : w1.frozen? ⟨B, 0, none⟩ = false := (HRd.out.later hb1).cells.2; have hg1 : ∃ g c, v1 = .slice (some ⟨g, 0, none⟩) (form 9 N).length c := (by rcases ho1.2 with ⟨h, hn⟩ | ⟨g, c, cur, h, _⟩; omega; exact ⟨g, c, h⟩); obtain ⟨g1, c1, rfl⟩ := hg1; have HO1 := hid0 ho1; have HB1 := hid0 hb1; clear ho1 hb1))
  all_goals
    have ho2 : Own w2 0 (.slice (some ⟨g2, 0, none⟩) (l.length + (form 9 N).length) cap2) (l ++ form 9 N) := by
      have := HO2.out
      unfold Own
      rw [List.length_append, cellsOf_append]
      exact this
    have R := HRd.out.put HB1.out HG2.out ho2 (by rcases HA2.out with h | h; exact .inl h.symm; exact .inr (by rw [h]; rfl))
    have HZ := hid0 R
    clear R ho2
    go_wp2
    go_ret
    obtain ⟨z1, z2, z3⟩ := HZ.out
    exact ⟨rfl, _, z1, ⟨z2.os, z2.tape, z2.output, z2.size, z2.block⟩, z3⟩
end Go.Proofs.YtnclpcnpaodjjaaDoor
