/-
  LdOW, LrM, LrTW, LrEW, ShelfT, LrBW, LdKW, Lc9W, LcAW, LcBW, LcCW, LcDW.
-/
import Derived.Test.YtlnejmmhhmmomaaGreatDoorMrd
import Derived.Maps.OwnSet
import Derived.Maps.RangeWalk
import Derived.Sort.KeysCollected
import Derived.Sort.OwnSorted
import Derived.Shelf.Sort.Plain
import Derived.Test.YtlnejmmhhmmomaaGreatDoorProg
import Derived.RangeFuncNested
import Derived.RangeFuncBound
import Derived.RangeFuncCalls
import Derived.RangeFuncLeaves
import Derived.RangeFuncBox
namespace Go.Proofs.YtlnejmmhhmmomaaGreatDoor
open Go.RowKit Go.Shelf Go.Lib
/-- Sections in memory; a list of edits that is none has no room. -/
structure XB (w : World) (a : Option Addr) (L : List Sec) : Prop where
  at' : ∀ k (h : k < L.length), ∃ b off ae ce, a = some ⟨b, off, none⟩ ∧ b < w.heap.size ∧ w.cell? ⟨b, off + k * 3, none⟩ = some (.string L[k].loc) ∧ w.cell? ⟨b, off + k * 3 + 1, none⟩ = some (.string L[k].par) ∧ w.cell? ⟨b, off + k * 3 + 2, none⟩ = some (.slice ae L[k].ed.length ce) ∧ EA w ae L[k].ed ∧ (ae = none → ce = 0)
theorem XB.xa {w : World} {a : Option Addr} {L : List Sec} (h : XB w a L) : XA w a L := ⟨fun k hk => by
  obtain ⟨b, off, ae, ce, h1, h2, h3, h4, h5, h6, _⟩ := h.at' k hk
  exact ⟨b, off, ae, ce, h1, h2, h3, h4, h5, h6⟩⟩
theorem XB.later {w w' : World} {a : Option Addr} {L : List Sec} (h : XB w a L) (hb : Below w.heap.size w w') : XB w' a L := ⟨fun k hk => by
  obtain ⟨b, off, ae, ce, rfl, hl, h0, h1, h2, h3, h4⟩ := h.at' k hk
  exact ⟨b, off, ae, ce, rfl, Nat.lt_of_lt_of_le hl hb.size, (hb.cell (p := ⟨b, off + k * 3, none⟩) hl).trans h0, (hb.cell (p := ⟨b, off + k * 3 + 1, none⟩) hl).trans h1, (hb.cell (p := ⟨b, off + k * 3 + 2, none⟩) hl).trans h2, h3.later hb, h4⟩⟩
/-- The bundle handed in, the one that is answered, the one that is made. -/
structure OS (W : World) (X : Nat) (sv v : Value) : Prop where
  box : W.heap[X]? = some (.cells #[sv] 24 (0, 0))
  res : W.heap[X + 1]? = some (.cells #[.slice none 0 0] 24 (0, 0))
  c : W.heap[X + 1 + 1]? = some (.cells #[v] 24 (0, 0))
theorem OS.cells {W : World} {X : Nat} {sv v : Value} (h : OS W X sv v) : W.cell? ⟨X, 0, none⟩ = some sv ∧ W.cell? ⟨X + 1 + 1, 0, none⟩ = some v ∧ W.frozen? ⟨X + 1 + 1, 0, none⟩ = false ∧ W.cell? ⟨X + 1, 0, none⟩ = some (.slice none 0 0) ∧ W.frozen? ⟨X + 1, 0, none⟩ = false :=
  ⟨by rw [cell_of_row _ _ _ _ _ _ h.box]; rfl, by rw [cell_of_row _ _ _ _ _ _ h.c]; rfl, by simp [World.frozen?, h.c], by rw [cell_of_row _ _ _ _ _ _ h.res]; rfl, by simp [World.frozen?, h.res]⟩
theorem OS.keep {W W' : World} {X : Nat} {sv v : Value} (h : OS W X sv v) (hk : ∀ k, k < X + 3 → W'.heap[k]? = W.heap[k]?) : OS W' X sv v :=
  ⟨(hk X (by omega)).trans h.box, (hk (X + 1) (by omega)).trans h.res, (hk (X + 1 + 1) (by omega)).trans h.c⟩
theorem OS.set {W : World} {X : Nat} {sv v : Value} (h : OS W X sv v) (u : Value) : OS (W.setCell ⟨X + 1 + 1, 0, none⟩ u) X sv u :=
  ⟨(Below.heap_setCell W _ u X (by simp; omega)).trans h.box, (Below.heap_setCell W _ u (X + 1) (by simp)).trans h.res, heap_setCell_same W _ 0 _ _ u h.c⟩
theorem cell_al {w : World} {p : Addr} {v : Value} (h : w.cell? p = some v) (o : Obj) : (w.alloc o).cell? p = some v := (((Below.refl w.heap.size w).alloc (Nat.le_refl _) o).cell (World.block_lt_of_cell? w p h)).trans h
theorem own_slice {w : World} {lo t s n : Nat} {v : Value} {xs : List Value} (h : w.ownsRow lo t s v n xs) : ∃ a cap, v = .slice a n cap := by
  rcases h.2 with ⟨rfl, rfl⟩ | ⟨g, cap, cur, rfl, _⟩
  · exact ⟨none, 0, rfl⟩
  · exact ⟨_, cap, rfl⟩
theorem below_grown {w w' : World} (h : w.grownBy w' none) : Below w.heap.size w w' := (Below.refl _ _).grown h (Nat.le_refl _) (fun k hk => by cases hk)
theorem below_grownD {w w' : World} (h : w.drew.grownBy w' none) : Below w.heap.size w w' := by
  have := below_grown h
  exact ⟨this.os, this.tape, this.output, this.size, this.block⟩
theorem use_key {G T : Prop} (main : Hid T → G) (cont : T) : G := main cont
theorem own_form {w : World} {base : Nat} {e : TypeId} {size : Nat} {v : Value} {n : Nat} {xs : List Value} (h : w.ownsRow base e size v n xs) (hn : 0 < n) : ∃ g cap, v = .slice (some ⟨g, 0, none⟩) n cap ∧ base ≤ g ∧ g < w.heap.size ∧ n ≤ cap := by
  have h0 := h
  rcases h.2 with ⟨_, h1⟩ | ⟨g, cap, cur, rfl, hb, hr, hc, _⟩
  · omega
  · exact ⟨g, cap, rfl, hb, (World.ownsRow.lt h0 g rfl).2, hc⟩
theorem cell2_new (w : World) (a b : Value) (t : TypeId) : ∀ j u, [a, b][j]? = some u → (w.alloc (.cells #[a, b] t)).cell? ((⟨w.heap.size, 0, none⟩ : Addr).add j) = some u := by
  intro j u h
  rw [Addr.add_lit, cell_of_row _ w.heap.size _ _ _ _ (heap_alloc_new w _), Nat.zero_add]
  simpa using h
theorem lt_of_row {W : World} {k : Nat} {o : Obj} (h : W.heap[k]? = some o) : k < W.heap.size := (Array.getElem?_eq_some_iff.1 h).1
theorem grown_low {w w' : World} {o : Obj} {lo t s n : Nat} {v : Value} {xs : List Value} (ho : w.ownsRow lo t s v n xs) (hg : (w.alloc o).grownBy w' v.ownBlock) (k : Nat) (hk : k < lo) (hw : k < w.heap.size) : w'.heap[k]? = w.heap[k]? :=
  (hg.block k (by simp; omega) (fun e => by have := (World.ownsRow.lt ho k e.symm).1; omega)).trans (Below.heap_alloc w o k hw)
theorem grown_below {B : Nat} {w wr w' : World} {o : Obj} {lo t s n : Nat} {v : Value} {xs : List Value} (hb : Below B w wr) (ho : wr.ownsRow lo t s v n xs) (hg : (wr.alloc o).grownBy w' v.ownBlock) (hB : B ≤ lo) (hw : B ≤ w.heap.size) : Below B w w' :=
  ⟨hg.os.trans hb.os, hg.tape.trans hb.tape, hg.output.trans hb.output, Nat.le_trans hb.size (Nat.le_trans (by simp) hg.size), fun k hk => (grown_low ho hg k (by omega) (by have := hb.size; omega)).trans (hb.block k hk)⟩
/-- A section's own variable. -/
theorem sec_cells {W : World} {B : Nat} {x y z : Value} (h : W.heap[B]? = some (.cells #[x, y, z] 40 (0, 0))) : W.cell? ⟨B, 0, none⟩ = some x ∧ W.cell? ⟨B, 1, none⟩ = some y ∧ W.cell? ⟨B, 2, none⟩ = some z ∧ W.frozen? ⟨B, 2, none⟩ = false :=
  ⟨by rw [cell_of_row _ _ _ _ _ _ h]; rfl, by rw [cell_of_row _ _ _ _ _ _ h]; rfl, by rw [cell_of_row _ _ _ _ _ _ h]; rfl, by simp [World.frozen?, h]⟩
/-- What own leaves. -/
def Owned (L : List Sec) (w : World) (e : Ending) (w' : World) : Prop :=
  ∃ g cap S, e = .returned (.agg #[.slice (some ⟨g, 0, none⟩) L.length cap]) ∧ L.length + 64 ≤ cap ∧ S.map (·.s) = L ∧ Giv w' w.heap.size (.slice (some ⟨g, 0, none⟩) (L.length + 64) cap) S 64 ∧ Below w.heap.size w w'
set_option maxRecDepth 10000 in
set_option maxHeartbeats 3200000 in
theorem own_any (L : List Sec) (a : Option Addr) (c : Nat) (w : World) (hl : L.length ≤ 1000000) (hb : ∀ s ∈ L, s.ed.length ≤ 1000000000) (ha : XB w a L) :
    Calls Tryz.prog 5 #[.agg #[.slice a L.length c]] w fun e w' => Owned L w e w' := by
  obtain ⟨i0, hi, hz0, hz1, hz2⟩ := info_parts infoEdit
  obtain ⟨j0, hj, hy0, hy1, hy2⟩ := info_parts infoSec
  obtain ⟨w0, hw0⟩ : ∃ w0, w0 = ((w.alloc (.cells #[.slice a L.length c] 24)).alloc (.cells #[.slice none 0 0] 24)).alloc (.cells #[.slice none 0 0] 24) := ⟨_, rfl⟩
  obtain ⟨X, hX⟩ : ∃ X, X = w.heap.size := ⟨_, rfl⟩
  have hs0 : w0.heap.size = X + 3 := by rw [hw0]; simp [hX]
  have hB0 : Below w.heap.size w w0 := by rw [hw0]; exact (((Below.refl _ _).alloc (Nat.le_refl _) _).alloc (by simp) _).alloc (by simp; omega) _
  have hK0 : OS w0 X (.slice a L.length c) (.slice none 0 0) := by
    obtain ⟨wa, hwa⟩ : ∃ wa, wa = w.alloc (.cells #[.slice a L.length c] 24) := ⟨_, rfl⟩
    obtain ⟨wb, hwb⟩ : ∃ wb, wb = wa.alloc (.cells #[.slice none 0 0] 24) := ⟨_, rfl⟩
    have sa : wa.heap.size = X + 1 := by rw [hwa]; simp [hX]
    have sb : wb.heap.size = X + 2 := by rw [hwb]; simp [sa]
    have r1 : wa.heap[X]? = some (.cells #[.slice a L.length c] 24 (0, 0)) := by rw [hwa, hX]; exact heap_alloc_new w _
    have r2 : wb.heap[X + 1]? = some (.cells #[.slice none 0 0] 24 (0, 0)) := by rw [hwb, ← sa]; exact heap_alloc_new wa _
    rw [hw0, ← hwa, ← hwb]
    refine ⟨?_, ?_, ?_⟩
    · rw [Below.heap_alloc wb _ X (by omega), hwb, Below.heap_alloc wa _ X (by omega)]; exact r1
    · rw [Below.heap_alloc wb _ (X + 1) (by omega)]; exact r2
    · rw [show X + 1 + 1 = wb.heap.size by omega]; exact heap_alloc_new wb _
  have HK0 := hid0 hK0
  have HB0 := hid0 hB0
  have HS0 := hid0 hs0
  have HA := hid0 ha
  have HBD := hid0 hb
  have HF := hid0 hw0.symm
  have hG0 : Hid (Giv w0 (X + 3) (.slice none 0 0) [] 0) := hid0 ⟨World.ownsRow_nil _ _ _ _, (fun x hx => by cases hx), (fun x hx => by cases hx), .nil⟩
  subst hX
  clear ha hb hB0 hw0 hK0 hs0
  go_enter Tryz.func5, Tryz.ntmps5
  go_wp2
  rw [HF.out]
  clear HF
  go_loopw [4] (fun i wr => ∃ (k : Nat) (v : Value) (S : List SecAt), k ≤ L.length ∧ i = .int .i64 (k : Int) ∧ Hid (OS wr w.heap.size (.slice a L.length c) v) ∧ Hid (S.map (·.s) = L.take k) ∧ Hid (Giv wr (w.heap.size + 3) v S 0) ∧ Hid (Below w.heap.size w wr) ∧ Hid (w.heap.size + 3 ≤ wr.heap.size)) (fun i _ => L.length - (intOf i).toNat)
  case atStart => exact ⟨0, _, [], Nat.zero_le _, rfl, HK0, hid0 rfl, hG0, HB0, hid0 (by rw [HS0.out]; exact Nat.le_refl _)⟩
  case round =>
    clear HK0 hG0 HB0 HS0 w0
    obtain ⟨k, v, S, hk, rfl, HK, HSm, HG, HB, HZ⟩ := hrel
    obtain ⟨wo, hwo⟩ : ∃ wo, wo = wr := ⟨_, rfl⟩
    subst hwo
    by_cases hlt : k < L.length
    · obtain ⟨b, off, ae, ce, rfl, hbl, c0, c1, c2, hea, hnl⟩ := (HA.out.later HB.out).at' k hlt
      obtain ⟨x0, x1, x2, x3, x4⟩ := HK.out.cells
      have hkI : (k : Int) < (L.length : Int) := by omega
      have hkI0 : (0 : Int) ≤ (k : Int) := by omega
      have HEA := hid0 hea
      have HNL := hid0 hnl
      have hed := HBD.out L[k] (List.getElem_mem hlt)
      have HSk : Hid (L.take (k + 1) = L.take k ++ [L[k]]) := hid0 (by rw [List.take_add_one, List.getElem?_eq_getElem hlt]; rfl)
      generalize L[k] = sc at *
      obtain ⟨lo, pa, ed⟩ := sc
      simp only at c0 c1 c2 hed HEA
      clear hea hnl hbl
      have d0 := cell_al c0 (.cells #[.string ⟨#[]⟩, .string ⟨#[]⟩, .slice none 0 0] 40)
      have d1 := cell_al c1 (.cells #[.string ⟨#[]⟩, .string ⟨#[]⟩, .slice none 0 0] 40)
      have d2 := cell_al x0 (.cells #[.string ⟨#[]⟩, .string ⟨#[]⟩, .slice none 0 0] 40)
      go_wp2
      go_region
      obtain ⟨wA, hwA⟩ : ∃ wA, wA = (wo.alloc (.cells #[.string lo, .string pa, .slice none 0 0] 40)).drew := ⟨_, rfl⟩
      have hbA : Below wo.heap.size wo wA := by rw [hwA]; exact ((Below.refl _ _).alloc (Nat.le_refl _) _).drew
      have hrA : wA.heap[wo.heap.size]? = some (.cells #[.string lo, .string pa, .slice none 0 0] 40 (0, 0)) := by rw [hwA]; exact heap_alloc_new wo _
      have hsA : wA.heap.size = wo.heap.size + 1 := by rw [hwA]; simp
      have e0 : wA.cell? ⟨w.heap.size, 0, none⟩ = some (.slice (some ⟨b, off, none⟩) L.length c) := (hbA.cell (World.block_lt_of_cell? wo _ x0)).trans x0
      have e1 : wA.cell? ⟨b, off + k * 3 + 2, none⟩ = some (.slice ae ed.length ce) := (hbA.cell (World.block_lt_of_cell? wo _ c2)).trans c2
      obtain ⟨e2, e3, e4, e5⟩ := sec_cells hrA
      rw [← hwA]
      have HEA1 : Hid (EA wA.drew ae ed) := hid0 (HEA.out.later (hbA.drew))
      have HbA := hid0 hbA
      have HrA := hid0 hrA
      have HsA := hid0 hsA
      clear hwA d0 d1 d2 x0 x1 x2 x3 x4 c0 c1 hbA hrA hsA
      go_wp2
      apply use_key
      case main =>
        intro key
        go_region_law ((refine step_spreadE (by rfl) _ _ (by rfl) ae ed ce wA.heap.size (by rfl) (by rfl) HNL.out HEA1.out (by omega) (by simp) ?_; intro vE w1 hoE hgE; obtain ⟨aV, cV, rfl⟩ := own_slice hoE; have hb1 : Below wA.heap.size wA w1 := below_grownD hgE; have hr1 := (hb1.block wo.heap.size (by have := HsA.out; omega)).trans HrA.out; obtain ⟨f2, f3, f4, f5⟩ := sec_cells hr1; have HO1 := hid0 hoE; have HB1 := hid0 hb1; have HR1 := hid0 hr1; clear hoE hgE hb1 hr1))
        all_goals
          have HbX : Hid (Below wo.heap.size wo (w1.setCell ⟨wo.heap.size, 2, none⟩ (.slice aV ed.length cV))) := hid0 ((Below.later HbA.out HB1.out).setCell (Nat.le_refl _) _)
          have HrX : Hid ((w1.setCell ⟨wo.heap.size, 2, none⟩ (.slice aV ed.length cV)).heap[wo.heap.size]? = some (.cells #[.string lo, .string pa, .slice aV ed.length cV] 40 (0, 0))) := hid0 (heap_setCell_same w1 _ 2 _ _ _ HR1.out)
          have HoX : Hid (OwnE (w1.setCell ⟨wo.heap.size, 2, none⟩ (.slice aV ed.length cV)) (wo.heap.size + 1) (.slice aV ed.length cV) ed.length ed) := hid0 (by
            have hlt1 := HsA.out
            have h1 := own_blk (W' := w1.setCell ⟨wo.heap.size, 2, none⟩ (.slice aV ed.length cV)) HO1.out (fun q hq => by have h2 := (World.ownsRow.lt HO1.out q hq).1; exact Below.heap_setCell w1 _ _ q (by simp; omega))
            rw [hlt1] at h1
            exact h1)
          clear HO1 HB1 HR1 f2 f3 f4 f5
          generalize w1.setCell ⟨wo.heap.size, 2, none⟩ (.slice aV ed.length cV) = W1 at HbX HrX HoX ⊢
          clear w1
          revert aV cV W1
          exact key.out
      case cont =>
        intro aV cV W1 HbX HrX HoX
        clear HEA1 HbA HrA HsA e0 e1 e2 e3 e4 e5 wA
        go_wp2
        go_loopw [6] (fun i wi => ∃ (j : Nat) (aE : Option Addr) (cE : Nat), j ≤ 64 ∧ i = .int .i64 (j : Int) ∧ Hid (Below wo.heap.size wo wi) ∧ Hid (wi.heap[wo.heap.size]? = some (.cells #[.string lo, .string pa, .slice aE (ed.length + j) cE] 40 (0, 0))) ∧ Hid (OwnE wi (wo.heap.size + 1) (.slice aE (ed.length + j) cE) (ed.length + j) (ed ++ marksE j))) (fun i _ => 64 - (intOf i).toNat)
        case atStart => exact ⟨0, aV, cV, Nat.zero_le _, rfl, HbX, HrX, hid0 (by rw [show marksE 0 = [] from rfl, List.append_nil]; exact HoX.out)⟩
        case round =>
          clear HbX HrX HoX
          obtain ⟨j, aE, cE, hj64, rfl, HbI, HrI, HoI⟩ := hrel
          have hlI := lt_of_row HrI.out
          by_cases hlt2 : j < 64
          · have hjI : (j : Int) < 64 := by omega
            obtain ⟨e0, e1, e2, e3⟩ := sec_cells HrI.out
            go_wp2_with (at_builtin; go_loud ((
              refine wpList_append_own _ (by rfl) _ _ 38 (by rfl) (wo.heap.size + 1) 42 i0 (.agg #[.bool false, .string ⟨#[]⟩]) 2 24 Tryz.underlying38 hi hz0 hz1 hz2 rfl (by decide) (.slice aE (ed.length + j) cE) (ed.length + j) (cellsE (ed ++ marksE j)) (by rfl) (World.ownsRow.alloc HoI.out _) ⟨wr.heap.size, 0, none⟩ 1 1 [.bool false, .string ⟨#[109, 97, 114, 107]⟩] (by rfl) (by rfl) (cell2_new _ _ _ _) (fun u hu => by simp only [List.mem_cons, List.not_mem_nil, or_false] at hu; rcases hu with rfl | rfl <;> rfl) (by unfold maxLen; omega) (by omega) (by simp; omega) ?_
              intro v5 w5 hown5 hgrow5 hiff5
              clear hiff5
              obtain ⟨g5, cap5, rfl, hju1, hju2, hju3⟩ := own_form hown5 (Nat.succ_pos _)
              have hr5 := (grown_low HoI.out hgrow5 wo.heap.size (Nat.lt_succ_self _) hlI).trans HrI.out
              have hb5 := grown_below HbI.out HoI.out hgrow5 (Nat.le_succ _) (Nat.le_refl _)
              obtain ⟨f0, f1, f2, f3⟩ := sec_cells hr5
              have HR5 := hid0 hr5
              have HB5 := hid0 hb5
              have HO5 := hid0 hown5
              have HG5 : Hid (wo.heap.size + 1 ≤ g5) := hid0 hju1
              clear hown5 hgrow5 hr5 hb5 hju1 hju2 hju3 HbI HrI HoI e0 e1 e2 e3)))
            have HbN : Hid (Below wo.heap.size wo (w5.setCell ⟨wo.heap.size, 2, none⟩ (.slice (some ⟨g5, 0, none⟩) (ed.length + j + 1) cap5))) := hid0 (HB5.out.setCell (Nat.le_refl _) _)
            have HrN : Hid ((w5.setCell ⟨wo.heap.size, 2, none⟩ (.slice (some ⟨g5, 0, none⟩) (ed.length + j + 1) cap5)).heap[wo.heap.size]? = some (.cells #[.string lo, .string pa, .slice (some ⟨g5, 0, none⟩) (ed.length + (j + 1)) cap5] 40 (0, 0))) := hid0 (heap_setCell_same w5 _ 2 _ _ _ HR5.out)
            have HoN : Hid (OwnE (w5.setCell ⟨wo.heap.size, 2, none⟩ (.slice (some ⟨g5, 0, none⟩) (ed.length + j + 1) cap5)) (wo.heap.size + 1) (.slice (some ⟨g5, 0, none⟩) (ed.length + (j + 1)) cap5) (ed.length + (j + 1)) (ed ++ marksE (j + 1))) := hid0 (by
              have h1 := own_blk (W' := w5.setCell ⟨wo.heap.size, 2, none⟩ (.slice (some ⟨g5, 0, none⟩) (ed.length + j + 1) cap5)) HO5.out (fun q hq => by cases hq; have := HG5.out; exact Below.heap_setCell w5 _ _ g5 (by simp; omega))
              unfold OwnE
              rw [marksE_succ, ← List.append_assoc, cellsE_append]
              exact h1)
            clear HR5 HB5 HO5 HG5 f0 f1 f2 f3
            go_wp2
            go_roundw
            case rel => exact ⟨j + 1, some ⟨g5, 0, none⟩, cap5, by omega, by go_num, HbN, HrN, HoN⟩
            case measure => simp [intOf]; omega
          · have hjI : ¬ (j : Int) < 64 := by omega
            obtain rfl : j = 64 := by omega
            obtain ⟨gE, cE', hvE, hju1, hju2, hju3⟩ := own_form HoI.out (by omega)
            cases hvE
            obtain ⟨e0, e1, e2, e3⟩ := sec_cells HrI.out
            obtain ⟨x0, x1, x2, x3, x4⟩ := (HK.out.keep (fun q hq => HbI.out.block q (by have := HZ.out; omega))).cells
            have y2 : wr.cell? ⟨b, off + k * 3 + 2, none⟩ = some (.slice ae ed.length ce) := (HbI.out.cell (World.block_lt_of_cell? wo _ c2)).trans c2
            have q0 : (0 : Int) ≤ (ed.length : Int) := by omega
            have q1 : (ed.length : Int) ≤ (cE : Int) := by omega
            have HGE : Hid (wo.heap.size + 1 ≤ gE) := hid0 hju1
            clear hju1 hju2 hju3
            go_wp2
            go_region
            obtain ⟨wS, hwS⟩ : ∃ wS, wS = (wr.setCell ⟨wo.heap.size, 2, none⟩ (.slice (some ⟨gE, 0, none⟩) ed.length cE)).drew := ⟨_, rfl⟩
            have hbS : Below wo.heap.size wo wS := by rw [hwS]; exact (HbI.out.setCell (Nat.le_refl _) _).drew
            have hrS : wS.heap[wo.heap.size]? = some (.cells #[.string lo, .string pa, .slice (some ⟨gE, 0, none⟩) ed.length cE] 40 (0, 0)) := by rw [hwS]; exact heap_setCell_same wr _ 2 _ _ _ HrI.out
            have hoS : OwnE wS (w.heap.size + 3) (.slice (some ⟨gE, 0, none⟩) (ed.length + 64) cE) (ed.length + 64) (ed ++ marksE 64) := by
              have hz := HZ.out
              rw [hwS]
              exact owns_lower (own_blk HoI.out (fun q hq => by cases hq; have := HGE.out; exact Below.heap_setCell wr _ _ gE (by simp; omega))) (by omega)
            have hKS : OS wS w.heap.size (.slice (some ⟨b, off, none⟩) L.length c) v := HK.out.keep (fun q hq => hbS.block q (by have := HZ.out; omega))
            have hGS : Giv wS (w.heap.size + 3) v S 0 := HG.out.keep (fun q _ hq => hbS.block q hq)
            rw [← hwS]
            clear hwS HbI HrI HoI e0 e1 e2 e3 x0 x1 x2 x3 x4 y2
            obtain ⟨aS, cS, rfl⟩ := own_slice HG.out.row
            obtain ⟨x0, x1, x2, x3, x4⟩ := hKS.cells
            obtain ⟨e0, e1, e2, e3⟩ := sec_cells hrS
            have HbS := hid0 hbS
            have HoS := hid0 hoS
            have HKS := hid0 hKS
            have HGS := hid0 hGS
            have HSl : Hid (S.length = k) := hid0 (by have h := congrArg List.length HSm.out; rw [List.length_map, List.length_take] at h; omega)
            have hSl : S.length ≤ 1000000 := by have := HSl.out; omega
            clear hbS hrS hoS hKS hGS hlI
            go_wp2_with (at_builtin; go_loud ((
              refine wpList_append_own_at _ (by rfl) _ _ 22 (by rfl) (w.heap.size + 3) 40 j0 (.agg #[.string ⟨#[]⟩, .string ⟨#[]⟩, .slice none 0 0]) 3 56 Tryz.underlying22 hj hy0 hy1 hy2 rfl (by decide) (.slice aS (S.length + 0) cS) (S.length + 0) (cellsX S ++ markX 0) (by rfl) (World.ownsRow.alloc HGS.out.row _) ⟨wS.heap.size, 0, none⟩ 1 1 [.string lo, .string pa, .slice (some ⟨gE, 0, none⟩) ed.length cE] (by rfl) (by rfl) (cell3_new _ _ _ _ _) (fun u hu => by simp only [List.mem_cons, List.not_mem_nil, or_false] at hu; rcases hu with rfl | rfl | rfl <;> rfl) (by unfold maxLen; omega) (by omega) (by have h1 := HZ.out; have h2 := HbS.out.size; simp; omega) ?_
              intro v6 w6 hown6 hgrow6 hiff6 hat6
              clear hiff6
              obtain ⟨g6, cap6, rfl, hju1, hju2, hju3⟩ := own_form hown6 (Nat.succ_pos _)
              have hz := HZ.out
              have hs2 := HbS.out.size
              have hK6 : OS w6 w.heap.size (.slice (some ⟨b, off, none⟩) L.length c) (.slice aS (S.length + 0) cS) := HKS.out.keep (fun q hq => grown_low HGS.out.row hgrow6 q hq (by omega))
              obtain ⟨t0, t1, t2, t3, t4⟩ := hK6.cells
              have hB6 : Below w.heap.size w w6 := grown_below (Below.later HB.out HbS.out) HGS.out.row hgrow6 (by omega) (Nat.le_refl _)
              have hG6 : Giv w6 (w.heap.size + 3) (.slice (some ⟨g6, 0, none⟩) (S.length + 0 + 1) cap6) (S ++ [⟨⟨lo, pa, ed⟩, gE, cE⟩]) 0 := by
                refine Giv.grown (wa := wS.alloc (.cells #[.string lo, .string pa, .slice (some ⟨gE, 0, none⟩) ed.length cE] 40)) HG.out (fun q h1 h2 => (Below.heap_alloc wS _ q (by omega)).trans (HbS.out.block q h2)) hgrow6 ?_ ?_ ?_ (.inr ⟨_, rfl, by have := HGE.out; simp only; omega⟩)
                · rw [cellsX_append, show (S ++ [(⟨⟨lo, pa, ed⟩, gE, cE⟩ : SecAt)]).length + 0 = S.length + 0 + 1 by simp, show markX 0 = [] from rfl, List.append_nil]
                  have h := hown6
                  rw [show markX 0 = [] from rfl, List.append_nil] at h
                  exact h
                · rcases hat6 with h | h
                  · exact .inl h
                  · exact .inr ⟨_, h, Nat.le_refl _⟩
                · intro x hx
                  rcases List.mem_append.1 hx with h | h
                  · exact .inl h
                  · right
                    rw [List.mem_singleton] at h
                    subst h
                    exact ⟨World.ownsRow.alloc HoS.out _, by have := HGE.out; simp only; omega⟩
              have HK6 := hid0 hK6
              have HB6 := hid0 hB6
              have HG6 := hid0 hG6
              have HZ6 : Hid (w.heap.size + 3 ≤ w6.heap.size) := hid0 (by have := hgrow6.size; simp at this; omega)
              clear hown6 hgrow6 hat6 hju1 hju2 hju3 hz hs2 hK6 hB6 hG6 x0 x1 x2 x3 x4 e0 e1 e2 e3)))
            have HKN : Hid (OS (w6.setCell ⟨w.heap.size + 1 + 1, 0, none⟩ (.slice (some ⟨g6, 0, none⟩) (S.length + 0 + 1) cap6)) w.heap.size (.slice (some ⟨b, off, none⟩) L.length c) (.slice (some ⟨g6, 0, none⟩) (S.length + 0 + 1) cap6)) := hid0 (HK6.out.set _)
            have HBN : Hid (Below w.heap.size w (w6.setCell ⟨w.heap.size + 1 + 1, 0, none⟩ (.slice (some ⟨g6, 0, none⟩) (S.length + 0 + 1) cap6))) := hid0 (HB6.out.setCell (by simp; omega) _)
            have HGN : Hid (Giv (w6.setCell ⟨w.heap.size + 1 + 1, 0, none⟩ (.slice (some ⟨g6, 0, none⟩) (S.length + 0 + 1) cap6)) (w.heap.size + 3) (.slice (some ⟨g6, 0, none⟩) (S.length + 0 + 1) cap6) (S ++ [⟨⟨lo, pa, ed⟩, gE, cE⟩]) 0) := hid0 (HG6.out.keep (fun q h1 _ => Below.heap_setCell w6 _ _ q (by simp; omega)))
            have HZN : Hid (w.heap.size + 3 ≤ (w6.setCell ⟨w.heap.size + 1 + 1, 0, none⟩ (.slice (some ⟨g6, 0, none⟩) (S.length + 0 + 1) cap6)).heap.size) := hid0 (by have := HZ6.out; simp [World.setCell]; omega)
            have HSN : Hid ((S ++ [(⟨⟨lo, pa, ed⟩, gE, cE⟩ : SecAt)]).map (·.s) = L.take (k + 1)) := hid0 (by rw [List.map_append, HSm.out, HSk.out]; rfl)
            clear HK6 HB6 HG6 HZ6 t0 t1 t2 t3 t4
            go_wp2
            go_roundw
            case rel => exact ⟨k + 1, _, _, by omega, by go_num, HKN, HSN, HGN, HBN, HZN⟩
            case measure => simp [intOf]; omega
    · have hkI : ¬ (k : Int) < (L.length : Int) := by omega
      have hSL : S.map (·.s) = L := by have h := HSm.out; rw [List.take_of_length_le (by omega)] at h; exact h
      have hSl : S.length = L.length := by have h := congrArg List.length hSL; rw [List.length_map] at h; exact h
      have HSL := hid0 hSL
      have hSb : S.length ≤ 1000000 := by omega
      have HSl := hid0 hSl
      obtain ⟨x0, x1, x2, x3, x4⟩ := HK.out.cells
      clear hSL HSm hSl
      go_wp2
      go_loopw [7] (fun i wi => ∃ (j : Nat) (v' : Value), j ≤ 64 ∧ i = .int .i64 (j : Int) ∧ Hid (OS wi w.heap.size (.slice a L.length c) v') ∧ Hid (Giv wi (w.heap.size + 3) v' S j) ∧ Hid (Below w.heap.size w wi) ∧ Hid (w.heap.size + 3 ≤ wi.heap.size)) (fun i _ => 64 - (intOf i).toNat)
      case atStart => exact ⟨0, v, Nat.zero_le _, rfl, HK, HG, HB, HZ⟩
      case round =>
        clear HK HG HB HZ x0 x1 x2 x3 x4
        obtain ⟨j, v', hj64, rfl, HK, HG, HB, HZ⟩ := hrel
        obtain ⟨x0, x1, x2, x3, x4⟩ := HK.out.cells
        by_cases hlt2 : j < 64
        · have hjI : (j : Int) < 64 := by omega
          obtain ⟨aS, cS, rfl⟩ := own_slice HG.out.row
          go_wp2_with (at_builtin; go_loud ((
            refine wpList_append_own_at _ (by rfl) _ _ 22 (by rfl) (w.heap.size + 3) 40 j0 (.agg #[.string ⟨#[]⟩, .string ⟨#[]⟩, .slice none 0 0]) 3 56 Tryz.underlying22 hj hy0 hy1 hy2 rfl (by decide) (.slice aS (S.length + j) cS) (S.length + j) (cellsX S ++ markX j) (by rfl) (World.ownsRow.alloc HG.out.row _) ⟨wr.heap.size, 0, none⟩ 1 1 [.string ⟨#[109, 97, 114, 107]⟩, .string ⟨#[]⟩, .slice none 0 0] (by rfl) (by rfl) (cell3_new _ _ _ _ _) (fun u hu => by simp only [List.mem_cons, List.not_mem_nil, or_false] at hu; rcases hu with rfl | rfl | rfl <;> rfl) (by unfold maxLen; omega) (by omega) (by have h1 := HZ.out; simp; omega) ?_
            intro v6 w6 hown6 hgrow6 hiff6 hat6
            clear hiff6
            obtain ⟨g6, cap6, rfl, hju1, hju2, hju3⟩ := own_form hown6 (Nat.succ_pos _)
            have hz := HZ.out
            have hK6 : OS w6 w.heap.size (.slice a L.length c) (.slice aS (S.length + j) cS) := HK.out.keep (fun q hq => grown_low HG.out.row hgrow6 q hq (by omega))
            obtain ⟨t0, t1, t2, t3, t4⟩ := hK6.cells
            have hB6 : Below w.heap.size w w6 := grown_below HB.out HG.out.row hgrow6 (by omega) (Nat.le_refl _)
            have hG6 : Giv w6 (w.heap.size + 3) (.slice (some ⟨g6, 0, none⟩) (S.length + j + 1) cap6) S (j + 1) := by
              refine Giv.grown (wa := wr.alloc (.cells #[.string ⟨#[109, 97, 114, 107]⟩, .string ⟨#[]⟩, .slice none 0 0] 40)) HG.out (fun q _ h2 => Below.heap_alloc wr _ q h2) hgrow6 ?_ ?_ (fun x hx => .inl hx) (.inl rfl)
              · rw [markX, ← List.append_assoc]
                exact hown6
              · rcases hat6 with h | h
                · exact .inl h
                · exact .inr ⟨_, h, Nat.le_refl _⟩
            have HK6 := hid0 hK6
            have HB6 := hid0 hB6
            have HG6 := hid0 hG6
            have HZ6 : Hid (w.heap.size + 3 ≤ w6.heap.size) := hid0 (by have := hgrow6.size; simp at this; omega)
            clear hown6 hgrow6 hat6 hju1 hju2 hju3 hz hK6 hB6 hG6 x0 x1 x2 x3 x4)))
          have HKN : Hid (OS (w6.setCell ⟨w.heap.size + 1 + 1, 0, none⟩ (.slice (some ⟨g6, 0, none⟩) (S.length + j + 1) cap6)) w.heap.size (.slice a L.length c) (.slice (some ⟨g6, 0, none⟩) (S.length + j + 1) cap6)) := hid0 (HK6.out.set _)
          have HBN : Hid (Below w.heap.size w (w6.setCell ⟨w.heap.size + 1 + 1, 0, none⟩ (.slice (some ⟨g6, 0, none⟩) (S.length + j + 1) cap6))) := hid0 (HB6.out.setCell (by simp; omega) _)
          have HGN : Hid (Giv (w6.setCell ⟨w.heap.size + 1 + 1, 0, none⟩ (.slice (some ⟨g6, 0, none⟩) (S.length + j + 1) cap6)) (w.heap.size + 3) (.slice (some ⟨g6, 0, none⟩) (S.length + j + 1) cap6) S (j + 1)) := hid0 (HG6.out.keep (fun q h1 _ => Below.heap_setCell w6 _ _ q (by simp; omega)))
          have HZN : Hid (w.heap.size + 3 ≤ (w6.setCell ⟨w.heap.size + 1 + 1, 0, none⟩ (.slice (some ⟨g6, 0, none⟩) (S.length + j + 1) cap6)).heap.size) := hid0 (by have := HZ6.out; simp [World.setCell]; omega)
          clear HK6 HB6 HG6 HZ6 t0 t1 t2 t3 t4
          go_wp2
          go_roundw
          case rel => exact ⟨j + 1, _, by omega, by go_num, HKN, HGN, HBN, HZN⟩
          case measure => simp [intOf]; omega
        · have hjI : ¬ (j : Int) < 64 := by omega
          obtain rfl : j = 64 := by omega
          obtain ⟨g, cap, rfl, hju1, hju2, hju3⟩ := own_form HG.out.row (by omega)
          have hSl := HSl.out
          obtain ⟨w8, hw8⟩ : ∃ w8, w8 = wr.setCell ⟨w.heap.size + 1 + 1, 0, none⟩ (.slice (some ⟨g, 0, none⟩) L.length cap) := ⟨_, rfl⟩
          have hK8 := HK.out.set (.slice (some ⟨g, 0, none⟩) L.length cap)
          rw [← hw8] at hK8
          obtain ⟨y0, y1, y2, y3, y4⟩ := hK8.cells
          have q0 : (0 : Int) ≤ (L.length : Int) := by omega
          have q1 : (L.length : Int) ≤ (cap : Int) := by omega
          have HV : Hid (Owned L w (.returned (.agg #[.slice (some ⟨g, 0, none⟩) L.length cap])) (w8.setCell ⟨w.heap.size + 1, 0, none⟩ (.slice (some ⟨g, 0, none⟩) L.length cap))) := hid0 (by
            refine ⟨g, cap, S, rfl, by omega, HSL.out, ?_, ?_⟩
            · have h1 := (HG.out.keep (w' := w8) (fun q h1 _ => by rw [hw8]; exact Below.heap_setCell wr _ _ q (by simp; omega))).keep (w' := w8.setCell ⟨w.heap.size + 1, 0, none⟩ (.slice (some ⟨g, 0, none⟩) L.length cap)) (fun q h1 _ => Below.heap_setCell w8 _ _ q (by simp; omega))
              rw [hSl] at h1
              exact ⟨owns_lower h1.row (by omega), fun x hx => owns_lower (h1.ed x hx) (by omega), h1.ne, h1.pw⟩
            · rw [hw8]
              exact (HB.out.setCell (by simp; omega) _).setCell (by simp) _)
          have c9 : (w8.setCell ⟨w.heap.size + 1, 0, none⟩ (.slice (some ⟨g, 0, none⟩) L.length cap)).cell? ⟨w.heap.size + 1, 0, none⟩ = some (.slice (some ⟨g, 0, none⟩) L.length cap) := by
            rw [cell_of_row _ _ _ _ _ _ (heap_setCell_same w8 _ 0 _ _ _ hK8.res)]; rfl
          have hf8 := hw8.symm
          clear hSl hw8 hK8 hju1 hju2 hju3 HK HG HB HZ HSL
          go_wp2
          refine bodyPost_ret ?_ rfl HV.out
          simp [results, Tryz.results5, go_sem, c9]
end Go.Proofs.YtlnejmmhhmmomaaGreatDoor
namespace Go.Proofs.YtlnejmmhhmmomaaGreatDoor
open Go.RowKit Go.Shelf Go.Lib Go.Maps
/-- What the last edit of an entry says of it. -/
def lastE (eds : List (Bool × ByteArray)) (x : ByteArray) : Option Bool := eds.foldl (fun o e => if e.2 = x then some e.1 else o) none
theorem lastE_snoc (eds : List (Bool × ByteArray)) (e : Bool × ByteArray) (x : ByteArray) : lastE (eds ++ [e]) x = if e.2 = x then some e.1 else lastE eds x := by
  unfold lastE
  rw [List.foldl_append]
  rfl
def keyB (x : ByteArray) : Lit := .string x.data.toList
theorem keyB_inj {x y : ByteArray} (h : keyB x = keyB y) : x = y := by
  unfold keyB at h
  injection h with h
  exact ByteArray.ext (Array.toList_inj.1 h)
/-- How an outcome reads. -/
def outElem (v : Value) : Option (DataW Unit × List MemPlace) := match v with
  | .agg ⟨[.bool x]⟩ => some (.lit (.bool x), [])
  | _ => none
theorem outElem_mk (x : Bool) : outElem (.agg #[.bool x]) = some (.lit (.bool x), []) := rfl
theorem outElem_inv {v : Value} {y : DataW Unit × List MemPlace} (h : outElem v = some y) : ∃ c : Bool, v = .agg #[.bool c] ∧ y = (.lit (.bool c), []) := by
  unfold outElem at h
  split at h
  · rename_i x
    cases h
    exact ⟨x, rfl, rfl⟩
  · cases h
theorem lawK : Keyed Tryz.prog 9 := string_keyed Tryz.underlying9
/-- Does a datum say of every entry what the last edit says? -/
def Says (D : DataW Unit) (eds : List (Bool × ByteArray)) : Prop := ∀ x : ByteArray, Maps.has D (keyB x) = (lastE eds x).isSome ∧ ∀ b, lastE eds x = some b → ∀ z, D.atKey (keyB x) z = .lit (.bool b)
theorem says_nil : Says (.map []) [] := fun x => ⟨rfl, fun b h => by cases h⟩
theorem says_put {D : DataW Unit} {eds : List (Bool × ByteArray)} (h : Says D eds) (hD : IsMap D) (e : Bool × ByteArray) (hk : WideAt.IsKeyLit (keyB e.2)) : Says (D.put (keyB e.2) (.lit (.bool e.1))) (eds ++ [e]) := fun x => by
  rw [lastE_snoc]
  by_cases hx : e.2 = x
  · subst hx
    rw [if_pos rfl]
    exact ⟨by rw [has_put_same hD hk]; rfl, fun b hb z => by cases hb; exact atKey_put_same hD hk _ z⟩
  · rw [if_neg hx]
    have hne : keyB x ≠ keyB e.2 := fun he => hx (keyB_inj he).symm
    exact ⟨by rw [has_put_other hne]; exact (h x).1, fun b hb z => by rw [atKey_put_other hne]; exact (h x).2 b hb z⟩
/-- The block B is a map of at most n entries that says what the edits come to. -/
def MapIs (w : World) (B n : Nat) (eds : List (Bool × ByteArray)) : Prop := ∃ D, w.ownsMap Tryz.prog 9 outElem B n D ∧ Says D eds
end Go.Proofs.YtlnejmmhhmmomaaGreatDoor
namespace Go.Proofs.YtlnejmmhhmmomaaGreatDoor
open Go.RowKit Go.Shelf Go.Lib Go.Maps
theorem keyB_is (x : ByteArray) : WideAt.IsKeyLit (keyB x) := trivial
theorem EA.grownM {w w' : World} {a : Option Addr} {L eds : List (Bool × ByteArray)} {B n : Nat} (h : EA w a L) (hm : MapIs w B n eds) (hg : w.grownBy w' (some B)) : EA w' a L := ⟨fun k hk => by
  obtain ⟨b, off, e, hl, h0, h1⟩ := h.at' k hk
  obtain ⟨D, ⟨es, clock, hb, _⟩, _⟩ := hm
  have hne : some b ≠ some B := fun e => by
    cases e
    unfold World.cell? at h0
    rw [hb] at h0
    simp at h0
  have hb' := hg.block b hl hne
  exact ⟨b, off, e, Nat.lt_of_lt_of_le hl hg.size, (World.cell?_of_block (a := ⟨b, off + k * 2, none⟩) hb').trans h0, (World.cell?_of_block (a := ⟨b, off + k * 2 + 1, none⟩) hb').trans h1⟩⟩
set_option maxRecDepth 10000 in
set_option maxHeartbeats 800000 in
theorem take_any (ed eds : List (Bool × ByteArray)) (a : Option Addr) (ca B n : Nat) (w : World) (hl : ed.length ≤ 1000000000) (hn : n ≤ 1000000000000) (hz : ∀ e ∈ ed, e.2.size ≤ 140737488355328) (ha : EA w a ed) (hm : MapIs w B n eds) :
    Calls Tryz.prog 16 #[.map (some B), .slice a ed.length ca] w fun e w' => (∃ v, e = .returned v) ∧ MapIs w' B (n + ed.length) (eds ++ ed) ∧ w.grownBy w' (some B) := by
  have HA := hid0 (fun wr (hg : w.grownBy wr (some B)) => ha.grownM hm hg)
  have HM := hid0 hm
  have HZ := hid0 hz
  clear ha hm hz
  go_enter Tryz.func16, Tryz.ntmps16
  go_wp2
  go_loopw [8] (fun i wr => ∃ k : Nat, k ≤ ed.length ∧ i = .int .i64 (k : Int) ∧ Hid (MapIs wr B (n + k) (eds ++ ed.take k)) ∧ Hid (w.grownBy wr (some B))) (fun i _ => ed.length - (intOf i).toNat)
  case atStart => exact ⟨0, Nat.zero_le _, rfl, hid0 (by rw [List.take_zero, List.append_nil]; exact HM.out), hid0 ⟨rfl, rfl, rfl, Nat.le_refl _, fun _ _ _ => rfl⟩⟩
  case round =>
    obtain ⟨k, hk, rfl, HMk, HGk⟩ := hrel
    by_cases hlt : k < ed.length
    · obtain ⟨b, off, rfl, hbl, c0, c1⟩ := (HA.out wr HGk.out).at' k hlt
      have hkI : (k : Int) < (ed.length : Int) := by omega
      have hkI0 : (0 : Int) ≤ (k : Int) := by omega
      have hsz := HZ.out ed[k] (List.getElem_mem hlt)
      have HTk : Hid (ed.take (k + 1) = ed.take k ++ [ed[k]]) := hid0 (by rw [List.take_add_one, List.getElem?_eq_getElem hlt]; rfl)
      generalize ed[k] = e at *
      obtain ⟨eb, es⟩ := e
      simp only at c0 c1 hsz
      obtain ⟨D, hD, hsay⟩ := HMk.out
      have HD := hid0 hD
      have HSy := hid0 hsay
      clear hbl hD hsay
      go_wp2_with (first
        | (at_mapUpdate; go_loud ((
            refine wpList_mapUpdate_own _ rfl _ _ _ 48 rfl 9 69 lawK Tryz.underlying48 outElem B (n + k) D rfl (HD.out.alloc _) (by unfold maxLen; omega) (.string es) (.agg #[.bool eb]) (keyB es) rfl rfl (Go.WideMaps.keyOf_string_mk Tryz.underlying9 (by unfold maxLen; omega)) (.lit (.bool eb)) [] (outElem_mk eb) ?_
            intro w1 hown1 hgrow1
            have HO1 := hid0 hown1
            have HG1 : Hid (w.grownBy w1 (some B)) := hid0 ((HGk.out.trans (World.grownBy_alloc wr _ _)).trans hgrow1)
            clear hown1 hgrow1)))
        | fail)
      have HMN : Hid (MapIs w1 B (n + (k + 1)) (eds ++ ed.take (k + 1))) := hid0 ⟨_, HO1.out, by rw [HTk.out, ← List.append_assoc]; exact says_put HSy.out HD.out.isMap (eb, es) (keyB_is es)⟩
      clear HO1 HD HSy HMk
      go_wp2
      go_roundw
      case rel => exact ⟨k + 1, hlt, by go_num, HMN, HG1⟩
      case measure => simp [intOf]; omega
    · have hkI : ¬ (k : Int) < (ed.length : Int) := by omega
      have HE : Hid (MapIs wr B (n + ed.length) (eds ++ ed)) := hid0 (by
        have h := HMk.out
        rw [List.take_of_length_le (by omega), show k = ed.length by omega] at h
        exact h)
      go_wp2
      go_returns
      exact ⟨⟨_, rfl⟩, HE.out, HGk.out⟩
end Go.Proofs.YtlnejmmhhmmomaaGreatDoor
namespace Go.Proofs.YtlnejmmhhmmomaaGreatDoor
open Go.RowKit Go.Shelf Go.Lib Go.Maps Go.Sort
/-- The sort's contract. -/
def SortS : Prop := ∀ (blk off cap : Nat) (ss : List (List UInt8)) (w : World), Holds encStr w blk off ss.toArray → blk < w.heap.size → ss.length < 4611686018427387904 →
  Calls Tryz.prog 36 #[.slice (some ⟨blk, off, none⟩) ss.length cap] w fun e w' => e = .returned (.tuple #[]) ∧ ∃ n os, w' = grow (putRow encStr (Sort.ahead w n) blk off (ss.mergeSort fun x y => decide (x ≤ y)).toArray) os
/-- What is collected of the entries that have come: those that are there. -/
def Coll (D : DataW Unit) (left : Lit → Bool) (ss : List (List UInt8)) : Prop := ss.Nodup ∧ ∀ x, x ∈ ss ↔ (Maps.has D (.string x) = true ∧ left (.string x) = false ∧ D.atKey (.string x) .nil = .lit (.bool true))
theorem same_str (x y : List UInt8) : (Lit.string x).sameKey (.string y) = decide (x = y) := by
  by_cases h : x = y
  · subst h
    rw [WideAt.sameKey_self (a := .string x) trivial]
    simp
  · rw [Maps.sameKey_ne (fun e => h (by injection e))]
    simp [h]
theorem coll_start (D : DataW Unit) : Coll D (Maps.has D) [] := ⟨List.nodup_nil, fun x => by cases Maps.has D (.string x) <;> simp⟩
theorem coll_yes {D : DataW Unit} {left : Lit → Bool} {ss : List (List UInt8)} (h : Coll D left ss) {x : List UInt8} (hlk : left (.string x) = true) (hat : ∀ z, D.atKey (.string x) z = .lit (.bool true)) : Coll D (fun z => left z && !z.sameKey (.string x)) (ss ++ [x]) := by
  refine ⟨List.nodup_append.2 ⟨h.1, by simp, fun a ha b hb => ?_⟩, fun y => ?_⟩
  · rw [List.mem_singleton] at hb
    subst hb
    intro e
    subst e
    have := ((h.2 a).1 ha).2.1
    rw [hlk] at this
    cases this
  · rw [List.mem_append, List.mem_singleton, h.2 y]
    simp only [same_str]
    by_cases e : y = x
    · subst e
      simp [Maps.has_true_of_atKey hat, hat]
    · simp [e]
theorem coll_no {D : DataW Unit} {left : Lit → Bool} {ss : List (List UInt8)} (h : Coll D left ss) {x : List UInt8} (hlk : left (.string x) = true) (hat : ∀ z, D.atKey (.string x) z = .lit (.bool false)) : Coll D (fun z => left z && !z.sameKey (.string x)) ss := by
  refine ⟨h.1, fun y => ?_⟩
  rw [h.2 y]
  simp only [same_str]
  by_cases e : y = x
  · subst e
    simp [hlk, hat]
  · simp [e]
theorem mapSize_le {w : World} {B n : Nat} {D : DataW Unit} (h : w.ownsMap Tryz.prog 9 outElem B n D) : Maps.size D ≤ n := by
  obtain ⟨es, c, h1, F, hle, rfl⟩ := h
  rw [Maps.size_eq, length_sorted, List.length_map]
  simpa using hle
/-- A rising list of texts. -/
def Rising (l : List ByteArray) : Prop := l.Pairwise fun x y => x.data.toList < y.data.toList
def bytesOf (l : List UInt8) : ByteArray := ⟨l.toArray⟩
theorem bytesOf_data (l : List UInt8) : (bytesOf l).data.toList = l := by simp [bytesOf]
theorem rising_sort (ss : List (List UInt8)) (h : ss.Nodup) : Rising ((ss.mergeSort fun x y => decide (x ≤ y)).map bytesOf) := by
  unfold Rising
  rw [List.pairwise_map]
  have h1 : (ss.mergeSort fun x y => decide (x ≤ y)).Pairwise fun x y => x ≤ y := by
    have := List.pairwise_mergeSort (le := fun x y : List UInt8 => decide (x ≤ y)) (fun a b c hab hbc => by simp only [decide_eq_true_eq] at *; exact List.le_trans hab hbc) (fun a b => by simp only [Bool.or_eq_true, decide_eq_true_eq]; exact List.le_total a b) ss
    exact this.imp (fun h => by simpa using h)
  have h2 : (ss.mergeSort fun x y => decide (x ≤ y)).Nodup := (List.mergeSort_perm ss _).nodup_iff.2 h
  refine (h1.and h2).imp (fun {x y} ⟨hle, hne⟩ => ?_)
  rw [bytesOf_data, bytesOf_data]
  exact Std.lt_of_le_of_ne hle hne
theorem mem_sort (ss : List (List UInt8)) (x : ByteArray) : x ∈ (ss.mergeSort fun x y => decide (x ≤ y)).map bytesOf ↔ x.data.toList ∈ ss := by
  rw [List.mem_map]
  constructor
  · rintro ⟨l, hl, rfl⟩
    rw [bytesOf_data]
    exact (List.mergeSort_perm ss _).mem_iff.1 hl
  · intro h
    exact ⟨x.data.toList, (List.mergeSort_perm ss _).mem_iff.2 h, ByteArray.ext (by simp [bytesOf])⟩
set_option maxRecDepth 10000 in
set_option maxHeartbeats 800000 in
theorem sort_nil (w : World) : Calls Tryz.prog 36 #[.slice none 0 0] w fun e w' => e = .returned (.tuple #[]) ∧ Below w.heap.size w w' := by
  go_enter Tryz.func36, Tryz.ntmps36
  go_wp2
  go_rounds 1
  go_rounds 1
  go_returns
  exact ⟨rfl, Below.refl _ _⟩
set_option maxRecDepth 10000 in
set_option maxHeartbeats 1600000 in
theorem entries_any (hS : SortS) (eds : List (Bool × ByteArray)) (B n : Nat) (w : World) (hn : n ≤ 1000000000000) (hBw : B < w.heap.size) (hm : MapIs w B n eds) :
    Calls Tryz.prog 18 #[.map (some B)] w fun e w' => (∃ v l, e = .returned v ∧ OwnS w' w.heap.size v l ∧ Rising l ∧ ∀ x, x ∈ l ↔ lastE eds x = some true) ∧ Below w.heap.size w w' := by
  obtain ⟨i0, hi, hz0, hz1, hz2⟩ := info_parts infoStr
  obtain ⟨D, hown, hsay⟩ := hm
  have hsz := mapSize_le hown
  have HSy := hid0 hsay
  have HST := hid0 hS
  clear hsay hS
  go_enter Tryz.func18, Tryz.ntmps18
  go_wp2_with (first
    | (at_range; refine wpList_range_own _ rfl _ 48 rfl 9 69 lawK Tryz.underlying48 _ B n _ rfl hown ?_; intro w0 hrg0 hg0 hs0)
    | fail)
  go_frame
  have hB0 : Below w.heap.size w w0 := below_grown hg0
  go_loopw [3] (fun v wr => ∃ (left : Lit → Bool) (cnt : Nat) (ss : List (List UInt8)), wr.ranges Tryz.prog 9 outElem B w.heap.size n D left cnt ∧ ss.length + cnt ≤ n ∧ wr.ownsRow w.heap.size 9 1 v ss.length (ss.map encStr) ∧ Coll D left ss ∧ Below w.heap.size w wr) (fun _ wr => wr.rangeLeft B w.heap.size)
  case atStart => exact ⟨_, _, [], hrg0, by simpa using hsz, World.ownsRow_nil _ _ _ _, coll_start D, hB0⟩
  case round =>
    obtain ⟨left, cnt, ss, hrg, hcs, hrow, hC, hnx⟩ := hrel
    go_wp2_with (first
      | (at_next; refine wpList_next_ranges _ rfl _ rfl 9 lawK outElem encStr (fun c : Nat => .agg #[.bool (c == 0)]) (fun key kl hk => by obtain ⟨x, hx, _⟩ := Maps.keyOf_str Tryz.underlying9 hk; exact ⟨x, hx⟩) (fun v y hv => by obtain ⟨c, rfl, _⟩ := outElem_inv hv; exact ⟨if c then 0 else 1, by cases c <;> rfl⟩) B w.heap.size n _ _ _ rfl hrg ?_ ?_)
      | fail)
    · intro hc0 hl0
      have HC := hid0 hC
      have HL0 := hid0 hl0
      rcases hrow.2 with ⟨rfl, hnil⟩ | ⟨g, cap, cur, rfl, hbase, hb, h1, h2, h3, h4⟩
      · have hss : ss = [] := List.length_eq_zero_iff.1 hnil
        subst hss
        have HNx := hid0 hnx
        have HN := hid0 (sort_nil wr)
        have HV : Hid (∀ x, x ∈ ([] : List ByteArray) ↔ lastE eds x = some true) := hid0 (fun x => by
          refine ⟨fun h => (by cases h), fun h => ?_⟩
          have h1 := (HC.out.2 x.data.toList).2 ⟨by rw [show Lit.string x.data.toList = keyB x from rfl, (HSy.out x).1, h]; rfl, HL0.out _, (HSy.out x).2 true h _⟩
          cases h1)
        clear hrow hrg hnx hC hl0 hc0 hcs hrg0 hown hg0 hs0 hB0
        go_wp2_with (go_at_call 36; refine HN.out.mono ?_; rintro e w5 ⟨rfl, hb5⟩; have HB5 := hid0 (Below.later HNx.out hb5); clear hb5)
        go_ret
        exact ⟨⟨.slice none 0 0, [], rfl, World.ownsRow_nil _ _ _ _, List.Pairwise.nil, HV.out⟩, HB5.out⟩
      · have hH : Holds encStr wr g 0 ss.toArray := holds_of_block hb (by simpa using h4)
        have hgl : g < wr.heap.size := (Array.getElem?_eq_some_iff.1 hb).1
        have HN := hid0 (HST.out g 0 cap ss wr hH hgl (by omega))
        have HO : Hid (∀ n' os, OwnS (grow (putRow encStr (Sort.ahead wr n') g 0 (ss.mergeSort fun x y => decide (x ≤ y)).toArray) os) w.heap.size (.slice (some ⟨g, 0, none⟩) ss.length cap) ((ss.mergeSort fun x y => decide (x ≤ y)).map bytesOf)) := hid0 (fun n' os => by
          have h := ownsRow_sorted (n := n') (os := os) (ss := ss) (ts := ss.mergeSort fun x y => decide (x ≤ y)) (by simp) hbase hb h1 h2 h3
          unfold OwnS
          rw [List.length_map, List.length_mergeSort, show cellsS ((ss.mergeSort fun x y => decide (x ≤ y)).map bytesOf) = (ss.mergeSort fun x y => decide (x ≤ y)).map encStr by simp [cellsS, bytesOf, Function.comp_def]]
          exact h)
        have HBE : Hid (∀ n' os, Below w.heap.size w (grow (putRow encStr (Sort.ahead wr n') g 0 (ss.mergeSort fun x y => decide (x ≤ y)).toArray) os)) := hid0 (fun n' os => hnx.grown (grownBy_sorted _) hnx.size (fun j hj => by cases hj; exact hbase))
        have HR := hid0 (rising_sort ss HC.out.1)
        have HV : Hid (∀ x, x ∈ (ss.mergeSort fun x y => decide (x ≤ y)).map bytesOf ↔ lastE eds x = some true) := hid0 (fun x => by
          rw [mem_sort, HC.out.2]
          rw [show Lit.string x.data.toList = keyB x from rfl, (HSy.out x).1]
          constructor
          · rintro ⟨h1, _, h3⟩
            cases hq : lastE eds x with
            | none => rw [hq] at h1; cases h1
            | some b =>
              rw [(HSy.out x).2 b hq] at h3
              cases b
              · cases h3
              · rfl
          · intro h
            rw [h]
            exact ⟨rfl, HL0.out _, (HSy.out x).2 true h _⟩)
        clear hrow hrg hnx hC hl0 hc0 hcs hrg0 hown hg0 hs0 hB0 hH hb h1 h2 h3 h4
        go_wp2_with (go_at_call 36; refine HN.out.mono ?_; rintro e w5 ⟨rfl, nn, os, rfl⟩)
        go_ret
        exact ⟨⟨_, _, rfl, HO.out nn os, HR.out, HV.out⟩, HBE.out nn os⟩
    · intro x c kl yd yp w2 cnt2 hkey hlk hv hat hrg2 hlt hg2 hs2 hen
      obtain ⟨x', ex, rfl, hxl⟩ := Maps.keyOf_str Tryz.underlying9 hkey
      obtain rfl : x = x' := encStr_inj ex
      have hrow2 := hrow.kept hg2 (Or.inr (row_ne_iter hrow hrg).symm)
      have hbne : some B ≠ ((Value.slice none 0 0).ownBlock) := by simp [Value.ownBlock]
      have hyd : yd = .lit (.bool (c == 0)) := by
        obtain ⟨c', e1, e2⟩ := outElem_inv hv
        injection e1 with e1
        have e3 : Value.bool (c == 0) = .bool c' := by
          have := congrArg (fun a : Array Value => a[0]?) e1
          simpa using this
        injection e3 with e3
        injection e2 with e2 _
        rw [e2, e3]
      rw [hyd] at hat
      have hnx2 : Below w.heap.size w w2 := hnx.grown hg2 hnx.size (fun j hj => by cases hj; exact Nat.le_refl _)
      have hw2 := hg2.size
      have hnw := hnx.size
      clear hs2 ex hkey hv hyd hbne
      cases hc : (c == 0) with
      | true =>
        rw [hc] at hat hen
        have hrow3 := hrow2.alloc (.cells #[.bool true] 69)
        have hn1 : ∀ j u, [encStr x][j]? = some u → ((w2.alloc (.cells #[.bool true] 69)).alloc (.cells #[encStr x] 9)).cell? ((⟨w2.heap.size + 1, 0, none⟩ : Addr).add j) = some u := by
          have h := cell_one_new (w2.alloc (.cells #[.bool true] 69)) (encStr x) 9
          rw [show (w2.alloc (.cells #[.bool true] 69)).heap.size = w2.heap.size + 1 by simp] at h
          exact h
        have HN1 := hid0 hn1
        have hrow4 := hrow3.alloc (.cells #[encStr x] 9)
        have HR4 := hid0 hrow4
        clear hn1 hrow4
        go_wp2_with (first
          | (at_builtin; go_loud ((
              refine wpList_append_own _ rfl _ _ 28 rfl w.heap.size 9 i0 (.string ⟨#[]⟩) 1 16 Tryz.underlying28 hi hz0 hz1 hz2 rfl (by decide) u3 ss.length (ss.map encStr) rfl HR4.out ⟨w2.heap.size + 1, 0, none⟩ 1 1 [encStr x] rfl rfl HN1.out (by simp [Value.oneCell', encStr]) (by unfold maxLen; omega) (by omega) (by simp; omega) ?_
              intro v' w3 hown' hg3 hnil3
              go_frame)))
          | fail)
        have hrg3 := ((hrg2.alloc (.cells #[.bool true] 69)).alloc (.cells #[encStr x] 9)).kept hg3 (row_ne_low HR4.out hBw) (row_ne_iter HR4.out ((hrg2.alloc _).alloc _))
        refine ⟨⟨_, cnt2, ss ++ [x], hrg3, by simp; omega, by simpa using hown', coll_yes hC hlk hat, ?_⟩, by rw [hrg3.left_eq, hrg.left_eq]; exact hlt⟩
        exact ((hnx2.alloc (by omega) _).alloc (by simp; omega) _).grown hg3 (by simp; omega) (fun j hj => (World.ownsRow.lt HR4.out j hj).1)
      | false =>
        rw [hc] at hat hen
        go_wp2
        exact ⟨⟨_, cnt2, ss, hrg2.alloc _, by omega, hrow2.alloc _, coll_no hC hlk hat, hnx2.alloc (by omega) _⟩, by rw [(hrg2.alloc _).left_eq, hrg.left_eq]; exact hlt⟩
end Go.Proofs.YtlnejmmhhmmomaaGreatDoor
namespace Go.Proofs
open Go.Shelf
def Tryz.lays190_ren : Go.Shelf.Ren := ⟨fun | 190 => 36 | 125 => 48 | 258 => 47 | 128 => 74 | 129 => 75 | 302 => 65 | 303 => 66 | 304 => 67 | 305 => 68 | 306 => 69 | 307 => 70 | 308 => 71 | 309 => 72 | 310 => 73 | 333 => 92 | 329 => 93 | 330 => 94 | 334 => 95 | 335 => 96 | 336 => 97 | 344 => 122 | n => n, fun | 31 => 28 | 9 => 9 | 3 => 3 | 46 => 84 | 0 => 0 | 51 => 114 | 53 => 116 | 4 => 4 | 183 => 106 | 182 => 105 | 131 => 111 | 5 => 5 | 218 => 126 | 222 => 130 | 228 => 150 | 229 => 117 | n => n, fun | n => n⟩
theorem Tryz.lays190 : Go.Proofs.Lays.n190 Tryz.prog Tryz.lays190_ren := {
  mixed := by kernel_rfl
  f125 := Tryz.func48.trans (congrArg some (by kernel_rfl))
  f128 := Tryz.func74.trans (congrArg some (by kernel_rfl))
  f129 := Tryz.func75.trans (congrArg some (by kernel_rfl))
  f190 := Tryz.func36.trans (congrArg some (by kernel_rfl))
  f258 := Tryz.func47.trans (congrArg some (by kernel_rfl))
  f302 := Tryz.func65.trans (congrArg some (by kernel_rfl))
  f303 := Tryz.func66.trans (congrArg some (by kernel_rfl))
  f304 := Tryz.func67.trans (congrArg some (by kernel_rfl))
  f305 := Tryz.func68.trans (congrArg some (by kernel_rfl))
  f306 := Tryz.func69.trans (congrArg some (by kernel_rfl))
  f307 := Tryz.func70.trans (congrArg some (by kernel_rfl))
  f308 := Tryz.func71.trans (congrArg some (by kernel_rfl))
  f309 := Tryz.func72.trans (congrArg some (by kernel_rfl))
  f310 := Tryz.func73.trans (congrArg some (by kernel_rfl))
  f329 := Tryz.func93.trans (congrArg some (by kernel_rfl))
  f330 := Tryz.func94.trans (congrArg some (by kernel_rfl))
  f333 := Tryz.func92.trans (congrArg some (by kernel_rfl))
  f334 := Tryz.func95.trans (congrArg some (by kernel_rfl))
  f335 := Tryz.func96.trans (congrArg some (by kernel_rfl))
  f336 := Tryz.func97.trans (congrArg some (by kernel_rfl))
  f344 := Tryz.func122.trans (congrArg some (by kernel_rfl))
  t0 := Tryz.underlying0
  a0 := Tryz.isAgg0
  z0 := Tryz.sizeOf0
  v0 := Tryz.zeroValue0
  t3 := Tryz.underlying3
  a3 := Tryz.isAgg3
  z3 := Tryz.sizeOf3
  v3 := Tryz.zeroValue3
  t4 := Tryz.underlying4
  a4 := Tryz.isAgg4
  z4 := Tryz.sizeOf4
  v4 := Tryz.zeroValue4
  t5 := Tryz.underlying5
  a5 := Tryz.isAgg5
  z5 := Tryz.sizeOf5
  v5 := Tryz.zeroValue5
  t9 := Tryz.underlying9
  a9 := Tryz.isAgg9
  z9 := Tryz.sizeOf9
  v9 := Tryz.zeroValue9
  t31 := Tryz.underlying28
  a31 := Tryz.isAgg28
  z31 := Tryz.sizeOf28
  v31 := Tryz.zeroValue28
  t46 := Tryz.underlying84
  a46 := Tryz.isAgg84
  z46 := Tryz.sizeOf84
  v46 := Tryz.zeroValue84
  t51 := Tryz.underlying114
  a51 := Tryz.isAgg114
  z51 := Tryz.sizeOf114
  v51 := Tryz.zeroValue114
  t53 := Tryz.underlying116
  a53 := Tryz.isAgg116
  z53 := Tryz.sizeOf116
  v53 := Tryz.zeroValue116
  t131 := Tryz.underlying111
  a131 := Tryz.isAgg111
  z131 := Tryz.sizeOf111
  v131 := Tryz.zeroValue111
  t182 := Tryz.underlying105
  a182 := Tryz.isAgg105
  z182 := Tryz.sizeOf105
  v182 := Tryz.zeroValue105
  t183 := Tryz.underlying106
  a183 := Tryz.isAgg106
  z183 := Tryz.sizeOf106
  v183 := Tryz.zeroValue106
  t218 := Tryz.underlying126
  a218 := Tryz.isAgg126
  z218 := Tryz.sizeOf126
  v218 := Tryz.zeroValue126
  t222 := Tryz.underlying130
  a222 := Tryz.isAgg130
  z222 := Tryz.sizeOf130
  v222 := Tryz.zeroValue130
  t228 := Tryz.underlying150
  a228 := Tryz.isAgg150
  z228 := Tryz.sizeOf150
  v228 := Tryz.zeroValue150
  t229 := Tryz.underlying117
  a229 := Tryz.isAgg117
  z229 := Tryz.sizeOf117
  v229 := Tryz.zeroValue117 }
end Go.Proofs
namespace Go.Proofs.YtlnejmmhhmmomaaGreatDoor
open Go.RowKit Go.Shelf Go.Lib Go.Maps Go.Sort
theorem sortS : SortS := fun blk off cap ss w hH hb hl => Any.slices_Sort_string Tryz.lays190 blk off cap ss w hH hb hl
/-- All rows of cells are as they were. -/
def KC (W W' : World) : Prop := (∀ (i : Nat) c t z, W.heap[i]? = some (.cells c t z) → W'.heap[i]? = some (.cells c t z)) ∧ W.heap.size ≤ W'.heap.size
theorem KC.refl (W : World) : KC W W := ⟨fun _ _ _ _ h => h, Nat.le_refl _⟩
theorem KC.trans {A B C : World} (h : KC A B) (k : KC B C) : KC A C := ⟨fun i c t z hi => k.1 i c t z (h.1 i c t z hi), Nat.le_trans h.2 k.2⟩
theorem KC.ofBelow {W W' : World} (h : Below W.heap.size W W') : KC W W' := ⟨fun i _ _ _ hi => (h.block i (Array.getElem?_eq_some_iff.1 hi).1).trans hi, h.size⟩
set_option maxRecDepth 100000 in
set_option maxHeartbeats 2000000 in
theorem back1_in (n : Nat) (hn : 1 ≤ n) (l Bn g cap B : Nat) (C : List ByteArray) (cur : Array Value) (hl : C.length ≤ 1000) (J Jx : List (Nat × ByteArray) → World → Prop) (_hJ : AbidesFrom B J)
    (hY : ∀ pre x W, J pre W → pre.length < C.length → YieldAt Fence.wide (n - 1) Tryz.prog l #[.int .i64 ((x.1 : Nat) : Int), .string x.2] W fun e W' =>
      (e = .returned (.bool true) ∧ J (pre ++ [x]) W' ∧ KC W W') ∨ (e = .returned (.bool false) ∧ Jx (pre ++ [x]) W'))
    (W : World) (hBn : W.heap[Bn]? = some (.cells #[.slice (some ⟨g, 0, none⟩) C.length cap] 28 (0, 0))) (hg : W.heap[g]? = some (.cells cur 9 (0, 0))) (hcur : ∀ k (h : k < C.length), cur[k]? = some (.string C[k])) (h0 : J [] W) :
    CallsIn Fence.wide n Tryz.prog 33 #[.func (.yield l) #[] #[], .pointer (some ⟨Bn, 0, none⟩)] W fun e W' => (∃ v, e = .returned v) ∧
      ((∃ ys : List (Nat × ByteArray), ys.map (·.2) = C.reverse ∧ J ys W') ∨ (∃ pre : List (Nat × ByteArray), True ∧ Jx pre W')) := by
  have hcell : W.cell? ⟨Bn, 0, none⟩ = some (.slice (some ⟨g, 0, none⟩) C.length cap) := by rw [cell_of_row W Bn 0 _ _ _ hBn]; rfl
  refine callsIn_of_wp Tryz.func33 rfl trivial ?_ rfl
  simp only [Tryz.ntmps33, List.size_toArray, List.length_cons, List.length_nil, Nat.reduceAdd, Nat.reduceSub, Array.replicate_succ, Array.replicate_zero, List.push_toArray, List.append_toArray, List.nil_append, List.cons_append]
  have hlI : (C.length : Int) ≤ 1000 := by omega
  have hw : IntKind.i64.wrap ((C.length : Int) - 1) = (C.length : Int) - 1 := by simp [IntKind.wrap, IntKind.bits, IntKind.signed]; omega
  gi_wp2
  have HYd := hid0 hY
  have H0 := hid0 h0
  have HBn := hid0 hBn
  have HG := hid0 hg
  have HC := hid0 hcur
  clear hY h0 hBn hg hcur hcell
  gi_loopw [3] (fun i wr => ∃ (k : Nat) (pre : List (Nat × ByteArray)), k ≤ C.length ∧ i = .int .i64 ((k : Int) - 1) ∧ Hid (pre.map (·.2) = (C.drop k).reverse) ∧ Hid (J pre wr) ∧ Hid (KC W wr)) (fun i _ => (intOf i + 1).toNat)
  case atStart => exact ⟨C.length, [], Nat.le_refl _, rfl, hid0 (by simp), H0, hid0 (KC.refl _)⟩
  case round =>
    clear H0
    obtain ⟨k, pre, hk, rfl, HP, HJ, HK⟩ := hrel
    cases k with
    | zero =>
      have hneg : ¬ (0 : Int) ≤ ((0 : Nat) : Int) - 1 := by omega
      gi_wp2
      go_end0
      exact ⟨⟨_, rfl⟩, .inl ⟨pre, by have h := HP.out; rw [List.drop_zero] at h; exact h, HJ.out⟩⟩
    | succ m =>
      have hm : (((m + 1 : Nat) : Int) - 1) = (m : Int) := by omega
      rw [hm]
      have hcell : wr.cell? ⟨Bn, 0, none⟩ = some (.slice (some ⟨g, 0, none⟩) C.length cap) := by rw [cell_of_row wr Bn 0 _ _ _ (HK.out.1 _ _ _ _ HBn.out)]; rfl
      have hel : wr.cell? ⟨g, m, none⟩ = some (.string C[m]) := by rw [cell_of_row wr g m _ _ _ (HK.out.1 _ _ _ _ HG.out)]; exact HC.out m (by omega)
      have hpl : pre.length < C.length := by have h := congrArg List.length HP.out; simp at h; omega
      obtain ⟨fn, tmps, assign, body, hy, hR⟩ := HYd.out pre (m, C[m]) wr HJ.out hpl
      have HR := hid0 hR
      have HP2 : Hid ((pre ++ [(m, C[m])]).map (·.2) = (C.drop m).reverse) := hid0 (by
        rw [List.map_append, HP.out, List.drop_eq_getElem_cons (by omega : m < C.length), List.reverse_cons]; rfl)
      have m0 : (0 : Int) ≤ (m : Int) := by omega
      have m1 : (m : Int) < (C.length : Int) := by omega
      generalize C[m] = x at *
      clear hR hm hpl HP HJ
      gi_wp2
      clear hy
      refine HR.out.mono ?_
      rintro e W3 (⟨rfl, hJ3, hk3⟩ | ⟨rfl, hJx3⟩)
      · have HJ3 := hid0 hJ3
        have HK3 := hid0 (HK.out.trans hk3)
        clear hJ3 hk3
        gi_wp2
        go_roundw
        case rel => exact ⟨m, pre ++ [(m, x)], by omega, by go_num, HP2, HJ3, HK3⟩
        case measure => simp [intOf]
      · gi_wp2
        refine bodyPost_ret (results_none rfl _ _ _) rfl ?_
        exact ⟨⟨_, rfl⟩, .inr ⟨pre ++ [(m, x)], trivial, hJx3⟩⟩
theorem back_stops (n : Nat) (hn : 1 ≤ n) (Bn g cap : Nat) (C : List ByteArray) (cur : Array Value) (hl : C.length ≤ 1000) (w : World) (hBn : w.heap[Bn]? = some (.cells #[.slice (some ⟨g, 0, none⟩) C.length cap] 28 (0, 0))) (hg : w.heap[g]? = some (.cells cur 9 (0, 0))) (hcur : ∀ k (h : k < C.length), cur[k]? = some (.string C[k])) :
    SeqStopsK Fence.wide n Tryz.prog 33 #[.pointer (some ⟨Bn, 0, none⟩)] (fun x : Nat × ByteArray => #[.int .i64 ((x.1 : Nat) : Int), .string x.2]) KC (fun ys => ys.map (·.2) = C.reverse) (fun _ => True) C.length w := fun l J Jx W hW hJ _ hY h0 =>
  back1_in n hn l Bn g cap W.heap.size C cur hl J Jx hJ hY W ((hW.block Bn (Array.getElem?_eq_some_iff.1 hBn).1).trans hBn) ((hW.block g (Array.getElem?_eq_some_iff.1 hg).1).trans hg) hcur h0
set_option maxRecDepth 100000 in
theorem back_in (n : Nat) (v : Value) (hv : ∃ a n c, v = .slice a n c) (w : World) : CallsIn Fence.wide n Tryz.prog 15 #[v] w fun e w' => e = .returned (.func (.func 33) #[] #[.pointer (some ⟨w.heap.size, 0, none⟩)]) ∧ w' = w.alloc (.cells #[v] 28) := by
  obtain ⟨a, n', c, rfl⟩ := hv
  refine callsIn_of_wp Tryz.func15 rfl trivial ?_ rfl
  simp only [Tryz.ntmps15, List.size_toArray, List.length_cons, List.length_nil, Nat.reduceAdd, Nat.reduceSub, Array.replicate_succ, Array.replicate_zero, List.push_toArray, List.append_toArray, List.nil_append, List.cons_append]
  gi_wp2
  go_ret
  exact ⟨rfl, rfl⟩
end Go.Proofs.YtlnejmmhhmmomaaGreatDoor
namespace Go.Proofs.YtlnejmmhhmmomaaGreatDoor
open Go.RowKit Go.Shelf Go.Lib
theorem own_cap {w : World} {lo t s g n m cap : Nat} {xs : List Value} (h : w.ownsRow lo t s (.slice (some ⟨g, 0, none⟩) m cap) n xs) : n ≤ cap := by
  rcases h.2 with ⟨hv, _⟩ | ⟨g', cap', cur, hv, _, _, hc, _⟩
  · cases hv
  · injection hv with _ _ e
    rw [e]
    exact hc
theorem below_drew' {B : Nat} {w a : World} (h : Below B w a) (n : Nat) : Below B w (a.drewN n) := ⟨h.os, h.tape, h.output, h.size, h.block⟩
set_option maxRecDepth 10000 in
set_option maxHeartbeats 3200000 in
theorem kept_any (L : List Sec) (S : List SecAt) (a : Option Addr) (c g cap lo : Nat) (w : World) (hl : L.length ≤ 1000000) (hb : ∀ s ∈ L, s.ed.length ≤ 1000000000) (hcap : L.length + 64 ≤ cap) (hS : S.map (·.s) = L) (hG : Giv w lo (.slice (some ⟨g, 0, none⟩) (L.length + 64) cap) S 64) (ha : XA w a L) :
    Calls Tryz.prog 9 #[.agg #[.slice (some ⟨g, 0, none⟩) L.length cap], .agg #[.slice a L.length c]] w fun e w' => e = .returned (.bool true) ∧ Below w.heap.size w w' := by
  obtain ⟨w0, hw0⟩ : ∃ w0, w0 = (w.alloc (.cells #[.slice (some ⟨g, 0, none⟩) L.length cap] 24)).alloc (.cells #[.slice a L.length c] 24) := ⟨_, rfl⟩
  have hs0 : w0.heap.size = w.heap.size + 2 := by rw [hw0]; simp
  have hB0 : Below w.heap.size w w0 := by rw [hw0]; exact ((Below.refl _ _).alloc (Nat.le_refl _) _).alloc (by simp) _
  have hX0 : w0.heap[w.heap.size]? = some (.cells #[.slice (some ⟨g, 0, none⟩) L.length cap] 24 (0, 0)) := by
    rw [hw0]
    exact (Below.heap_alloc _ _ _ (by simp)).trans (heap_alloc_new w _)
  have hX1 : w0.heap[w.heap.size + 1]? = some (.cells #[.slice a L.length c] 24 (0, 0)) := by
    rw [hw0]
    have h := heap_alloc_new (w.alloc (.cells #[.slice (some ⟨g, 0, none⟩) L.length cap] 24)) (.cells #[.slice a L.length c] 24)
    rw [show (w.alloc (.cells #[.slice (some ⟨g, 0, none⟩) L.length cap] 24)).heap.size = w.heap.size + 1 by simp] at h
    exact h
  have hSl : S.length = L.length := by have h := congrArg List.length hS; rw [List.length_map] at h; exact h
  have hG0 : Giv w0 lo (.slice (some ⟨g, 0, none⟩) (L.length + 64) cap) S 64 := hG.keep (fun q _ hq => hB0.block q hq)
  have HX : Hid (∀ W, Below w0.heap.size w0 W → W.cell? ⟨w.heap.size, 0, none⟩ = some (.slice (some ⟨g, 0, none⟩) L.length cap) ∧ W.cell? ⟨w.heap.size + 1, 0, none⟩ = some (.slice a L.length c)) := hid0 (fun W hW => by
    have hr := (hW.block w.heap.size (by omega)).trans hX0
    have hq := (hW.block (w.heap.size + 1) (by omega)).trans hX1
    exact ⟨by rw [cell_of_row _ _ _ _ _ _ hr]; rfl, by rw [cell_of_row _ _ _ _ _ _ hq]; rfl⟩)
  have HXA : Hid (∀ W, Below w0.heap.size w0 W → XA W a L) := hid0 (fun W hW => (ha.later hB0).later hW)
  have HGW : Hid (∀ W, Below w0.heap.size w0 W → Giv W lo (.slice (some ⟨g, 0, none⟩) (L.length + 64) cap) S 64) := hid0 (fun W hW => hG0.keep (fun q _ hq => hW.block q hq))
  have HS := hid0 hS
  have HSl := hid0 hSl
  have HBD := hid0 hb
  have HB0 := hid0 hB0
  obtain ⟨x0, x1⟩ := HX.out w0 (Below.refl _ _)
  have hfold := hw0.symm
  clear hw0 hs0 hB0 hX0 hX1 hSl hG0 hG ha hS hb
  go_enter Tryz.func9, Tryz.ntmps9
  go_wp2
  clear x0 x1 hfold
  go_loopw [5] (fun i wr => ∃ k : Nat, k ≤ L.length ∧ i = .int .i64 (k : Int) ∧ Hid (Below w0.heap.size w0 wr)) (fun i _ => L.length - (intOf i).toNat)
  case atStart => exact ⟨0, Nat.zero_le _, rfl, hid0 (Below.refl _ _)⟩
  case round =>
    obtain ⟨k, hk, rfl, HB⟩ := hrel
    obtain ⟨wo, hwo⟩ : ∃ wo, wo = wr := ⟨_, rfl⟩
    subst hwo
    obtain ⟨x0, x1⟩ := HX.out wo HB.out
    by_cases hlt : k < L.length
    · obtain ⟨b, off, ae, ce, rfl, hbl, c0, c1, c2, hea⟩ := (HXA.out wo HB.out).at' k hlt
      have hGk := HGW.out wo HB.out
      have hkS : k < S.length := by have := HSl.out; omega
      obtain ⟨s0, s1, s2⟩ := cellsX_at S k hkS
      have hlX := cellsX_length S
      have hLs := HSl.out
      have hrow := hGk.row
      rw [hLs] at hrow
      have g0 : wo.cell? ⟨g, k * 3, none⟩ = some (.string S[k].s.loc) := by rw [World.ownsRow.cellAt hrow _ (by omega), List.getElem?_append_left (by omega)]; exact s0
      have g1 : wo.cell? ⟨g, k * 3 + 1, none⟩ = some (.string S[k].s.par) := by rw [World.ownsRow.cellAt hrow _ (by omega), List.getElem?_append_left (by omega)]; exact s1
      have g2 : wo.cell? ⟨g, k * 3 + 2, none⟩ = some (.slice (some ⟨S[k].blk, 0, none⟩) S[k].s.ed.length S[k].cap) := by rw [World.ownsRow.cellAt hrow _ (by omega), List.getElem?_append_left (by omega)]; exact s2
      have hLk : L[k] = S[k].s := by have h := HS.out; subst h; simp
      have hEd := hGk.ed S[k] (List.getElem_mem hkS)
      have hEa := hGk.ea S[k] (List.getElem_mem hkS)
      have hcE := own_cap hEd
      have hed := HBD.out L[k] (List.getElem_mem hlt)
      rw [hLk] at c0 c1 c2 hea hed
      generalize S[k].blk = e at *
      generalize S[k].cap = cE at *
      generalize S[k].s = sc at *
      obtain ⟨lo', pa, ed⟩ := sc
      simp only at c0 c1 c2 g0 g1 g2 hed hea hEd hEa hcE
      have hkI : (k : Int) < (L.length : Int) := by omega
      have hkI0 : (0 : Int) ≤ (k : Int) := by omega
      have d0 := cell_al x0 (.cells #[.string lo', .string pa, .slice (some ⟨e, 0, none⟩) ed.length cE] 40)
      have d1 := cell_al x1 (.cells #[.string lo', .string pa, .slice (some ⟨e, 0, none⟩) ed.length cE] 40)
      have d2 := cell_al c0 (.cells #[.string lo', .string pa, .slice (some ⟨e, 0, none⟩) ed.length cE] 40)
      have d3 := cell_al c1 (.cells #[.string lo', .string pa, .slice (some ⟨e, 0, none⟩) ed.length cE] 40)
      have d4 := cell_al c2 (.cells #[.string lo', .string pa, .slice (some ⟨e, 0, none⟩) ed.length cE] 40)
      have HEA := hid0 hea
      have HEM := hid0 hEa
      clear hLk hGk hrow s0 s1 s2 hEd hea hEa hlX hkS hLs
      go_wp2
      obtain ⟨w1, hw1⟩ : ∃ w1, w1 = wo.alloc (.cells #[.string lo', .string pa, .slice (some ⟨e, 0, none⟩) ed.length cE] 40) := ⟨_, rfl⟩
      have hb1 : Below wo.heap.size wo w1 := by rw [hw1]; exact (Below.refl _ _).alloc (Nat.le_refl _) _
      have hr1 : w1.heap[wo.heap.size]? = some (.cells #[.string lo', .string pa, .slice (some ⟨e, 0, none⟩) ed.length cE] 40 (0, 0)) := by rw [hw1]; exact heap_alloc_new wo _
      rw [← hw1] at d0 d1 d2 d3 d4 ⊢
      obtain ⟨f0, f1, f2, f3⟩ := sec_cells hr1
      have HE1 := hid0 (HEA.out.later hb1)
      have HM1 := hid0 (HEM.out.later hb1)
      have HD : Hid (∀ n, Below w1.heap.size w1 (w1.drewN n)) := hid0 (fun n => ⟨rfl, rfl, rfl, Nat.le_refl _, fun _ _ => rfl⟩)
      have HB1 := hid0 (Below.later HB.out hb1)
      have q0 : (0 : Int) ≤ (ed.length : Int) := by omega
      have q1 : (ed.length : Int) + 64 ≤ (cE : Int) := by omega
      have q2 : IntKind.i64.wrap ((ed.length : Int) + 64) = (ed.length : Int) + 64 := by simp [IntKind.wrap, IntKind.bits, IntKind.signed]; omega
      have q3 : (0 : Int) ≤ (ed.length : Int) + 64 := by omega
      have r0 : (lo'.toList == lo'.toList) = true := by simp
      have r1 : (pa.toList == pa.toList) = true := by simp
      clear hw1 hb1 hr1 HEA HEM g0 g1 g2 c0 c1 c2 x0 x1
      go_quiet ((go_at_call 22; exact Calls.quiet_of (edits_any ed (some ⟨e, 0, none⟩) ae cE ce _ hed (HM1.out.front.later (HD.out _)) (HE1.out.later (HD.out _)))))
      go_wp2
      go_quiet ((fail))
      go_wp2
      clear d0 d1 d2 d3 d4 f0 f1 f2 f3 HE1
      have HMk : Hid (∀ W, Below w1.heap.size w1 W → ∀ p : Nat, ed.length ≤ p → p < ed.length + 64 → W.cell? ⟨e, p * 2 + 1, none⟩ = some (.string ⟨#[109, 97, 114, 107]⟩)) := hid0 (fun W hW p h1 h2 => by
        obtain ⟨b', o', e', hlt', _, h3⟩ := (HM1.out.later hW).at' p (by rw [List.length_append, marksE, List.length_replicate]; exact h2)
        cases e'
        rw [List.getElem_append_right h1] at h3
        simp only [marksE, List.getElem_replicate, Nat.zero_add, markB] at h3
        exact h3)
      have HDD : Hid (∀ n m, Below w1.heap.size w1 ((w1.drewN n).drewN m)) := hid0 (fun n m => ⟨rfl, rfl, rfl, Nat.le_refl _, fun _ _ => rfl⟩)
      clear HM1
      go_loopw [10] (fun i wi => ∃ p : Nat, ed.length ≤ p ∧ p ≤ ed.length + 64 ∧ i = .int .i64 (p : Int) ∧ Hid (Below w1.heap.size w1 wi)) (fun i _ => ed.length + 64 - (intOf i).toNat)
      case atStart => exact ⟨ed.length, Nat.le_refl _, by omega, rfl, hid0 (HDD.out _ _)⟩
      case round =>
        obtain ⟨p, hp1, hp2, rfl, HBi⟩ := hrel
        by_cases hlt2 : p < ed.length + 64
        · have m0 := HMk.out wr HBi.out p hp1 hlt2
          have p0 : (0 : Int) ≤ (p : Int) := by omega
          have p1 : (p : Int) < (ed.length : Int) + 64 := by omega
          go_wp2
          go_roundw
          case rel => exact ⟨p + 1, by omega, by omega, by go_num, HBi⟩
          case measure => simp [intOf]; omega
        · have p1 : ¬ (p : Int) < (ed.length : Int) + 64 := by omega
          have HBN := hid0 (Below.later HB1.out HBi.out)
          go_wp2
          go_roundw
          case rel => exact ⟨k + 1, by omega, by go_num, HBN⟩
          case measure => simp [intOf]; omega
    · have hkI : ¬ (k : Int) < (L.length : Int) := by omega
      have q0 : (0 : Int) ≤ (L.length : Int) := by omega
      have q1 : (L.length : Int) + 64 ≤ (cap : Int) := by omega
      have q2 : IntKind.i64.wrap ((L.length : Int) + 64) = (L.length : Int) + 64 := by simp [IntKind.wrap, IntKind.bits, IntKind.signed]; omega
      have q3 : (0 : Int) ≤ (L.length : Int) + 64 := by omega
      have HMk : Hid (∀ W, Below w0.heap.size w0 W → ∀ p : Nat, L.length ≤ p → p < L.length + 64 → W.cell? ⟨g, p * 3, none⟩ = some (.string ⟨#[109, 97, 114, 107]⟩)) := hid0 (fun W hW p h1 h2 => by
        have hrow := (HGW.out W hW).row
        have hLs := HSl.out
        rw [hLs] at hrow
        have hlX := cellsX_length S
        rw [World.ownsRow.cellAt hrow _ (by omega), List.getElem?_append_right (by omega), hlX, hLs, show p * 3 - L.length * 3 = (p - L.length) * 3 by omega]
        exact markX_at 64 (p - L.length) (by omega))
      go_wp2
      go_loopw [12] (fun i wi => ∃ p : Nat, L.length ≤ p ∧ p ≤ L.length + 64 ∧ i = .int .i64 (p : Int) ∧ Hid (Below w0.heap.size w0 wi)) (fun i _ => L.length + 64 - (intOf i).toNat)
      case atStart => exact ⟨L.length, Nat.le_refl _, by omega, rfl, HB⟩
      case round =>
        clear x0 x1
        obtain ⟨p, hp1, hp2, rfl, HBi⟩ := hrel
        by_cases hlt2 : p < L.length + 64
        · have m0 := HMk.out wr HBi.out p hp1 hlt2
          have p0 : (0 : Int) ≤ (p : Int) := by omega
          have p1 : (p : Int) < (L.length : Int) + 64 := by omega
          go_wp2
          go_roundw
          case rel => exact ⟨p + 1, by omega, by omega, by go_num, HBi⟩
          case measure => simp [intOf]; omega
        · have p1 : ¬ (p : Int) < (L.length : Int) + 64 := by omega
          have HBN := hid0 (Below.later HB0.out HBi.out)
          go_wp2
          go_ret
          exact ⟨rfl, HBN.out⟩
end Go.Proofs.YtlnejmmhhmmomaaGreatDoor
namespace Go.Proofs.YtlnejmmhhmmomaaGreatDoor
open Go.RowKit Go.Shelf Go.Lib
/-- The document's number of a refusal. -/
def numO : Option Nat → Int
  | none => 0
  | some i => refNo i
/-- Units in memory. -/
structure UA (w : World) (a : Option Addr) (L : List (Int × Nat × Nat)) : Prop where
  at' : ∀ k (h : k < L.length), ∃ b off, a = some ⟨b, off, none⟩ ∧ w.cell? ⟨b, off + k * 3, none⟩ = some (.int .i64 L[k].1)
theorem cellsU_at (us : List (Int × Nat × Nat)) : ∀ (k : Nat) (h : k < us.length), (cellsU us)[k * 3]? = some (.int .i64 us[k].1) := by
  induction us with
  | nil => intro k h; simp at h
  | cons u us ih =>
    intro k h
    have e : cellsU (u :: us) = .int .i64 u.1 :: .int .i64 (u.2.1 : Int) :: .int .i64 (u.2.2 : Int) :: cellsU us := by simp [cellsU]
    cases k with
    | zero => rw [e]; simp
    | succ k =>
      rw [e, show (k + 1) * 3 = k * 3 + 1 + 1 + 1 by omega]
      simpa using ih k (by simpa using h)
theorem OwnU.ua {w : World} {base : Nat} {v : Value} {us : List (Int × Nat × Nat)} (h : OwnU w base v us) : ∃ a cap, v = .slice a us.length cap ∧ UA w a us := by
  have h0 := h
  rcases h.2 with ⟨rfl, hn⟩ | ⟨g, cap, cur, rfl, _⟩
  · have : us = [] := List.length_eq_zero_iff.1 hn
    subst this
    exact ⟨none, 0, rfl, ⟨fun k h => absurd h (Nat.not_lt_zero _)⟩⟩
  · refine ⟨_, cap, rfl, ⟨fun k hk => ⟨g, 0, rfl, ?_⟩⟩⟩
    rw [Nat.zero_add, World.ownsRow.cellAt h0 (k * 3) (by omega)]
    exact cellsU_at us k hk
theorem entF_one {l : List UInt8} (h : (unitsOf l).length = 0) : entF l = some 1 := by
  unfold entF
  rw [if_pos h]
  split <;> rfl
theorem entF_bad {l : List UInt8} {k : Nat} (h : k < (unitsOf l).length) (hb : (unitsOf l)[k].1 = -1) : entF l = some 1 := by
  unfold entF
  rw [if_pos (List.any_eq_true.2 ⟨_, List.getElem_mem h, by simp [hb]⟩)]
theorem entF_rest {l : List UInt8} (h0 : (unitsOf l).length ≠ 0) (hn : ∀ k (h : k < (unitsOf l).length), (unitsOf l)[k].1 ≠ -1) : entF l = if 32 < (unitsOf l).length then some 2 else none := by
  unfold entF
  rw [if_neg, if_neg h0]
  rw [List.any_eq_true]
  rintro ⟨u, hu, e⟩
  obtain ⟨k, hk, rfl⟩ := List.getElem_of_mem hu
  exact hn k hk (by simpa using e)
set_option maxRecDepth 10000 in
set_option maxHeartbeats 1600000 in
theorem refEntry_any (s : ByteArray) (hs : s.size ≤ 4194400) (w : World) :
    Calls Tryz.prog 38 #[.string s] w fun e w' => e = .returned (.int .i64 (numO (entF s.data.toList))) ∧ Below w.heap.size w w' := by
  have HS := hid0 (refSplit_any s hs w)
  have hll : s.data.toList.length = s.size := by simp
  have hul : (unitsOf s.data.toList).length ≤ s.data.toList.length := units_len _ _ 0 (Nat.le_refl _)
  have hlb : (unitsOf s.data.toList).length ≤ 4194400 := by omega
  have HE1 := hid0 (fun h => entF_one (l := s.data.toList) h)
  have HE2 := hid0 (fun k h hb => entF_bad (l := s.data.toList) (k := k) h hb)
  have HE3 := hid0 (fun h0 hn => entF_rest (l := s.data.toList) h0 hn)
  clear hll hul
  obtain ⟨N, hN⟩ : ∃ N, N = numO (entF s.data.toList) := ⟨_, rfl⟩
  have HN := hid0 hN
  rw [← hN]
  clear hN
  generalize unitsOf s.data.toList = us at *
  by_cases h0 : us.length = 0
  · have h0I : (us.length : Int) = 0 := by omega
    have HV : Hid (N = 2) := hid0 (by rw [HN.out, HE1.out h0]; rfl)
    clear HE1 HE2 HE3 HN
    go_enter Tryz.func38, Tryz.ntmps38
    go_wp2_with (first
      | (go_at_call 50; refine HS.out.mono ?_; rintro e w1 ⟨v, rfl, hown, hb1⟩; obtain ⟨a, cap, rfl, _⟩ := hown.ua; have HB1 := hid0 hb1; clear hb1 hown h0)
      | fail)
    go_ret
    exact ⟨by rw [HV.out]; rfl, HB1.out⟩
  · have h0I : ¬ (us.length : Int) = 0 := by omega
    go_enter Tryz.func38, Tryz.ntmps38
    go_wp2_with (first
      | (go_at_call 50; refine HS.out.mono ?_; rintro e w1 ⟨v, rfl, hown, hb1⟩; obtain ⟨a, cap, rfl, hua⟩ := hown.ua; have HB1 := hid0 hb1; have HUA := hid0 hua; clear hb1 hown hua HS)
      | fail)
    go_loop [4] (fun t => ∃ k : Nat, k ≤ us.length ∧ t = .int .i64 (k : Int) ∧ Hid (∀ j (h : j < us.length), j < k → us[j].1 ≠ -1)) (fun t => us.length - (intOf t).toNat)
    case atStart => exact ⟨0, Nat.zero_le _, rfl, hid0 (fun j _ h => absurd h (Nat.not_lt_zero _))⟩
    case round =>
      obtain ⟨k, hk, rfl, HK⟩ := hrel
      by_cases hlt : k < us.length
      · have hkI : (k : Int) < (us.length : Int) := by omega
        have hk0 : (0 : Int) ≤ (k : Int) := by omega
        obtain ⟨b, off, rfl, c0⟩ := HUA.out.at' k hlt
        by_cases hbad : us[k].1 = -1
        · have HV : Hid (N = 2) := hid0 (by rw [HN.out, HE2.out k hlt hbad]; rfl)
          rw [hbad] at c0
          clear HE1 HE2 HE3 HN HK
          go_wp2
          go_ret
          exact ⟨by rw [HV.out]; rfl, HB1.out⟩
        · have HK2 : Hid (∀ j (h : j < us.length), j < k + 1 → us[j].1 ≠ -1) := hid0 (fun j h hj => by
            by_cases e : j = k
            · subst e; exact hbad
            · exact HK.out j h (by omega))
          generalize us[k].1 = p at *
          go_wp2
          go_round
          case rel => exact ⟨k + 1, by omega, by go_num, HK2⟩
          case measure => simp [intOf]; omega
      · have hkI : ¬ (k : Int) < (us.length : Int) := by omega
        have HF := hid0 (HE3.out h0 (fun j h => HK.out j h (by omega)))
        clear HE1 HE2 HE3 HK HUA
        by_cases h3 : 32 < us.length
        · have h3I : (32 : Int) < (us.length : Int) := by omega
          have HV : Hid (N = 3) := hid0 (by rw [HN.out, HF.out, if_pos h3]; rfl)
          go_wp2
          go_ret
          exact ⟨by rw [HV.out]; rfl, HB1.out⟩
        · have h3I : ¬ (32 : Int) < (us.length : Int) := by omega
          have HV : Hid (N = 0) := hid0 (by rw [HN.out, HF.out, if_neg h3]; rfl)
          go_wp2
          go_ret
          exact ⟨by rw [HV.out]; rfl, HB1.out⟩
end Go.Proofs.YtlnejmmhhmmomaaGreatDoor
namespace Go.Proofs.YtlnejmmhhmmomaaGreatDoor
open Go.RowKit Go.Shelf Go.Lib
theorem strOf_eq (c : List UInt8) (s : ByteArray) : (strOf c).toList == s.toList ↔ c = s.data.toList := by
  rw [str_eq, decide_eq_true_eq]
  constructor
  · rintro rfl; rw [strOf_data]
  · rintro rfl; simp [strOf]
set_option maxRecDepth 10000 in
set_option maxHeartbeats 400000 in
theorem canonical_any (s : ByteArray) (w : World) : Calls Tryz.prog 49 #[.string s] w fun e w' => e = .returned (.bool (isTagB s)) ∧ Below w.heap.size w w' := by
  have HT := hid0 (refTag_any s w)
  obtain ⟨q, hq⟩ : ∃ q, q = isTagB s := ⟨_, rfl⟩
  rw [← hq]
  unfold isTagB at hq
  cases ht : tagF s.data.toList with
  | none =>
    rw [ht] at HT hq
    simp only [tagV] at HT
    have HV : Hid (q = false) := hid0 (by rw [hq]; simp)
    clear hq ht
    go_enter Tryz.func49, Tryz.ntmps49
    go_wp2_with (first
      | (go_at_call 39; refine HT.out.mono ?_; rintro e w1 ⟨rfl, hb1⟩; have HB1 := hid0 hb1; clear hb1)
      | fail)
    go_ret
    exact ⟨by rw [HV.out]; rfl, HB1.out⟩
  | some c =>
    rw [ht] at HT hq
    simp only [tagV] at HT
    have he := strOf_eq c s
    have HV : Hid (q = ((strOf c).toList == s.toList)) := hid0 (by
      rw [hq, Bool.eq_iff_iff, decide_eq_true_eq, Option.some.injEq]
      exact he.symm)
    clear hq ht he
    generalize strOf c = C at *
    generalize hd : (C.toList == s.toList) = d at *
    go_enter Tryz.func49, Tryz.ntmps49
    go_wp2_with (first
      | (go_at_call 39; refine HT.out.mono ?_; rintro e w1 ⟨rfl, hb1⟩; have HB1 := hid0 hb1; clear hb1)
      | fail)
    go_ret
    exact ⟨by rw [HV.out]; rfl, HB1.out⟩
end Go.Proofs.YtlnejmmhhmmomaaGreatDoor
namespace Go.Proofs.YtlnejmmhhmmomaaGreatDoor
open Go.RowKit Go.Shelf Go.Lib
/-- What is wrong with a section but its edits. -/
def secP (s : Sec) (ahead : List Sec) : Option Nat :=
  if isTagB s.loc = false then some 1 else if hasL ahead s.loc = true then some 4 else if (s.par.toList == []) = false ∧ isTagB s.par = false then some 1
  else if (s.par.toList == []) = false ∧ (s.loc.toList == [114, 111, 111, 116]) = true then some 0 else none
theorem secE_eq (E : ByteArray → Option Nat) (s : Sec) (ahead : List Sec) : secE E s ahead = match secP s ahead with
    | some i => some i
    | none => firstN (fE E s.ed) 0 s.ed.length := by
  unfold secE secP
  repeat' split
  all_goals first | rfl | simp_all
theorem hasL_take_no {L : List Sec} {i : Nat} (hi : i ≤ L.length) {t : ByteArray} (h : ∀ j (h : j < L.length), j < i → L[j].loc ≠ t) : hasL (L.take i) t = false := by
  rw [Bool.eq_false_iff]
  intro hh
  obtain ⟨k, hk, e⟩ := (hasL_iff _ t).1 hh
  rw [List.length_take] at hk
  rw [List.getElem_take] at e
  exact h k (by omega) (by omega) e
theorem hasL_take_yes {L : List Sec} {i k : Nat} (hi : i ≤ L.length) {t : ByteArray} (hk : k < i) (e : (L[k]'(by omega)).loc = t) : hasL (L.take i) t = true :=
  (hasL_iff _ t).2 ⟨k, by rw [List.length_take]; omega, by rw [List.getElem_take]; exact e⟩
set_option maxRecDepth 10000 in
set_option maxHeartbeats 3200000 in
theorem refSec_any (L : List Sec) (a : Option Addr) (c i : Nat) (hi : i < L.length) (hl : L.length ≤ 1000000) (w : World) (ha : XA w a L) :
    Calls Tryz.prog 37 #[.agg #[.slice a L.length c], .int .i64 (i : Int)] w fun e w' => e = .returned (.int .i64 (numO (secP L[i] (L.take i)))) ∧ Below w.heap.size w w' := by
  obtain ⟨b, off, ae, ce, rfl, hbl, s0, s1, s2, _⟩ := ha.at' i hi
  obtain ⟨wa, hwa⟩ : ∃ wa, wa = w.alloc (.cells #[.slice (some ⟨b, off, none⟩) L.length c] 24) := ⟨_, rfl⟩
  obtain ⟨wb, hwb⟩ : ∃ wb, wb = wa.alloc (.cells #[.string L[i].loc, .string L[i].par, .slice ae L[i].ed.length ce] 40) := ⟨_, rfl⟩
  have sa : wa.heap.size = w.heap.size + 1 := by rw [hwa]; simp
  have b0a : Below w.heap.size w wa := by rw [hwa]; exact (Below.refl _ _).alloc (Nat.le_refl _) _
  have bab : Below wa.heap.size wa wb := by rw [hwb]; exact (Below.refl _ _).alloc (Nat.le_refl _) _
  have b0b : Below w.heap.size w wb := Below.later b0a bab
  have r0a : wa.heap[w.heap.size]? = some (.cells #[.slice (some ⟨b, off, none⟩) L.length c] 24 (0, 0)) := by rw [hwa]; exact heap_alloc_new w _
  have r0 : wb.heap[w.heap.size]? = some (.cells #[.slice (some ⟨b, off, none⟩) L.length c] 24 (0, 0)) := (bab.block _ (by omega)).trans r0a
  have r1 : wb.heap[w.heap.size + 1]? = some (.cells #[.string L[i].loc, .string L[i].par, .slice ae L[i].ed.length ce] 40 (0, 0)) := by rw [hwb, ← sa]; exact heap_alloc_new wa _
  have a0 : wa.cell? ⟨w.heap.size, 0, none⟩ = some (.slice (some ⟨b, off, none⟩) L.length c) := by rw [cell_of_row _ _ _ _ _ _ r0a]; rfl
  have a1 : wa.cell? ⟨b, off + i * 3, none⟩ = some (.string L[i].loc) := (b0a.cell (p := ⟨b, off + i * 3, none⟩) hbl).trans s0
  have a2 : wa.cell? ⟨b, off + i * 3 + 1, none⟩ = some (.string L[i].par) := (b0a.cell (p := ⟨b, off + i * 3 + 1, none⟩) hbl).trans s1
  have a3 : wa.cell? ⟨b, off + i * 3 + 2, none⟩ = some (.slice ae L[i].ed.length ce) := (b0a.cell (p := ⟨b, off + i * 3 + 2, none⟩) hbl).trans s2
  have HXW : Hid (∀ W, Below wb.heap.size wb W → W.cell? ⟨w.heap.size, 0, none⟩ = some (.slice (some ⟨b, off, none⟩) L.length c) ∧ W.cell? ⟨w.heap.size + 1, 0, none⟩ = some (.string L[i].loc) ∧ W.cell? ⟨w.heap.size + 1, 1, none⟩ = some (.string L[i].par)) := hid0 (fun W hW => by
    have q0 := (hW.block _ (Array.getElem?_eq_some_iff.1 r0).1).trans r0
    have q1 := (hW.block _ (Array.getElem?_eq_some_iff.1 r1).1).trans r1
    exact ⟨by rw [cell_of_row _ _ _ _ _ _ q0]; rfl, by rw [cell_of_row _ _ _ _ _ _ q1]; rfl, by rw [cell_of_row _ _ _ _ _ _ q1]; rfl⟩)
  have HXA : Hid (∀ k (hk : k < L.length) W, Below wb.heap.size wb W → W.cell? ⟨b, off + k * 3, none⟩ = some (.string L[k].loc)) := hid0 (fun k hk W hW => by
    obtain ⟨b', off', _, _, e0, hbl', q0, _⟩ := ((ha.later b0b).later hW).at' k hk
    simp only [Option.some.injEq, Addr.mk.injEq, and_true] at e0
    obtain ⟨rfl, rfl⟩ := e0
    exact q0)
  have HC1 := hid0 (fun W => canonical_any L[i].loc W)
  have HC2 := hid0 (fun W => canonical_any L[i].par W)
  have HB0 := hid0 b0b
  have HBr := hid0 (Below.refl wb.heap.size wb)
  obtain ⟨x0, x1, x2⟩ := HXW.out wb (Below.refl _ _)
  subst hwa
  have HFb := hid0 hwb
  have hiI : (i : Int) < (L.length : Int) := by omega
  have hi0 : (0 : Int) ≤ (i : Int) := by omega
  have HTy := hid0 (fun (k : Nat) (hk : k < i) (e : (L[k]'(by omega)).loc = L[i].loc) => hasL_take_yes (Nat.le_of_lt hi) hk e)
  have HTn := hid0 (fun (h : ∀ j (h : j < L.length), j < i → L[j].loc ≠ L[i].loc) => hasL_take_no (Nat.le_of_lt hi) h)
  clear ha hwb sa b0a bab b0b r0a r0 r1 s0 s1 s2
  obtain ⟨N, hN⟩ : ∃ N, N = numO (secP L[i] (L.take i)) := ⟨_, rfl⟩
  rw [← hN]
  unfold secP at hN
  generalize L[i].loc = l at *
  generalize L[i].par = p at *
  generalize L[i].ed.length = n at *
  generalize hasL (L.take i) l = hh at *
  obtain ⟨q1, h1⟩ : ∃ q1, isTagB l = q1 := ⟨_, rfl⟩
  obtain ⟨q3, h3⟩ : ∃ q3, isTagB p = q3 := ⟨_, rfl⟩
  rw [h1] at HC1 hN
  rw [h3] at HC2 hN
  clear h1 h3
  have mk := hid0 True.intro
  cases q1 with
  | false =>
    simp only [if_true] at hN
    have HV := hid0 hN
    clear hN HTy HTn
    go_enter Tryz.func37, Tryz.ntmps37
    go_wp2_with (first
      | (go_at_call 49; refine (HC1.out _).mono ?_; rintro e w1 ⟨rfl, hb1⟩; have HB1 : Hid (Below wb.heap.size wb w1) := hid0 (by rw [HFb.out]; exact hb1); clear hb1)
      | fail)
    go_ret
    exact ⟨by rw [HV.out]; rfl, Below.later HB0.out HB1.out⟩
  | true =>
    simp only [Bool.true_eq_false, if_false] at hN
    have HN := hid0 hN
    clear hN
    go_enter Tryz.func37, Tryz.ntmps37
    go_wp2_with (first
      | (clear mk; go_at_call 49; refine (HC1.out _).mono ?_; rintro e w1 ⟨rfl, hb1⟩; have HB1 : Hid (Below wb.heap.size wb w1) := hid0 (by rw [HFb.out]; exact hb1); clear hb1)
      | fail)
    go_loopw [7] (fun v wr => ∃ k : Nat, k ≤ i ∧ v = .int .i64 (k : Int) ∧ Hid (∀ j (h : j < L.length), j < k → L[j].loc ≠ l) ∧ Hid (Below wb.heap.size wb wr)) (fun v _ => i - (intOf v).toNat)
    case atStart => exact ⟨0, Nat.zero_le _, rfl, hid0 (fun j _ h => absurd h (Nat.not_lt_zero _)), HB1⟩
    case round =>
      clear HB1 x0 x1 x2 a0 a1 a2 a3
      obtain ⟨k, hk, rfl, HK, HB⟩ := hrel
      obtain ⟨y0, y1, y2⟩ := HXW.out wr HB.out
      by_cases hlt : k < i
      · have hkI : (k : Int) < (i : Int) := by omega
        have hkL : (k : Int) < (L.length : Int) := by omega
        have hk0 : (0 : Int) ≤ (k : Int) := by omega
        have y3 := HXA.out k (by omega) wr HB.out
        have hse := str_eq (L[k]'(by omega)).loc l
        by_cases e : (L[k]'(by omega)).loc = l
        · have HV : Hid (N = 5) := hid0 (by rw [HN.out, HTy.out k hlt e]; rfl)
          rw [decide_eq_true e] at hse
          generalize (L[k]'(by omega)).loc = m at *
          clear HK HTy HTn HN e
          go_wp2
          go_region
          go_wp2
          go_ret
          exact ⟨by rw [HV.out]; rfl, Below.later HB0.out (by have := HB.out; go_grown)⟩
        · have HK2 : Hid (∀ j (h : j < L.length), j < k + 1 → L[j].loc ≠ l) := hid0 (fun j h hj => by
            by_cases q : j = k
            · subst q; exact e
            · exact HK.out j h (by omega))
          rw [decide_eq_false e] at hse
          generalize (L[k]'(by omega)).loc = m at *
          clear HK e
          go_wp2
          go_region
          go_wp2
          go_roundw
          case rel => exact ⟨k + 1, by omega, by go_num, HK2, hid0 (by have := HB.out; go_grown)⟩
          case measure => simp [intOf]; omega
      · have hkI : ¬ (k : Int) < (i : Int) := by omega
        have hno := HTn.out (fun j h hj => HK.out j h (by omega))
        have hN := HN.out
        rw [hno, if_neg (by simp)] at hN
        clear HK HTy HTn HN hno HXA
        cases hp : (p.toList == []) with
        | true =>
          rw [hp] at hN
          simp only [Bool.true_eq_false, false_and, if_false] at hN
          have HV := hid0 hN
          clear hN
          go_wp2_with (first
            | (go_at_call 49; refine (HC2.out _).mono ?_; rintro e w3 ⟨rfl, hb3⟩; have HB3 := hid0 (Below.later HB.out hb3); obtain ⟨z0, z1, z2⟩ := HXW.out w3 HB3.out; clear hb3)
            | fail)
          go_ret
          exact ⟨by rw [HV.out]; rfl, Below.later HB0.out HB3.out⟩
        | false =>
          rw [hp] at hN
          simp only [true_and] at hN
          cases q3 with
          | false =>
            simp only [if_true] at hN
            have HV := hid0 hN
            clear hN
            go_wp2_with (first
              | (go_at_call 49; refine (HC2.out _).mono ?_; rintro e w3 ⟨rfl, hb3⟩; have HB3 := hid0 (Below.later HB.out hb3); obtain ⟨z0, z1, z2⟩ := HXW.out w3 HB3.out; clear hb3)
              | fail)
            go_ret
            exact ⟨by rw [HV.out]; rfl, Below.later HB0.out HB3.out⟩
          | true =>
            simp only [Bool.true_eq_false, if_false] at hN
            cases hr : (l.toList == [114, 111, 111, 116]) with
            | true =>
              rw [hr] at hN
              simp only [if_true] at hN
              have HV := hid0 hN
              clear hN
              go_wp2_with (first
                | (go_at_call 49; refine (HC2.out _).mono ?_; rintro e w3 ⟨rfl, hb3⟩; have HB3 := hid0 (Below.later HB.out hb3); obtain ⟨z0, z1, z2⟩ := HXW.out w3 HB3.out; clear hb3)
                | fail)
              go_ret
              exact ⟨by rw [HV.out]; rfl, Below.later HB0.out HB3.out⟩
            | false =>
              rw [hr] at hN
              simp only [Bool.false_eq_true, if_false] at hN
              have HV := hid0 hN
              clear hN
              go_wp2_with (first
                | (go_at_call 49; refine (HC2.out _).mono ?_; rintro e w3 ⟨rfl, hb3⟩; have HB3 := hid0 (Below.later HB.out hb3); obtain ⟨z0, z1, z2⟩ := HXW.out w3 HB3.out; clear hb3)
                | fail)
              go_ret
              exact ⟨by rw [HV.out]; rfl, Below.later HB0.out HB3.out⟩
end Go.Proofs.YtlnejmmhhmmomaaGreatDoor
namespace Go.Proofs.YtlnejmmhhmmomaaGreatDoor
open Go.RowKit Go.Shelf Go.Lib
theorem refNo_ne : ∀ i, i < 11 → refNo i ≠ 0 := by decide
theorem secP_lt {s : Sec} {ah : List Sec} {i : Nat} (h : secP s ah = some i) : i < 11 := by
  unfold secP at h
  repeat' split at h
  all_goals (cases h; try decide)
theorem entF_lt {l : List UInt8} {i : Nat} (h : entF l = some i) : i < 11 := by
  unfold entF at h
  repeat' split at h
  all_goals (cases h; try decide)
set_option maxRecDepth 10000 in
set_option maxHeartbeats 3200000 in
theorem refCheck_any (L : List Sec) (a : Option Addr) (c : Nat) (w : World) (hl : L.length ≤ 1000000) (hb : ∀ s ∈ L, s.ed.length ≤ 1000000000) (hz : ∀ s ∈ L, ∀ e ∈ s.ed, e.2.size ≤ 4194400) (ha : XA w a L) :
    Calls Tryz.prog 24 #[.agg #[.slice a L.length c]] w fun e w' => e = .returned (.int .i64 (numO (chkE entE L))) ∧ Below w.heap.size w w' := by
  obtain ⟨wa, hwa⟩ : ∃ wa, wa = w.alloc (.cells #[.slice a L.length c] 24) := ⟨_, rfl⟩
  have b0a : Below w.heap.size w wa := by rw [hwa]; exact (Below.refl _ _).alloc (Nat.le_refl _) _
  have r0 : wa.heap[w.heap.size]? = some (.cells #[.slice a L.length c] 24 (0, 0)) := by rw [hwa]; exact heap_alloc_new w _
  have HX0 : Hid (∀ W, Below wa.heap.size wa W → W.cell? ⟨w.heap.size, 0, none⟩ = some (.slice a L.length c)) := hid0 (fun W hW => by
    have q0 := (hW.block _ (Array.getElem?_eq_some_iff.1 r0).1).trans r0
    rw [cell_of_row _ _ _ _ _ _ q0]; rfl)
  have HXA : Hid (∀ W, Below wa.heap.size wa W → XA W a L) := hid0 (fun W hW => (ha.later b0a).later hW)
  have HSf : Hid (∀ k (hk : k < L.length) W, Below wa.heap.size wa W → Calls Tryz.prog 37 #[.agg #[.slice a L.length c], .int .i64 (k : Int)] W fun e w' => e = .returned (.int .i64 (numO (secP L[k] (L.take k)))) ∧ Below wa.heap.size wa w') := hid0 (fun k hk W hW => (refSec_any L a c k hk hl W ((ha.later b0a).later hW)).mono (fun e w' h => ⟨h.1, Below.later hW h.2⟩))
  have HEf : Hid (∀ k (hk : k < L.length) j (hj : j < L[k].ed.length) W, Below wa.heap.size wa W → Calls Tryz.prog 38 #[.string L[k].ed[j].2] W fun e w' => e = .returned (.int .i64 (numO (fE entE L[k].ed j))) ∧ Below wa.heap.size wa w') := hid0 (fun k hk j hj W hW => by
    rw [fE_at entE _ j hj]
    exact (refEntry_any L[k].ed[j].2 (hz _ (List.getElem_mem hk) _ (List.getElem_mem hj)) W).mono (fun e w' h => ⟨h.1, Below.later hW h.2⟩))
  have HLb : Hid (∀ k (hk : k < L.length), L[k].ed.length ≤ 1000000000) := hid0 (fun k hk => hb _ (List.getElem_mem hk))
  have HNl := hid0 (nEd_le 1000000000 L hb)
  have HB0 := hid0 b0a
  have HBr := hid0 (Below.refl wa.heap.size wa)
  have x0 := HX0.out wa (Below.refl _ _)
  have hf1 := hwa.symm
  clear ha hwa b0a r0 hb hz
  obtain ⟨N, hN⟩ : ∃ N, N = numO (chkE entE L) := ⟨_, rfl⟩
  rw [← hN]
  have HN := hid0 hN
  clear hN
  go_enter Tryz.func24, Tryz.ntmps24
  go_wp2
  go_loop [3, 4] (fun v t => ∃ k : Nat, k ≤ L.length ∧ v = .int .i64 (nEd (L.take k) : Nat) ∧ t = .int .i64 (k : Int)) (fun _ t => L.length - (intOf t).toNat)
  case atStart => exact ⟨0, Nat.zero_le _, rfl, rfl⟩
  case round =>
    obtain ⟨k, hk, rfl, rfl⟩ := hrel
    by_cases hlt : k < L.length
    · have hkI : (k : Int) < (L.length : Int) := by omega
      have hk0 : (0 : Int) ≤ (k : Int) := by omega
      obtain ⟨b, off, ae, ce, rfl, hbl, c0, c1, c2, _⟩ := (HXA.out wa HBr.out).at' k hlt
      have HM := hid0 (nEd_more L k hlt)
      have z1 := HNl.out k
      have z2 := HLb.out k hlt
      have hsum : IntKind.i64.wrap ((nEd (L.take k) : Int) + (L[k].ed.length : Int)) = (nEd (L.take k) : Int) + (L[k].ed.length : Int) := IntWalk.i64_in _ (by omega)
      generalize nEd (L.take k) = x at *
      generalize L[k].ed.length = n at *
      go_wp2
      go_round
      case rel => exact ⟨k + 1, by omega, by rw [HM.out]; go_num, by go_num⟩
      case measure => simp [intOf]; omega
    · have hkI : ¬ (k : Int) < (L.length : Int) := by omega
      rw [List.take_of_length_le (show L.length ≤ k by omega)]
      have hch := HN.out
      unfold chkE at hch
      clear hlt
      by_cases h5 : 500 < L.length
      · have h5I : (500 : Int) < (L.length : Int) := by omega
        have HV : Hid (N = 3) := hid0 (by rw [hch, if_pos (.inl h5)]; rfl)
        clear hch
        go_wp2
        go_ret
        exact ⟨by rw [HV.out]; rfl, HB0.out⟩
      · have h5I : ¬ (500 : Int) < (L.length : Int) := by omega
        by_cases h6 : 20000 < nEd L
        · have h6I : (20000 : Int) < (nEd L : Int) := by omega
          have HV : Hid (N = 3) := hid0 (by rw [hch, if_pos (.inr h6)]; rfl)
          clear hch
          generalize nEd L = ne at *
          go_wp2
          go_ret
          exact ⟨by rw [HV.out]; rfl, HB0.out⟩
        · have h6I : ¬ (20000 : Int) < (nEd L : Int) := by omega
          rw [if_neg (by omega)] at hch
          have HR := hid0 hch
          clear hch HN
          generalize nEd L = ne at *
          go_wp2
          go_loopw [5] (fun v wr => ∃ k : Nat, k ≤ L.length ∧ v = .int .i64 (k : Int) ∧ Hid (∀ j, j < k → fSec entE L j = none) ∧ Hid (Below wa.heap.size wa wr)) (fun v _ => L.length - (intOf v).toNat)
          case atStart => exact ⟨0, Nat.zero_le _, rfl, hid0 (fun j h => absurd h (Nat.not_lt_zero _)), HBr⟩
          case round =>
            clear hkI hk
            obtain ⟨k, hk, rfl, HK, HB⟩ := hrel
            have y0 := HX0.out wr HB.out
            by_cases hlt : k < L.length
            · have hkI : (k : Int) < (L.length : Int) := by omega
              have hk0 : (0 : Int) ≤ (k : Int) := by omega
              have HS := hid0 (fun W hW => HSf.out k hlt W hW)
              have hse := (fSec_at entE L k hlt).trans (secE_eq entE L[k] (L.take k))
              cases hp : secP L[k] (L.take k) with
              | some i =>
                rw [hp] at HS hse
                simp only [numO] at HS hse
                have hne := refNo_ne i (secP_lt hp)
                have HV : Hid (N = refNo i) := hid0 (by rw [HR.out, firstN_at _ k i hse _ 0 (Nat.zero_le _) (by omega) (fun j _ h => HK.out j h)]; rfl)
                clear hp hse HK HR
                generalize refNo i = ri at *
                go_wp2_with (first
                  | (go_at_call 37; refine (HS.out _ HB.out).mono ?_; rintro e w3 ⟨rfl, hb3⟩; have HB3 := hid0 hb3; clear hb3)
                  | fail)
                go_ret
                exact ⟨by rw [HV.out]; rfl, Below.later HB0.out HB3.out⟩
              | none =>
                rw [hp] at HS hse
                simp only [numO] at HS hse
                have HSE := hid0 hse
                clear hp hse
                go_wp2_with (first
                  | (go_at_call 37; refine (HS.out _ HB.out).mono ?_; rintro e w3 ⟨rfl, hb3⟩; have HB3 := hid0 hb3; clear hb3)
                  | fail)
                go_loopw [7] (fun v wr => ∃ j : Nat, j ≤ L[k].ed.length ∧ v = .int .i64 (j : Int) ∧ Hid (∀ j', j' < j → fE entE L[k].ed j' = none) ∧ Hid (Below wa.heap.size wa wr)) (fun v _ => L[k].ed.length - (intOf v).toNat)
                case atStart => exact ⟨0, Nat.zero_le _, rfl, hid0 (fun j h => absurd h (Nat.not_lt_zero _)), HB3⟩
                case round =>
                  clear HB y0 HB3
                  obtain ⟨j, hj, rfl, HJ, HB⟩ := hrel
                  have y0 := HX0.out wr HB.out
                  obtain ⟨b, off, ae, ce, rfl, hbl, c0, c1, c2, hea⟩ := (HXA.out wr HB.out).at' k hlt
                  have z2 := HLb.out k hlt
                  by_cases hlj : j < L[k].ed.length
                  · have hjI : (j : Int) < (L[k].ed.length : Int) := by omega
                    have hj0 : (0 : Int) ≤ (j : Int) := by omega
                    obtain ⟨b2, off2, rfl, hbl2, d0, d1⟩ := hea.at' j hlj
                    have HE := hid0 (fun W hW => HEf.out k hlt j hlj W hW)
                    cases hq : fE entE L[k].ed j with
                    | some i =>
                      rw [hq] at HE
                      simp only [numO] at HE
                      have hq2 := hq
                      rw [fE_at entE _ j hlj] at hq2
                      have hne := refNo_ne i (entF_lt hq2)
                      have HV : Hid (N = refNo i) := hid0 (by
                        have e1 := HSE.out
                        rw [firstN_at _ j i hq _ 0 (Nat.zero_le _) (by omega) (fun j' _ h => HJ.out j' h)] at e1
                        rw [HR.out, firstN_at _ k i e1 _ 0 (Nat.zero_le _) (by omega) (fun j _ h => HK.out j h)]; rfl)
                      clear hq hq2 HSE HJ HK HR
                      generalize refNo i = ri at *
                      generalize L[k].ed[j].2 = en at *
                      go_wp2_with (first
                        | (go_at_call 38; refine (HE.out _ HB.out).mono ?_; rintro e w4 ⟨rfl, hb4⟩; have HB4 := hid0 hb4; clear hb4)
                        | fail)
                      go_ret
                      exact ⟨by rw [HV.out]; rfl, Below.later HB0.out HB4.out⟩
                    | none =>
                      rw [hq] at HE
                      simp only [numO] at HE
                      have HJ2 : Hid (∀ j', j' < j + 1 → fE entE L[k].ed j' = none) := hid0 (fun j' h => by
                        by_cases e : j' = j
                        · rw [e, hq]
                        · exact HJ.out j' (by omega))
                      clear hq
                      generalize L[k].ed[j].2 = en at *
                      go_wp2_with (first
                        | (go_at_call 38; refine (HE.out _ HB.out).mono ?_; rintro e w4 ⟨rfl, hb4⟩; have HB4 := hid0 hb4; clear hb4)
                        | fail)
                      go_roundw
                      case rel => exact ⟨j + 1, by omega, by go_num, HJ2, HB4⟩
                      case measure => simp [intOf]; omega
                  · have hjI : ¬ (j : Int) < (L[k].ed.length : Int) := by omega
                    have HK2 : Hid (∀ j, j < k + 1 → fSec entE L j = none) := hid0 (fun j' h => by
                      by_cases e : j' = k
                      · rw [e, HSE.out]
                        exact firstN_none _ _ 0 (fun j'' _ h2 => HJ.out j'' (by omega))
                      · exact HK.out j' (by omega))
                    clear HJ HK HSE
                    go_wp2
                    go_roundw
                    case rel => exact ⟨k + 1, by omega, by go_num, HK2, HB⟩
                    case measure => simp [intOf]; omega
            · have hkI : ¬ (k : Int) < (L.length : Int) := by omega
              have HV : Hid (N = 0) := hid0 (by rw [HR.out, firstN_none _ _ 0 (fun j _ h => HK.out j (by omega))]; rfl)
              clear HK HR
              go_wp2
              go_ret
              exact ⟨by rw [HV.out]; rfl, Below.later HB0.out HB.out⟩
end Go.Proofs.YtlnejmmhhmmomaaGreatDoor
namespace Go.Proofs.YtlnejmmhhmmomaaGreatDoor
open Go.RowKit Go.Shelf Go.Lib
set_option maxRecDepth 10000 in
set_option maxHeartbeats 800000 in
theorem refSection_any (L : List Sec) (a : Option Addr) (c : Nat) (t : ByteArray) (w : World) (hl : L.length ≤ 1000000) (ha : XA w a L) :
    Calls Tryz.prog 19 #[.agg #[.slice a L.length c], .string t] w fun e w' => (∃ r : Int, e = .returned (.int .i64 r) ∧ IdxIs L t r) ∧ Below w.heap.size w w' := by
  obtain ⟨wa, hwa⟩ : ∃ wa, wa = w.alloc (.cells #[.slice a L.length c] 24) := ⟨_, rfl⟩
  have b0a : Below w.heap.size w wa := by rw [hwa]; exact (Below.refl _ _).alloc (Nat.le_refl _) _
  have r0 : wa.heap[w.heap.size]? = some (.cells #[.slice a L.length c] 24 (0, 0)) := by rw [hwa]; exact heap_alloc_new w _
  have x0 : wa.cell? ⟨w.heap.size, 0, none⟩ = some (.slice a L.length c) := by rw [cell_of_row _ _ _ _ _ _ r0]; rfl
  have HA := hid0 (ha.later b0a)
  have HB := hid0 b0a
  have hf1 := hwa.symm
  clear ha hwa b0a r0
  go_enter Tryz.func19, Tryz.ntmps19
  go_wp2
  go_loop [5] (fun v => ∃ k : Nat, k ≤ L.length ∧ v = .int .i64 (k : Int) ∧ Hid (∀ j (h : j < L.length), j < k → L[j].loc ≠ t)) (fun v => L.length - (intOf v).toNat)
  case atStart => exact ⟨0, Nat.zero_le _, rfl, hid0 (fun j _ h => absurd h (Nat.not_lt_zero _))⟩
  case round =>
    obtain ⟨k, hk, rfl, HK⟩ := hrel
    by_cases hlt : k < L.length
    · have hkI : (k : Int) < (L.length : Int) := by omega
      have hk0 : (0 : Int) ≤ (k : Int) := by omega
      obtain ⟨b, off, ae, ce, rfl, hbl, c0, c1, c2, _⟩ := HA.out.at' k hlt
      have hse := str_eq L[k].loc t
      by_cases e : L[k].loc = t
      · have HV : Hid (IdxIs L t (k : Int)) := hid0 (.inl ⟨k, hlt, rfl, e, HK.out⟩)
        rw [decide_eq_true e] at hse
        clear HK e
        generalize L[k].loc = m at *
        go_wp2
        go_ret
        exact ⟨⟨_, rfl, HV.out⟩, HB.out⟩
      · have HK2 : Hid (∀ j (h : j < L.length), j < k + 1 → L[j].loc ≠ t) := hid0 (fun j h hj => by
          by_cases q : j = k
          · subst q; exact e
          · exact HK.out j h (by omega))
        rw [decide_eq_false e] at hse
        clear HK e
        generalize L[k].loc = m at *
        go_wp2
        go_round
        case rel => exact ⟨k + 1, by omega, by go_num, HK2⟩
        case measure => simp [intOf]; omega
    · have hkI : ¬ (k : Int) < (L.length : Int) := by omega
      have HV : Hid (IdxIs L t (-1)) := hid0 (.inr ⟨rfl, fun j h => HK.out j h (by omega)⟩)
      clear HK
      go_wp2
      go_ret
      exact ⟨⟨-1, rfl, HV.out⟩, HB.out⟩
set_option maxRecDepth 10000 in
set_option maxHeartbeats 800000 in
theorem refParent_any (L : List Sec) (a : Option Addr) (c : Nat) (t : ByteArray) (w : World) (hl : L.length ≤ 1000000) (hs : t.size ≤ 1000000) (ha : XA w a L) :
    Calls Tryz.prog 26 #[.agg #[.slice a L.length c], .string t] w fun e w' => e = .returned (.string (parL L t)) ∧ Below w.heap.size w w' := by
  obtain ⟨wa, hwa⟩ : ∃ wa, wa = w.alloc (.cells #[.slice a L.length c] 24) := ⟨_, rfl⟩
  have b0a : Below w.heap.size w wa := by rw [hwa]; exact (Below.refl _ _).alloc (Nat.le_refl _) _
  have r0 : wa.heap[w.heap.size]? = some (.cells #[.slice a L.length c] 24 (0, 0)) := by rw [hwa]; exact heap_alloc_new w _
  have x0 : wa.cell? ⟨w.heap.size, 0, none⟩ = some (.slice a L.length c) := by rw [cell_of_row _ _ _ _ _ _ r0]; rfl
  obtain ⟨r, hr⟩ := idx_ex L t
  have HS : Hid (Calls Tryz.prog 19 #[.agg #[.slice a L.length c], .string t] wa fun e w' => e = .returned (.int .i64 r) ∧ Below wa.heap.size wa w') := hid0 ((refSection_any L a c t wa hl (ha.later b0a)).mono (fun e w' h => by
    obtain ⟨⟨r', h1, h2⟩, h3⟩ := h
    exact ⟨by rw [h1, idx_uniq h2 hr], h3⟩))
  have HX : Hid (∀ W, Below wa.heap.size wa W → W.cell? ⟨w.heap.size, 0, none⟩ = some (.slice a L.length c) ∧ XA W a L) := hid0 (fun W hW => by
    have q0 := (hW.block _ (Array.getElem?_eq_some_iff.1 r0).1).trans r0
    exact ⟨by rw [cell_of_row _ _ _ _ _ _ q0]; rfl, (ha.later b0a).later hW⟩)
  have HC := hid0 (fun W => refCut_any t hs W)
  have HB := hid0 b0a
  have hf1 := hwa.symm
  clear hwa b0a r0 hs
  obtain ⟨R, hR⟩ : ∃ R, R = parL L t := ⟨_, rfl⟩
  rw [← hR]
  unfold parL at hR
  rcases hr with ⟨k, hk, rfl, e, hn⟩ | ⟨rfl, hn⟩
  · rw [secOf_at hk e hn] at hR
    simp only at hR
    have hk0 : (0 : Int) ≤ (k : Int) := by omega
    have hkI : (k : Int) < (L.length : Int) := by omega
    obtain ⟨b, off, ae, ce, rfl, hbl, _, _, _, _⟩ := ha.at' k hk
    have HXC : Hid (∀ W, Below wa.heap.size wa W → W.cell? ⟨b, off + k * 3 + 1, none⟩ = some (.string L[k].par)) := hid0 (fun W hW => by
      obtain ⟨b', off', _, _, e0, _, _, q1, _⟩ := (HX.out W hW).2.at' k hk
      simp only [Option.some.injEq, Addr.mk.injEq, and_true] at e0
      obtain ⟨rfl, rfl⟩ := e0
      exact q1)
    clear ha hn e
    generalize L[k].par = p at *
    cases hp : (p.toList == []) with
    | true =>
      rw [hp] at hR
      simp only [if_true] at hR
      have HR := hid0 hR
      clear hR
      go_enter Tryz.func26, Tryz.ntmps26
      go_wp2_with (first
        | (go_at_call 19; refine HS.out.mono ?_; rintro e w1 ⟨rfl, hb1⟩; have HB1 := hid0 (Below.later HB.out hb1); have y0 := (HX.out w1 hb1).1; have y1 := HXC.out w1 hb1; clear hb1)
        | (go_at_call 40; refine (HC.out _).mono ?_; rintro e w2 ⟨rfl, rfl⟩)
        | fail)
      go_ret
      exact ⟨by rw [HR.out]; rfl, HB1.out⟩
    | false =>
      rw [hp] at hR
      simp only [Bool.false_eq_true, if_false] at hR
      have HR := hid0 hR
      clear hR
      go_enter Tryz.func26, Tryz.ntmps26
      go_wp2_with (first
        | (go_at_call 19; refine HS.out.mono ?_; rintro e w1 ⟨rfl, hb1⟩; have HB1 := hid0 (Below.later HB.out hb1); have y0 := (HX.out w1 hb1).1; have y1 := HXC.out w1 hb1; clear hb1)
        | fail)
      go_ret
      exact ⟨by rw [HR.out]; rfl, HB1.out⟩
  · rw [secOf_none hn] at hR
    simp only at hR
    have HR := hid0 hR
    clear hR ha hn
    go_enter Tryz.func26, Tryz.ntmps26
    go_wp2_with (first
      | (go_at_call 19; refine HS.out.mono ?_; rintro e w1 ⟨rfl, hb1⟩; have HB1 := hid0 (Below.later HB.out hb1); have y0 := (HX.out w1 hb1).1; clear hb1)
      | (go_at_call 40; refine (HC.out _).mono ?_; rintro e w2 ⟨rfl, rfl⟩)
      | fail)
    go_ret
    exact ⟨by rw [HR.out]; rfl, HB1.out⟩
theorem stands_hit (L : List ByteArray) (x : ByteArray) (k : Nat) (h : k < L.length) (e : L[k] = x) : Lib.containsS L x = true := by
  have h0 : ¬ Lib.idxOfS L x < 0 := by
    have key : ∀ (L : List ByteArray) (i k : Nat) (h : k < L.length), L[k] = x → ¬ Lib.idxFromS L x i < 0 := by
      intro L
      induction L with
      | nil => intro i k h; simp at h
      | cons z zs ih =>
        intro i k h e
        rw [Lib.idxFromS]
        by_cases q : z = x
        · rw [if_pos q]; omega
        · rw [if_neg q]
          cases k with
          | zero => exact absurd e q
          | succ k => exact ih (i + 1) k (by simpa using h) (by simpa using e)
    exact key L 0 k h e
  show decide (0 ≤ Lib.idxOfS L x) = true
  exact decide_eq_true (by omega)
theorem stands_miss (L : List ByteArray) (x : ByteArray) (h : ∀ k (h : k < L.length), L[k] ≠ x) : Lib.containsS L x = false := by
  have h0 : Lib.idxOfS L x = -1 := Lib.idxFromS_miss x L 0 (fun j hj => by
    have := h j hj
    simpa [List.getD, hj] using this)
  show decide (0 ≤ Lib.idxOfS L x) = false
  rw [h0]; rfl
set_option maxRecDepth 10000 in
set_option maxHeartbeats 800000 in
theorem stands_any (L : List ByteArray) (a : Option Addr) (cap : Nat) (x : ByteArray) (w : World) (hl : L.length ≤ 1000000) (ha : SA w a L) :
    Calls Tryz.prog 27 #[.slice a L.length cap, .string x] w fun e w' => e = .returned (.bool (Lib.containsS L x)) ∧ w' = w := by
  have HS := hid0 ha
  have HH := hid0 (stands_hit L x)
  have HM := hid0 (stands_miss L x)
  clear ha
  generalize Lib.containsS L x = q at *
  go_enter Tryz.func27, Tryz.ntmps27
  go_wp2
  go_loop [5] (fun v => ∃ k : Nat, k ≤ L.length ∧ v = .int .i64 (k : Int) ∧ Hid (∀ j (h : j < L.length), j < k → L[j] ≠ x)) (fun v => L.length - (intOf v).toNat)
  case atStart => exact ⟨0, Nat.zero_le _, rfl, hid0 (fun j _ h => absurd h (Nat.not_lt_zero _))⟩
  case round =>
    obtain ⟨k, hk, rfl, HK⟩ := hrel
    by_cases hlt : k < L.length
    · have hkI : (k : Int) < (L.length : Int) := by omega
      have hk0 : (0 : Int) ≤ (k : Int) := by omega
      obtain ⟨b, off, rfl, _, hc⟩ := HS.out.at' k hlt
      have hse := str_eq L[k] x
      by_cases e : L[k] = x
      · have HV : Hid (q = true) := hid0 (HH.out k hlt e)
        rw [decide_eq_true e] at hse
        clear HK e HH HM
        generalize L[k] = m at *
        go_wp2
        go_ret
        exact ⟨by rw [HV.out]; rfl, rfl⟩
      · have HK2 : Hid (∀ j (h : j < L.length), j < k + 1 → L[j] ≠ x) := hid0 (fun j h hj => by
          by_cases q : j = k
          · subst q; exact e
          · exact HK.out j h (by omega))
        rw [decide_eq_false e] at hse
        clear HK e
        generalize L[k] = m at *
        go_wp2
        go_round
        case rel => exact ⟨k + 1, by omega, by go_num, HK2⟩
        case measure => simp [intOf]; omega
    · have hkI : ¬ (k : Int) < (L.length : Int) := by omega
      have HV : Hid (q = false) := hid0 (HM.out (fun j h => HK.out j h (by omega)))
      clear HK HH HM
      go_wp2
      go_ret
      exact ⟨by rw [HV.out]; rfl, rfl⟩
end Go.Proofs.YtlnejmmhhmmomaaGreatDoor
