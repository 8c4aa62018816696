/-
  The walk of caesuralaw7's own.
-/
import Derived.Test.YtbdjnmbhphflbaaGreatDoorLdEW
namespace Go.Proofs.YtbdjnmbhphflbaaGreatDoor
open Go.RowKit Go.Shelf Go.Lib
/-- Sections in memory; a list of edits that is none has no room. -/
structure XB (w : World) (a : Option Addr) (L : List Sec) : Prop where
  at' : ∀ k (h : k < L.length), ∃ b off ae ce, a = some ⟨b, off, none⟩ ∧ b < w.heap.size ∧ w.cell? ⟨b, off + k * 3, none⟩ = some (.string L[k].loc) ∧ w.cell? ⟨b, off + k * 3 + 1, none⟩ = some (.string L[k].par) ∧ w.cell? ⟨b, off + k * 3 + 2, none⟩ = some (.slice ae L[k].ed.length ce) ∧ EA w ae L[k].ed ∧ (ae = none → ce = 0)
theorem XB.xa {w : World} {a : Option Addr} {L : List Sec} (h : XB w a L) : XA w a L := ⟨fun k hk => by
  obtain ⟨b, off, ae, ce, h1, h2, h3, h4, h5, h6, _⟩ := h.at' k hk
  exact ⟨b, off, ae, ce, h1, h2, h3, h4, h5, h6⟩⟩
theorem XB.later {w w' : World} {a : Option Addr} {L : List Sec} (h : XB w a L) (hb : Below w.heap.size w w') : XB w' a L := ⟨fun k hk => by
  obtain ⟨b, off, ae, ce, rfl, hl, h0, h1, h2, h3, h4⟩ := h.at' k hk
  exact ⟨b, off, ae, ce, rfl, Nat.lt_of_lt_of_le hl hb.size, (hb.cell (p := ⟨b, off + k * 3, none⟩) hl).trans h0, (hb.cell (p := ⟨b, off + k * 3 + 1, none⟩) hl).trans h1, (hb.cell (p := ⟨b, off + k * 3 + 2, none⟩) hl).trans h2, h3.later hb, h4⟩⟩
/-- The bundle handed in, the one that is answered, the one that is made. -/
structure OS (W : World) (X : Nat) (sv v : Value) : Prop where
  box : W.heap[X]? = some (.cells #[sv] 24 (0, 0))
  res : W.heap[X + 1]? = some (.cells #[.slice none 0 0] 24 (0, 0))
  c : W.heap[X + 1 + 1]? = some (.cells #[v] 24 (0, 0))
theorem OS.cells {W : World} {X : Nat} {sv v : Value} (h : OS W X sv v) : W.cell? ⟨X, 0, none⟩ = some sv ∧ W.cell? ⟨X + 1 + 1, 0, none⟩ = some v ∧ W.frozen? ⟨X + 1 + 1, 0, none⟩ = false ∧ W.cell? ⟨X + 1, 0, none⟩ = some (.slice none 0 0) ∧ W.frozen? ⟨X + 1, 0, none⟩ = false :=
  ⟨by rw [cell_of_row _ _ _ _ _ _ h.box]; rfl, by rw [cell_of_row _ _ _ _ _ _ h.c]; rfl, by simp [World.frozen?, h.c], by rw [cell_of_row _ _ _ _ _ _ h.res]; rfl, by simp [World.frozen?, h.res]⟩
theorem OS.keep {W W' : World} {X : Nat} {sv v : Value} (h : OS W X sv v) (hk : ∀ k, k < X + 3 → W'.heap[k]? = W.heap[k]?) : OS W' X sv v :=
  ⟨(hk X (by omega)).trans h.box, (hk (X + 1) (by omega)).trans h.res, (hk (X + 1 + 1) (by omega)).trans h.c⟩
theorem OS.set {W : World} {X : Nat} {sv v : Value} (h : OS W X sv v) (u : Value) : OS (W.setCell ⟨X + 1 + 1, 0, none⟩ u) X sv u :=
  ⟨(Below.heap_setCell W _ u X (by simp; omega)).trans h.box, (Below.heap_setCell W _ u (X + 1) (by simp)).trans h.res, heap_setCell_same W _ 0 _ _ u h.c⟩
theorem cell_al {w : World} {p : Addr} {v : Value} (h : w.cell? p = some v) (o : Obj) : (w.alloc o).cell? p = some v := (((Below.refl w.heap.size w).alloc (Nat.le_refl _) o).cell (World.block_lt_of_cell? w p h)).trans h
theorem own_slice {w : World} {lo t s n : Nat} {v : Value} {xs : List Value} (h : w.ownsRow lo t s v n xs) : ∃ a cap, v = .slice a n cap := by
  rcases h.2 with ⟨rfl, rfl⟩ | ⟨g, cap, cur, rfl, _⟩
  · exact ⟨none, 0, rfl⟩
  · exact ⟨_, cap, rfl⟩
theorem below_grown {w w' : World} (h : w.grownBy w' none) : Below w.heap.size w w' := (Below.refl _ _).grown h (Nat.le_refl _) (fun k hk => by cases hk)
theorem below_grownD {w w' : World} (h : w.drew.grownBy w' none) : Below w.heap.size w w' := by
  have := below_grown h
  exact ⟨this.os, this.tape, this.output, this.size, this.block⟩
theorem use_key {G T : Prop} (main : Hid T → G) (cont : T) : G := main cont
theorem own_form {w : World} {base : Nat} {e : TypeId} {size : Nat} {v : Value} {n : Nat} {xs : List Value} (h : w.ownsRow base e size v n xs) (hn : 0 < n) : ∃ g cap, v = .slice (some ⟨g, 0, none⟩) n cap ∧ base ≤ g ∧ g < w.heap.size ∧ n ≤ cap := by
  have h0 := h
  rcases h.2 with ⟨_, h1⟩ | ⟨g, cap, cur, rfl, hb, hr, hc, _⟩
  · omega
  · exact ⟨g, cap, rfl, hb, (World.ownsRow.lt h0 g rfl).2, hc⟩
theorem cell2_new (w : World) (a b : Value) (t : TypeId) : ∀ j u, [a, b][j]? = some u → (w.alloc (.cells #[a, b] t)).cell? ((⟨w.heap.size, 0, none⟩ : Addr).add j) = some u := by
  intro j u h
  rw [Addr.add_lit, cell_of_row _ w.heap.size _ _ _ _ (heap_alloc_new w _), Nat.zero_add]
  simpa using h
theorem lt_of_row {W : World} {k : Nat} {o : Obj} (h : W.heap[k]? = some o) : k < W.heap.size := (Array.getElem?_eq_some_iff.1 h).1
theorem grown_low {w w' : World} {o : Obj} {lo t s n : Nat} {v : Value} {xs : List Value} (ho : w.ownsRow lo t s v n xs) (hg : (w.alloc o).grownBy w' v.ownBlock) (k : Nat) (hk : k < lo) (hw : k < w.heap.size) : w'.heap[k]? = w.heap[k]? :=
  (hg.block k (by simp; omega) (fun e => by have := (World.ownsRow.lt ho k e.symm).1; omega)).trans (Below.heap_alloc w o k hw)
theorem grown_below {B : Nat} {w wr w' : World} {o : Obj} {lo t s n : Nat} {v : Value} {xs : List Value} (hb : Below B w wr) (ho : wr.ownsRow lo t s v n xs) (hg : (wr.alloc o).grownBy w' v.ownBlock) (hB : B ≤ lo) (hw : B ≤ w.heap.size) : Below B w w' :=
  ⟨hg.os.trans hb.os, hg.tape.trans hb.tape, hg.output.trans hb.output, Nat.le_trans hb.size (Nat.le_trans (by simp) hg.size), fun k hk => (grown_low ho hg k (by omega) (by have := hb.size; omega)).trans (hb.block k hk)⟩
/-- A section's own variable. -/
theorem sec_cells {W : World} {B : Nat} {x y z : Value} (h : W.heap[B]? = some (.cells #[x, y, z] 27 (0, 0))) : W.cell? ⟨B, 0, none⟩ = some x ∧ W.cell? ⟨B, 1, none⟩ = some y ∧ W.cell? ⟨B, 2, none⟩ = some z ∧ W.frozen? ⟨B, 2, none⟩ = false :=
  ⟨by rw [cell_of_row _ _ _ _ _ _ h]; rfl, by rw [cell_of_row _ _ _ _ _ _ h]; rfl, by rw [cell_of_row _ _ _ _ _ _ h]; rfl, by simp [World.frozen?, h]⟩
/-- What own leaves. -/
def Owned (L : List Sec) (w : World) (e : Ending) (w' : World) : Prop :=
  ∃ g cap S, e = .returned (.agg #[.slice (some ⟨g, 0, none⟩) L.length cap]) ∧ L.length + 64 ≤ cap ∧ S.map (·.s) = L ∧ Giv w' w.heap.size (.slice (some ⟨g, 0, none⟩) (L.length + 64) cap) S 64 ∧ Below w.heap.size w w'
set_option maxRecDepth 10000 in
set_option maxHeartbeats 3200000 in
theorem own_any (L : List Sec) (a : Option Addr) (c : Nat) (w : World) (hl : L.length ≤ 1000000) (hb : ∀ s ∈ L, s.ed.length ≤ 1000000000) (ha : XB w a L) :
    Calls Tryz.prog 21 #[.agg #[.slice a L.length c]] w fun e w' => Owned L w e w' := by
  obtain ⟨i0, hi, hz0, hz1, hz2⟩ := info_parts infoEdit
  obtain ⟨j0, hj, hy0, hy1, hy2⟩ := info_parts infoSec
  obtain ⟨w0, hw0⟩ : ∃ w0, w0 = ((w.alloc (.cells #[.slice a L.length c] 24)).alloc (.cells #[.slice none 0 0] 24)).alloc (.cells #[.slice none 0 0] 24) := ⟨_, rfl⟩
  obtain ⟨X, hX⟩ : ∃ X, X = w.heap.size := ⟨_, rfl⟩
  have hs0 : w0.heap.size = X + 3 := by rw [hw0]; simp [hX]
  have hB0 : Below w.heap.size w w0 := by rw [hw0]; exact (((Below.refl _ _).alloc (Nat.le_refl _) _).alloc (by simp) _).alloc (by simp; omega) _
  have hK0 : OS w0 X (.slice a L.length c) (.slice none 0 0) := by
    obtain ⟨wa, hwa⟩ : ∃ wa, wa = w.alloc (.cells #[.slice a L.length c] 24) := ⟨_, rfl⟩
    obtain ⟨wb, hwb⟩ : ∃ wb, wb = wa.alloc (.cells #[.slice none 0 0] 24) := ⟨_, rfl⟩
    have sa : wa.heap.size = X + 1 := by rw [hwa]; simp [hX]
    have sb : wb.heap.size = X + 2 := by rw [hwb]; simp [sa]
    have r1 : wa.heap[X]? = some (.cells #[.slice a L.length c] 24 (0, 0)) := by rw [hwa, hX]; exact heap_alloc_new w _
    have r2 : wb.heap[X + 1]? = some (.cells #[.slice none 0 0] 24 (0, 0)) := by rw [hwb, ← sa]; exact heap_alloc_new wa _
    rw [hw0, ← hwa, ← hwb]
    refine ⟨?_, ?_, ?_⟩
    · rw [Below.heap_alloc wb _ X (by omega), hwb, Below.heap_alloc wa _ X (by omega)]; exact r1
    · rw [Below.heap_alloc wb _ (X + 1) (by omega)]; exact r2
    · rw [show X + 1 + 1 = wb.heap.size by omega]; exact heap_alloc_new wb _
  have HK0 := hid0 hK0
  have HB0 := hid0 hB0
  have HS0 := hid0 hs0
  have HA := hid0 ha
  have HBD := hid0 hb
  have HF := hid0 hw0.symm
  have hG0 : Hid (Giv w0 (X + 3) (.slice none 0 0) [] 0) := hid0 ⟨World.ownsRow_nil _ _ _ _, (fun x hx => by cases hx), (fun x hx => by cases hx)⟩
  subst hX
  clear ha hb hB0 hw0 hK0 hs0
  go_enter Tryz.func21, Tryz.ntmps21
  go_wp2
  rw [HF.out]
  clear HF
  go_loopw [4] (fun i wr => ∃ (k : Nat) (v : Value) (S : List SecAt), k ≤ L.length ∧ i = .int .i64 (k : Int) ∧ Hid (OS wr w.heap.size (.slice a L.length c) v) ∧ Hid (S.map (·.s) = L.take k) ∧ Hid (Giv wr (w.heap.size + 3) v S 0) ∧ Hid (Below w.heap.size w wr) ∧ Hid (w.heap.size + 3 ≤ wr.heap.size)) (fun i _ => L.length - (intOf i).toNat)
  case atStart => exact ⟨0, _, [], Nat.zero_le _, rfl, HK0, hid0 rfl, hG0, HB0, hid0 (by rw [HS0.out]; exact Nat.le_refl _)⟩
  case round =>
    clear HK0 hG0 HB0 HS0 w0
    obtain ⟨k, v, S, hk, rfl, HK, HSm, HG, HB, HZ⟩ := hrel
    obtain ⟨wo, hwo⟩ : ∃ wo, wo = wr := ⟨_, rfl⟩
    subst hwo
    by_cases hlt : k < L.length
    · obtain ⟨b, off, ae, ce, rfl, hbl, c0, c1, c2, hea, hnl⟩ := (HA.out.later HB.out).at' k hlt
      obtain ⟨x0, x1, x2, x3, x4⟩ := HK.out.cells
      have hkI : (k : Int) < (L.length : Int) := by omega
      have hkI0 : (0 : Int) ≤ (k : Int) := by omega
      have HEA := hid0 hea
      have HNL := hid0 hnl
      have hed := HBD.out L[k] (List.getElem_mem hlt)
      have HSk : Hid (L.take (k + 1) = L.take k ++ [L[k]]) := hid0 (by rw [List.take_add_one, List.getElem?_eq_getElem hlt]; rfl)
      generalize L[k] = sc at *
      obtain ⟨lo, pa, ed⟩ := sc
      simp only at c0 c1 c2 hed HEA
      clear hea hnl hbl
      have d0 := cell_al c0 (.cells #[.string ⟨#[]⟩, .string ⟨#[]⟩, .slice none 0 0] 27)
      have d1 := cell_al c1 (.cells #[.string ⟨#[]⟩, .string ⟨#[]⟩, .slice none 0 0] 27)
      have d2 := cell_al x0 (.cells #[.string ⟨#[]⟩, .string ⟨#[]⟩, .slice none 0 0] 27)
      go_wp2
      go_region
      obtain ⟨wA, hwA⟩ : ∃ wA, wA = (wo.alloc (.cells #[.string lo, .string pa, .slice none 0 0] 27)).drew := ⟨_, rfl⟩
      have hbA : Below wo.heap.size wo wA := by rw [hwA]; exact ((Below.refl _ _).alloc (Nat.le_refl _) _).drew
      have hrA : wA.heap[wo.heap.size]? = some (.cells #[.string lo, .string pa, .slice none 0 0] 27 (0, 0)) := by rw [hwA]; exact heap_alloc_new wo _
      have hsA : wA.heap.size = wo.heap.size + 1 := by rw [hwA]; simp
      have e0 : wA.cell? ⟨w.heap.size, 0, none⟩ = some (.slice (some ⟨b, off, none⟩) L.length c) := (hbA.cell (World.block_lt_of_cell? wo _ x0)).trans x0
      have e1 : wA.cell? ⟨b, off + k * 3 + 2, none⟩ = some (.slice ae ed.length ce) := (hbA.cell (World.block_lt_of_cell? wo _ c2)).trans c2
      obtain ⟨e2, e3, e4, e5⟩ := sec_cells hrA
      rw [← hwA]
      have HEA1 : Hid (EA wA.drew ae ed) := hid0 (HEA.out.later (hbA.drew))
      have HbA := hid0 hbA
      have HrA := hid0 hrA
      have HsA := hid0 hsA
      clear hwA d0 d1 d2 x0 x1 x2 x3 x4 c0 c1 hbA hrA hsA
      go_wp2
      apply use_key
      case main =>
        intro key
        go_region_law ((refine step_spreadE (by rfl) _ _ (by rfl) ae ed ce wA.heap.size (by rfl) (by rfl) HNL.out HEA1.out (by omega) (by simp) ?_; intro vE w1 hoE hgE; obtain ⟨aV, cV, rfl⟩ := own_slice hoE; have hb1 : Below wA.heap.size wA w1 := below_grownD hgE; have hr1 := (hb1.block wo.heap.size (by have := HsA.out; omega)).trans HrA.out; obtain ⟨f2, f3, f4, f5⟩ := sec_cells hr1; have HO1 := hid0 hoE; have HB1 := hid0 hb1; have HR1 := hid0 hr1; clear hoE hgE hb1 hr1))
        all_goals
          have HbX : Hid (Below wo.heap.size wo (w1.setCell ⟨wo.heap.size, 2, none⟩ (.slice aV ed.length cV))) := hid0 ((Below.later HbA.out HB1.out).setCell (Nat.le_refl _) _)
          have HrX : Hid ((w1.setCell ⟨wo.heap.size, 2, none⟩ (.slice aV ed.length cV)).heap[wo.heap.size]? = some (.cells #[.string lo, .string pa, .slice aV ed.length cV] 27 (0, 0))) := hid0 (heap_setCell_same w1 _ 2 _ _ _ HR1.out)
          have HoX : Hid (OwnE (w1.setCell ⟨wo.heap.size, 2, none⟩ (.slice aV ed.length cV)) (wo.heap.size + 1) (.slice aV ed.length cV) ed.length ed) := hid0 (by
            have hlt1 := HsA.out
            have h1 := own_blk (W' := w1.setCell ⟨wo.heap.size, 2, none⟩ (.slice aV ed.length cV)) HO1.out (fun q hq => by have h2 := (World.ownsRow.lt HO1.out q hq).1; exact Below.heap_setCell w1 _ _ q (by simp; omega))
            rw [hlt1] at h1
            exact h1)
          clear HO1 HB1 HR1 f2 f3 f4 f5
          generalize w1.setCell ⟨wo.heap.size, 2, none⟩ (.slice aV ed.length cV) = W1 at HbX HrX HoX ⊢
          clear w1
          revert aV cV W1
          exact key.out
      case cont =>
        intro aV cV W1 HbX HrX HoX
        clear HEA1 HbA HrA HsA e0 e1 e2 e3 e4 e5 wA
        go_wp2
        go_loopw [6] (fun i wi => ∃ (j : Nat) (aE : Option Addr) (cE : Nat), j ≤ 64 ∧ i = .int .i64 (j : Int) ∧ Hid (Below wo.heap.size wo wi) ∧ Hid (wi.heap[wo.heap.size]? = some (.cells #[.string lo, .string pa, .slice aE (ed.length + j) cE] 27 (0, 0))) ∧ Hid (OwnE wi (wo.heap.size + 1) (.slice aE (ed.length + j) cE) (ed.length + j) (ed ++ marksE j))) (fun i _ => 64 - (intOf i).toNat)
        case atStart => exact ⟨0, aV, cV, Nat.zero_le _, rfl, HbX, HrX, hid0 (by rw [show marksE 0 = [] from rfl, List.append_nil]; exact HoX.out)⟩
        case round =>
          clear HbX HrX HoX
          obtain ⟨j, aE, cE, hj64, rfl, HbI, HrI, HoI⟩ := hrel
          have hlI := lt_of_row HrI.out
          by_cases hlt2 : j < 64
          · have hjI : (j : Int) < 64 := by omega
            obtain ⟨e0, e1, e2, e3⟩ := sec_cells HrI.out
            go_wp2_with (at_builtin; go_loud ((
              refine wpList_append_own _ (by rfl) _ _ 25 (by rfl) (wo.heap.size + 1) 50 i0 (.agg #[.bool false, .string ⟨#[]⟩]) 2 24 Tryz.underlying25 hi hz0 hz1 hz2 rfl (by decide) (.slice aE (ed.length + j) cE) (ed.length + j) (cellsE (ed ++ marksE j)) (by rfl) (World.ownsRow.alloc HoI.out _) ⟨wr.heap.size, 0, none⟩ 1 1 [.bool false, .string ⟨#[109, 97, 114, 107]⟩] (by rfl) (by rfl) (cell2_new _ _ _ _) (fun u hu => by simp only [List.mem_cons, List.not_mem_nil, or_false] at hu; rcases hu with rfl | rfl <;> rfl) (by unfold maxLen; omega) (by omega) (by simp; omega) ?_
              intro v5 w5 hown5 hgrow5 hiff5
              clear hiff5
              obtain ⟨g5, cap5, rfl, hju1, hju2, hju3⟩ := own_form hown5 (Nat.succ_pos _)
              have hr5 := (grown_low HoI.out hgrow5 wo.heap.size (Nat.lt_succ_self _) hlI).trans HrI.out
              have hb5 := grown_below HbI.out HoI.out hgrow5 (Nat.le_succ _) (Nat.le_refl _)
              obtain ⟨f0, f1, f2, f3⟩ := sec_cells hr5
              have HR5 := hid0 hr5
              have HB5 := hid0 hb5
              have HO5 := hid0 hown5
              have HG5 : Hid (wo.heap.size + 1 ≤ g5) := hid0 hju1
              clear hown5 hgrow5 hr5 hb5 hju1 hju2 hju3 HbI HrI HoI e0 e1 e2 e3)))
            have HbN : Hid (Below wo.heap.size wo (w5.setCell ⟨wo.heap.size, 2, none⟩ (.slice (some ⟨g5, 0, none⟩) (ed.length + j + 1) cap5))) := hid0 (HB5.out.setCell (Nat.le_refl _) _)
            have HrN : Hid ((w5.setCell ⟨wo.heap.size, 2, none⟩ (.slice (some ⟨g5, 0, none⟩) (ed.length + j + 1) cap5)).heap[wo.heap.size]? = some (.cells #[.string lo, .string pa, .slice (some ⟨g5, 0, none⟩) (ed.length + (j + 1)) cap5] 27 (0, 0))) := hid0 (heap_setCell_same w5 _ 2 _ _ _ HR5.out)
            have HoN : Hid (OwnE (w5.setCell ⟨wo.heap.size, 2, none⟩ (.slice (some ⟨g5, 0, none⟩) (ed.length + j + 1) cap5)) (wo.heap.size + 1) (.slice (some ⟨g5, 0, none⟩) (ed.length + (j + 1)) cap5) (ed.length + (j + 1)) (ed ++ marksE (j + 1))) := hid0 (by
              have h1 := own_blk (W' := w5.setCell ⟨wo.heap.size, 2, none⟩ (.slice (some ⟨g5, 0, none⟩) (ed.length + j + 1) cap5)) HO5.out (fun q hq => by cases hq; have := HG5.out; exact Below.heap_setCell w5 _ _ g5 (by simp; omega))
              unfold OwnE
              rw [marksE_succ, ← List.append_assoc, cellsE_append]
              exact h1)
            clear HR5 HB5 HO5 HG5 f0 f1 f2 f3
            go_wp2
            go_roundw
            case rel => exact ⟨j + 1, some ⟨g5, 0, none⟩, cap5, by omega, by go_num, HbN, HrN, HoN⟩
            case measure => simp [intOf]; omega
          · have hjI : ¬ (j : Int) < 64 := by omega
            obtain rfl : j = 64 := by omega
            obtain ⟨gE, cE', hvE, hju1, hju2, hju3⟩ := own_form HoI.out (by omega)
            cases hvE
            obtain ⟨e0, e1, e2, e3⟩ := sec_cells HrI.out
            obtain ⟨x0, x1, x2, x3, x4⟩ := (HK.out.keep (fun q hq => HbI.out.block q (by have := HZ.out; omega))).cells
            have y2 : wr.cell? ⟨b, off + k * 3 + 2, none⟩ = some (.slice ae ed.length ce) := (HbI.out.cell (World.block_lt_of_cell? wo _ c2)).trans c2
            have q0 : (0 : Int) ≤ (ed.length : Int) := by omega
            have q1 : (ed.length : Int) ≤ (cE : Int) := by omega
            have HGE : Hid (wo.heap.size + 1 ≤ gE) := hid0 hju1
            clear hju1 hju2 hju3
            go_wp2
            go_region
            obtain ⟨wS, hwS⟩ : ∃ wS, wS = (wr.setCell ⟨wo.heap.size, 2, none⟩ (.slice (some ⟨gE, 0, none⟩) ed.length cE)).drew := ⟨_, rfl⟩
            have hbS : Below wo.heap.size wo wS := by rw [hwS]; exact (HbI.out.setCell (Nat.le_refl _) _).drew
            have hrS : wS.heap[wo.heap.size]? = some (.cells #[.string lo, .string pa, .slice (some ⟨gE, 0, none⟩) ed.length cE] 27 (0, 0)) := by rw [hwS]; exact heap_setCell_same wr _ 2 _ _ _ HrI.out
            have hoS : OwnE wS (w.heap.size + 3) (.slice (some ⟨gE, 0, none⟩) (ed.length + 64) cE) (ed.length + 64) (ed ++ marksE 64) := by
              have hz := HZ.out
              rw [hwS]
              exact owns_lower (own_blk HoI.out (fun q hq => by cases hq; have := HGE.out; exact Below.heap_setCell wr _ _ gE (by simp; omega))) (by omega)
            have hKS : OS wS w.heap.size (.slice (some ⟨b, off, none⟩) L.length c) v := HK.out.keep (fun q hq => hbS.block q (by have := HZ.out; omega))
            have hGS : Giv wS (w.heap.size + 3) v S 0 := HG.out.keep (fun q _ hq => hbS.block q hq)
            rw [← hwS]
            clear hwS HbI HrI HoI e0 e1 e2 e3 x0 x1 x2 x3 x4 y2
            obtain ⟨aS, cS, rfl⟩ := own_slice HG.out.row
            obtain ⟨x0, x1, x2, x3, x4⟩ := hKS.cells
            obtain ⟨e0, e1, e2, e3⟩ := sec_cells hrS
            have HbS := hid0 hbS
            have HoS := hid0 hoS
            have HKS := hid0 hKS
            have HGS := hid0 hGS
            have HSl : Hid (S.length = k) := hid0 (by have h := congrArg List.length HSm.out; rw [List.length_map, List.length_take] at h; omega)
            have hSl : S.length ≤ 1000000 := by have := HSl.out; omega
            clear hbS hrS hoS hKS hGS hlI
            go_wp2_with (at_builtin; go_loud ((
              refine wpList_append_own_at _ (by rfl) _ _ 22 (by rfl) (w.heap.size + 3) 27 j0 (.agg #[.string ⟨#[]⟩, .string ⟨#[]⟩, .slice none 0 0]) 3 56 Tryz.underlying22 hj hy0 hy1 hy2 rfl (by decide) (.slice aS (S.length + 0) cS) (S.length + 0) (cellsX S ++ markX 0) (by rfl) (World.ownsRow.alloc HGS.out.row _) ⟨wS.heap.size, 0, none⟩ 1 1 [.string lo, .string pa, .slice (some ⟨gE, 0, none⟩) ed.length cE] (by rfl) (by rfl) (cell3_new _ _ _ _ _) (fun u hu => by simp only [List.mem_cons, List.not_mem_nil, or_false] at hu; rcases hu with rfl | rfl | rfl <;> rfl) (by unfold maxLen; omega) (by omega) (by have h1 := HZ.out; have h2 := HbS.out.size; simp; omega) ?_
              intro v6 w6 hown6 hgrow6 hiff6 hat6
              clear hiff6
              obtain ⟨g6, cap6, rfl, hju1, hju2, hju3⟩ := own_form hown6 (Nat.succ_pos _)
              have hz := HZ.out
              have hs2 := HbS.out.size
              have hK6 : OS w6 w.heap.size (.slice (some ⟨b, off, none⟩) L.length c) (.slice aS (S.length + 0) cS) := HKS.out.keep (fun q hq => grown_low HGS.out.row hgrow6 q hq (by omega))
              obtain ⟨t0, t1, t2, t3, t4⟩ := hK6.cells
              have hB6 : Below w.heap.size w w6 := grown_below (Below.later HB.out HbS.out) HGS.out.row hgrow6 (by omega) (Nat.le_refl _)
              have hG6 : Giv w6 (w.heap.size + 3) (.slice (some ⟨g6, 0, none⟩) (S.length + 0 + 1) cap6) (S ++ [⟨⟨lo, pa, ed⟩, gE, cE⟩]) 0 := by
                refine Giv.grown (wa := wS.alloc (.cells #[.string lo, .string pa, .slice (some ⟨gE, 0, none⟩) ed.length cE] 27)) HG.out (fun q h1 h2 => (Below.heap_alloc wS _ q (by omega)).trans (HbS.out.block q h2)) hgrow6 ?_ ?_ ?_
                · rw [cellsX_append, show (S ++ [(⟨⟨lo, pa, ed⟩, gE, cE⟩ : SecAt)]).length + 0 = S.length + 0 + 1 by simp, show markX 0 = [] from rfl, List.append_nil]
                  have h := hown6
                  rw [show markX 0 = [] from rfl, List.append_nil] at h
                  exact h
                · rcases hat6 with h | h
                  · exact .inl h
                  · exact .inr ⟨_, h, Nat.le_refl _⟩
                · intro x hx
                  rcases List.mem_append.1 hx with h | h
                  · exact .inl h
                  · right
                    rw [List.mem_singleton] at h
                    subst h
                    exact ⟨World.ownsRow.alloc HoS.out _, by have := HGE.out; simp only; omega⟩
              have HK6 := hid0 hK6
              have HB6 := hid0 hB6
              have HG6 := hid0 hG6
              have HZ6 : Hid (w.heap.size + 3 ≤ w6.heap.size) := hid0 (by have := hgrow6.size; simp at this; omega)
              clear hown6 hgrow6 hat6 hju1 hju2 hju3 hz hs2 hK6 hB6 hG6 x0 x1 x2 x3 x4 e0 e1 e2 e3)))
            have HKN : Hid (OS (w6.setCell ⟨w.heap.size + 1 + 1, 0, none⟩ (.slice (some ⟨g6, 0, none⟩) (S.length + 0 + 1) cap6)) w.heap.size (.slice (some ⟨b, off, none⟩) L.length c) (.slice (some ⟨g6, 0, none⟩) (S.length + 0 + 1) cap6)) := hid0 (HK6.out.set _)
            have HBN : Hid (Below w.heap.size w (w6.setCell ⟨w.heap.size + 1 + 1, 0, none⟩ (.slice (some ⟨g6, 0, none⟩) (S.length + 0 + 1) cap6))) := hid0 (HB6.out.setCell (by simp; omega) _)
            have HGN : Hid (Giv (w6.setCell ⟨w.heap.size + 1 + 1, 0, none⟩ (.slice (some ⟨g6, 0, none⟩) (S.length + 0 + 1) cap6)) (w.heap.size + 3) (.slice (some ⟨g6, 0, none⟩) (S.length + 0 + 1) cap6) (S ++ [⟨⟨lo, pa, ed⟩, gE, cE⟩]) 0) := hid0 (HG6.out.keep (fun q h1 _ => Below.heap_setCell w6 _ _ q (by simp; omega)))
            have HZN : Hid (w.heap.size + 3 ≤ (w6.setCell ⟨w.heap.size + 1 + 1, 0, none⟩ (.slice (some ⟨g6, 0, none⟩) (S.length + 0 + 1) cap6)).heap.size) := hid0 (by have := HZ6.out; simp [World.setCell]; omega)
            have HSN : Hid ((S ++ [(⟨⟨lo, pa, ed⟩, gE, cE⟩ : SecAt)]).map (·.s) = L.take (k + 1)) := hid0 (by rw [List.map_append, HSm.out, HSk.out]; rfl)
            clear HK6 HB6 HG6 HZ6 t0 t1 t2 t3 t4
            go_wp2
            go_roundw
            case rel => exact ⟨k + 1, _, _, by omega, by go_num, HKN, HSN, HGN, HBN, HZN⟩
            case measure => simp [intOf]; omega
    · have hkI : ¬ (k : Int) < (L.length : Int) := by omega
      have hSL : S.map (·.s) = L := by have h := HSm.out; rw [List.take_of_length_le (by omega)] at h; exact h
      have hSl : S.length = L.length := by have h := congrArg List.length hSL; rw [List.length_map] at h; exact h
      have HSL := hid0 hSL
      have hSb : S.length ≤ 1000000 := by omega
      have HSl := hid0 hSl
      obtain ⟨x0, x1, x2, x3, x4⟩ := HK.out.cells
      clear hSL HSm hSl
      go_wp2
      go_loopw [7] (fun i wi => ∃ (j : Nat) (v' : Value), j ≤ 64 ∧ i = .int .i64 (j : Int) ∧ Hid (OS wi w.heap.size (.slice a L.length c) v') ∧ Hid (Giv wi (w.heap.size + 3) v' S j) ∧ Hid (Below w.heap.size w wi) ∧ Hid (w.heap.size + 3 ≤ wi.heap.size)) (fun i _ => 64 - (intOf i).toNat)
      case atStart => exact ⟨0, v, Nat.zero_le _, rfl, HK, HG, HB, HZ⟩
      case round =>
        clear HK HG HB HZ x0 x1 x2 x3 x4
        obtain ⟨j, v', hj64, rfl, HK, HG, HB, HZ⟩ := hrel
        obtain ⟨x0, x1, x2, x3, x4⟩ := HK.out.cells
        by_cases hlt2 : j < 64
        · have hjI : (j : Int) < 64 := by omega
          obtain ⟨aS, cS, rfl⟩ := own_slice HG.out.row
          go_wp2_with (at_builtin; go_loud ((
            refine wpList_append_own_at _ (by rfl) _ _ 22 (by rfl) (w.heap.size + 3) 27 j0 (.agg #[.string ⟨#[]⟩, .string ⟨#[]⟩, .slice none 0 0]) 3 56 Tryz.underlying22 hj hy0 hy1 hy2 rfl (by decide) (.slice aS (S.length + j) cS) (S.length + j) (cellsX S ++ markX j) (by rfl) (World.ownsRow.alloc HG.out.row _) ⟨wr.heap.size, 0, none⟩ 1 1 [.string ⟨#[109, 97, 114, 107]⟩, .string ⟨#[]⟩, .slice none 0 0] (by rfl) (by rfl) (cell3_new _ _ _ _ _) (fun u hu => by simp only [List.mem_cons, List.not_mem_nil, or_false] at hu; rcases hu with rfl | rfl | rfl <;> rfl) (by unfold maxLen; omega) (by omega) (by have h1 := HZ.out; simp; omega) ?_
            intro v6 w6 hown6 hgrow6 hiff6 hat6
            clear hiff6
            obtain ⟨g6, cap6, rfl, hju1, hju2, hju3⟩ := own_form hown6 (Nat.succ_pos _)
            have hz := HZ.out
            have hK6 : OS w6 w.heap.size (.slice a L.length c) (.slice aS (S.length + j) cS) := HK.out.keep (fun q hq => grown_low HG.out.row hgrow6 q hq (by omega))
            obtain ⟨t0, t1, t2, t3, t4⟩ := hK6.cells
            have hB6 : Below w.heap.size w w6 := grown_below HB.out HG.out.row hgrow6 (by omega) (Nat.le_refl _)
            have hG6 : Giv w6 (w.heap.size + 3) (.slice (some ⟨g6, 0, none⟩) (S.length + j + 1) cap6) S (j + 1) := by
              refine Giv.grown (wa := wr.alloc (.cells #[.string ⟨#[109, 97, 114, 107]⟩, .string ⟨#[]⟩, .slice none 0 0] 27)) HG.out (fun q _ h2 => Below.heap_alloc wr _ q h2) hgrow6 ?_ ?_ (fun x hx => .inl hx)
              · rw [markX, ← List.append_assoc]
                exact hown6
              · rcases hat6 with h | h
                · exact .inl h
                · exact .inr ⟨_, h, Nat.le_refl _⟩
            have HK6 := hid0 hK6
            have HB6 := hid0 hB6
            have HG6 := hid0 hG6
            have HZ6 : Hid (w.heap.size + 3 ≤ w6.heap.size) := hid0 (by have := hgrow6.size; simp at this; omega)
            clear hown6 hgrow6 hat6 hju1 hju2 hju3 hz hK6 hB6 hG6 x0 x1 x2 x3 x4)))
          have HKN : Hid (OS (w6.setCell ⟨w.heap.size + 1 + 1, 0, none⟩ (.slice (some ⟨g6, 0, none⟩) (S.length + j + 1) cap6)) w.heap.size (.slice a L.length c) (.slice (some ⟨g6, 0, none⟩) (S.length + j + 1) cap6)) := hid0 (HK6.out.set _)
          have HBN : Hid (Below w.heap.size w (w6.setCell ⟨w.heap.size + 1 + 1, 0, none⟩ (.slice (some ⟨g6, 0, none⟩) (S.length + j + 1) cap6))) := hid0 (HB6.out.setCell (by simp; omega) _)
          have HGN : Hid (Giv (w6.setCell ⟨w.heap.size + 1 + 1, 0, none⟩ (.slice (some ⟨g6, 0, none⟩) (S.length + j + 1) cap6)) (w.heap.size + 3) (.slice (some ⟨g6, 0, none⟩) (S.length + j + 1) cap6) S (j + 1)) := hid0 (HG6.out.keep (fun q h1 _ => Below.heap_setCell w6 _ _ q (by simp; omega)))
          have HZN : Hid (w.heap.size + 3 ≤ (w6.setCell ⟨w.heap.size + 1 + 1, 0, none⟩ (.slice (some ⟨g6, 0, none⟩) (S.length + j + 1) cap6)).heap.size) := hid0 (by have := HZ6.out; simp [World.setCell]; omega)
          clear HK6 HB6 HG6 HZ6 t0 t1 t2 t3 t4
          go_wp2
          go_roundw
          case rel => exact ⟨j + 1, _, by omega, by go_num, HKN, HGN, HBN, HZN⟩
          case measure => simp [intOf]; omega
        · have hjI : ¬ (j : Int) < 64 := by omega
          obtain rfl : j = 64 := by omega
          obtain ⟨g, cap, rfl, hju1, hju2, hju3⟩ := own_form HG.out.row (by omega)
          have hSl := HSl.out
          obtain ⟨w8, hw8⟩ : ∃ w8, w8 = wr.setCell ⟨w.heap.size + 1 + 1, 0, none⟩ (.slice (some ⟨g, 0, none⟩) L.length cap) := ⟨_, rfl⟩
          have hK8 := HK.out.set (.slice (some ⟨g, 0, none⟩) L.length cap)
          rw [← hw8] at hK8
          obtain ⟨y0, y1, y2, y3, y4⟩ := hK8.cells
          have q0 : (0 : Int) ≤ (L.length : Int) := by omega
          have q1 : (L.length : Int) ≤ (cap : Int) := by omega
          have HV : Hid (Owned L w (.returned (.agg #[.slice (some ⟨g, 0, none⟩) L.length cap])) (w8.setCell ⟨w.heap.size + 1, 0, none⟩ (.slice (some ⟨g, 0, none⟩) L.length cap))) := hid0 (by
            refine ⟨g, cap, S, rfl, by omega, HSL.out, ?_, ?_⟩
            · have h1 := (HG.out.keep (w' := w8) (fun q h1 _ => by rw [hw8]; exact Below.heap_setCell wr _ _ q (by simp; omega))).keep (w' := w8.setCell ⟨w.heap.size + 1, 0, none⟩ (.slice (some ⟨g, 0, none⟩) L.length cap)) (fun q h1 _ => Below.heap_setCell w8 _ _ q (by simp; omega))
              rw [hSl] at h1
              exact ⟨owns_lower h1.row (by omega), fun x hx => owns_lower (h1.ed x hx) (by omega), h1.ne⟩
            · rw [hw8]
              exact (HB.out.setCell (by simp; omega) _).setCell (by simp) _)
          have c9 : (w8.setCell ⟨w.heap.size + 1, 0, none⟩ (.slice (some ⟨g, 0, none⟩) L.length cap)).cell? ⟨w.heap.size + 1, 0, none⟩ = some (.slice (some ⟨g, 0, none⟩) L.length cap) := by
            rw [cell_of_row _ _ _ _ _ _ (heap_setCell_same w8 _ 0 _ _ _ hK8.res)]; rfl
          have hf8 := hw8.symm
          clear hSl hw8 hK8 hju1 hju2 hju3 HK HG HB HZ HSL
          go_wp2
          refine bodyPost_ret ?_ rfl HV.out
          simp [results, Tryz.results21, go_sem, c9]
end Go.Proofs.YtbdjnmbhphflbaaGreatDoor
