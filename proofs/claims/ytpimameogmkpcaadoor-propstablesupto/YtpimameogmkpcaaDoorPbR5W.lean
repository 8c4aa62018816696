/-
  The walk of caesuraref5's New.
-/
import Derived.Test.YtpimameogmkpcaaDoorPbR2W
import Derived.Test.YtpimameogmkpcaaDoorPbR4W
namespace Go.Proofs.YtpimameogmkpcaaDoor
open Go.RowKit Go.Shelf
/-- What the document's own New leaves. -/
def RNewed (L : List ByteArray) (ss : List Sp) (w : World) (e : Ending) (w' : World) : Prop :=
  (∃ i, propF L ss = some i ∧ e = .returned (.tuple #[.pointer none, .int .i64 (numO (some i))]) ∧ Below w.heap.size w w') ∨
  (propF L ss = none ∧ ∃ U vN vS, e = .returned (.tuple #[.pointer (some ⟨U, 0, none⟩), .int .i64 0]) ∧ RTab w' w.heap.size U L ss vN vS ∧ Below w.heap.size w w')
theorem propF_few {L : List ByteArray} {ss : List Sp} (h : propF L ss = none) : L.length ≤ 62 ∧ ss.length ≤ 65536 := by
  unfold propF at h
  split at h
  · cases h
  · cases hq : nmF [] L with
    | some e => rw [hq] at h; cases h
    | none =>
      rw [hq] at h
      simp only at h
      split at h
      · cases h
      · omega
theorem owns_lower {w : World} {base base' : Nat} {e : TypeId} {size : Nat} {v : Value} {n : Nat} {xs : List Value} (h : w.ownsRow base e size v n xs) (hb : base' ≤ base) : w.ownsRow base' e size v n xs :=
  ⟨h.1, h.2.imp id (fun ⟨g, cap, cur, h1, h2, h3⟩ => ⟨g, cap, cur, h1, Nat.le_trans hb h2, h3⟩)⟩
theorem RTab.lower {w : World} {lo lo' U : Nat} {L : List ByteArray} {ss : List Sp} {vN vS : Value} (h : RTab w lo U L ss vN vS) (hl : lo' ≤ lo) : RTab w lo' U L ss vN vS :=
  ⟨Nat.le_trans hl h.low, h.row, owns_lower h.names hl, owns_lower h.spans hl⟩
theorem RTab.below {w w' : World} {lo U : Nat} {L : List ByteArray} {ss : List Sp} {vN vS : Value} (h : RTab w lo U L ss vN vS) (hb : Below w.heap.size w w') : RTab w' lo U L ss vN vS := by
  have hg : w.grownBy w' none := ⟨hb.os, hb.tape, hb.output, hb.size, fun k hk _ => hb.block k hk⟩
  exact ⟨h.low, (hb.block U (Array.getElem?_eq_some_iff.1 h.row).1).trans h.row, World.ownsRow.kept h.names hg (by cases hv : vN.ownBlock <;> simp), World.ownsRow.kept h.spans hg (by cases hv : vS.ownBlock <;> simp)⟩
structure NewB (w1 : World) (vC : Value) (w6 : World) (a : Option Addr) (L : List ByteArray) (l : List Sp) : Prop where
  sa : PA w6 a l
  room : w1.heap.size + 1 ≤ w6.heap.size
  second : ∀ vS w7, OwnP w7 (w1.heap.size + 1) vS l → w6.grownBy w7 none →
    w7.cell? ⟨w1.heap.size, 1, none⟩ = some (.slice none 0 0) ∧ w7.frozen? ⟨w1.heap.size, 1, none⟩ = false ∧ (w7.setCell ⟨w1.heap.size, 1, none⟩ vS).cell? ⟨w1.heap.size, 0, none⟩ = some vC ∧ (w7.setCell ⟨w1.heap.size, 1, none⟩ vS).cell? ⟨w1.heap.size, 1, none⟩ = some vS ∧
      Hid (∀ W, W = (w7.setCell ⟨w1.heap.size, 1, none⟩ vS).alloc (.cells #[vC, vS] 73) → RTab W (w1.heap.size + 1) (w7.setCell ⟨w1.heap.size, 1, none⟩ vS).heap.size L l vC vS ∧ Below w1.heap.size w1 W)
structure NewA (w1 : World) (x : Nat) (vP : Value) (aN a : Option Addr) (L : List ByteArray) (l : List Sp) : Prop where
  sa : SA (w1.alloc (.cells #[.slice none 0 0, .slice none 0 0] 25)) aN L
  room : w1.heap.size + 1 ≤ (w1.alloc (.cells #[.slice none 0 0, .slice none 0 0] 25)).heap.size
  first : ∀ vC w5, OwnS w5 (w1.heap.size + 1) vC L → (w1.alloc (.cells #[.slice none 0 0, .slice none 0 0] 25)).grownBy w5 none →
    w5.cell? ⟨w1.heap.size, 0, none⟩ = some (.slice none 0 0) ∧ w5.frozen? ⟨w1.heap.size, 0, none⟩ = false ∧ (w5.setCell ⟨w1.heap.size, 0, none⟩ vC).cell? ⟨w1.heap.size, 1, none⟩ = some (.slice none 0 0) ∧ (w5.setCell ⟨w1.heap.size, 0, none⟩ vC).cell? ⟨x, 1, none⟩ = some vP ∧
      Hid (NewB w1 vC (w5.setCell ⟨w1.heap.size, 0, none⟩ vC) a L l)
theorem newB (w1 w6 : World) (vC : Value) (a : Option Addr) (L : List ByteArray) (l : List Sp) (hpa : PA w6 a l) (hr : w1.heap.size + 1 ≤ w6.heap.size) (g6 : w6.heap[w1.heap.size]? = some (.cells #[vC, .slice none 0 0] 25 (0, 0))) (ho : OwnS w6 (w1.heap.size + 1) vC L) (o16 : Only w1 w6 (fun _ => False)) : NewB w1 vC w6 a L l where
  sa := hpa
  room := hr
  second := fun vS w7 hoS hg => by
    have g7 := (hg.block w1.heap.size (by omega) (by simp)).trans g6
    obtain ⟨w8, hw8⟩ : ∃ w8, w8 = w7.setCell ⟨w1.heap.size, 1, none⟩ vS := ⟨_, rfl⟩
    have g8 : w8.heap[w1.heap.size]? = some (.cells #[vC, vS] 25 (0, 0)) := by rw [hw8, heap_setCell_same w7 _ 1 _ _ vS g7]; rfl
    have o8 : Only w1 w8 (fun _ => False) := by
      rw [hw8]
      exact (o16.trans (Only.ofGrown hg) (fun k hk => by cases hk)).trans (Only.setCell w7 w1.heap.size 1 vS) (fun k hk => .inr (by omega))
    have oC : OwnS w8 (w1.heap.size + 1) vC L := by
      rw [hw8]
      have h := World.ownsRow.kept ho hg (by cases hv : vC.ownBlock <;> simp)
      exact ownsRow_setCell_other h (a := ⟨w1.heap.size, 1, none⟩) (fun e => by have := (World.ownsRow.lt h _ e).1; simp at this; omega) vS
    have oS : OwnP w8 (w1.heap.size + 1) vS l := by
      rw [hw8]
      exact ownsRow_setCell_other hoS (a := ⟨w1.heap.size, 1, none⟩) (fun e => by have := (World.ownsRow.lt hoS _ e).1; simp at this; omega) vS
    have hz8 : w1.heap.size + 1 ≤ w8.heap.size := by
      have h1 := (Array.getElem?_eq_some_iff.1 g8).1
      omega
    refine ⟨by rw [cell_of_row _ _ _ _ _ _ g7]; rfl, by simp [World.frozen?, g7], by rw [← hw8, cell_of_row _ _ _ _ _ _ g8]; rfl, by rw [← hw8, cell_of_row _ _ _ _ _ _ g8]; rfl, hid0 (fun W hW => ?_)⟩
    rw [← hw8] at hW ⊢
    rw [hW]
    refine ⟨⟨hz8, heap_alloc_new w8 _, World.ownsRow.alloc oC _, World.ownsRow.alloc oS _⟩, ?_⟩
    have b8 : Below w1.heap.size w1 w8 := ⟨o8.os, o8.tape, o8.output, o8.size, fun k hk => o8.block k hk id⟩
    exact b8.alloc b8.size _
theorem newA (w1 : World) (x : Nat) (vP : Value) (aN a : Option Addr) (L : List ByteArray) (l : List Sp) (hx : w1.cell? ⟨x, 1, none⟩ = some vP) (hxw : x < w1.heap.size) (hsa : SA w1 aN L) (hpa : PA w1 a l) : NewA w1 x vP aN a L l where
  sa := hsa.below ((Below.refl _ _).alloc (Nat.le_refl _) _)
  room := by simp
  first := fun vC w5 hoC hg => by
    have g5 := (hg.block w1.heap.size (by simp) (by simp)).trans (heap_alloc_new w1 _)
    obtain ⟨w6, hw6⟩ : ∃ w6, w6 = w5.setCell ⟨w1.heap.size, 0, none⟩ vC := ⟨_, rfl⟩
    have g6 : w6.heap[w1.heap.size]? = some (.cells #[vC, .slice none 0 0] 25 (0, 0)) := by rw [hw6, heap_setCell_same w5 _ 0 _ _ vC g5]; rfl
    have o6 : Only w1 w6 (fun _ => False) := by
      rw [hw6]
      exact ((Only.alloc w1 _ (fun _ => False)).trans (Only.ofGrown hg) (fun k hk => by cases hk)).trans (Only.setCell w5 w1.heap.size 0 vC) (fun k hk => .inr (by omega))
    have b6 : Below w1.heap.size w1 w6 := ⟨o6.os, o6.tape, o6.output, o6.size, fun k hk => o6.block k hk id⟩
    have oC : OwnS w6 (w1.heap.size + 1) vC L := by
      rw [hw6]
      exact ownsRow_setCell_other hoC (a := ⟨w1.heap.size, 0, none⟩) (fun e => by have := (World.ownsRow.lt hoC _ e).1; simp at this; omega) vC
    refine ⟨by rw [cell_of_row _ _ _ _ _ _ g5]; rfl, by simp [World.frozen?, g5], by rw [← hw6, cell_of_row _ _ _ _ _ _ g6]; rfl, by rw [← hw6]; exact (b6.cell (p := ⟨x, 1, none⟩) hxw).trans hx, hid0 ?_⟩
    rw [← hw6]
    exact newB w1 w6 vC a L l (hpa.below b6) (by have h1 := (Array.getElem?_eq_some_iff.1 g6).1; omega) g6 oC o6
set_option maxRecDepth 10000 in
set_option maxHeartbeats 3200000 in
theorem refNew_any (L : List ByteArray) (l : List Sp) (aN a : Option Addr) (cN cap : Nat) (w : World) (hcN : L.length ≤ 1000000000) (hcap : l.length ≤ 1000000000)
    (hz : ∀ s ∈ L, s.size ≤ 1000000000000) (hnN : aN = none → cN = 0) (hnS : a = none → cap = 0) (ha : SA w aN L) (hb : PA w a l) :
    Calls Tryd.prog 18 #[.agg #[.slice aN L.length cN, .slice a l.length cap]] w fun e w' => RNewed L l w e w' := by
  obtain ⟨w0, hw0⟩ : ∃ w0, w0 = w.alloc (.cells #[.slice aN L.length cN, .slice a l.length cap] 25) := ⟨_, rfl⟩
  have hB0 : Below w.heap.size w w0 := by rw [hw0]; exact (Below.refl _ _).alloc (Nat.le_refl _) _
  have hX0 : w0.heap[w.heap.size]? = some (.cells #[.slice aN L.length cN, .slice a l.length cap] 25 (0, 0)) := by rw [hw0]; exact heap_alloc_new w _
  have hs0 : w0.heap.size = w.heap.size + 1 := by rw [hw0]; simp
  have HFA := hid0 (refFault_any L l aN a cN cap w0 hcN hcap hz (ha.below hB0) (hb.below hB0))
  have HSA := hid0 (ha.below hB0)
  have HPA := hid0 (hb.below hB0)
  have HXW : Hid (∀ W, Below w0.heap.size w0 W → W.cell? ⟨w.heap.size, 0, none⟩ = some (.slice aN L.length cN) ∧ W.cell? ⟨w.heap.size, 1, none⟩ = some (.slice a l.length cap)) := hid0 (fun W hW => by
    have hr := (hW.block w.heap.size (by omega)).trans hX0
    exact ⟨by rw [cell_of_row _ _ _ _ _ _ hr]; rfl, by rw [cell_of_row _ _ _ _ _ _ hr]; rfl⟩)
  obtain ⟨y0, y1⟩ := HXW.out w0 (Below.refl _ _)
  have HB0 := hid0 hB0
  have HS0 := hid0 hs0
  have HNN := hid0 hnN
  have HNS := hid0 hnS
  have hfold := hw0.symm
  clear ha hb hz hB0 hw0 hX0 hs0 hnN hnS
  cases hq : propF L l with
  | some i =>
    have hni := numO_ne i
    rw [hq] at HFA
    obtain ⟨z, hz⟩ : ∃ z, numO (some i) = z := ⟨_, rfl⟩
    rw [hz] at hni HFA
    have HQ := hid0 hq
    have HZ := hid0 hz
    clear hq hz
    go_enter Tryd.func18, Tryd.ntmps18
    go_wp2_with (go_at_call 33; refine HFA.out.mono ?_; rintro e w1 ⟨rfl, hb1⟩; have HB1 := hid0 hb1; clear hb1)
    go_returns
    exact .inl ⟨i, HQ.out, by rw [HZ.out]; rfl, Below.later HB0.out HB1.out⟩
  | none =>
    have hfew := propF_few hq
    rw [hq, show numO none = 0 from rfl] at HFA
    have HQ := hid0 hq
    clear hq
    go_enter Tryd.func18, Tryd.ntmps18
    have mk : Hid True := trivial
    go_wp2_with (first
      | (go_at_call 33; clear mk; refine HFA.out.mono ?_; rintro e w1 ⟨rfl, hb1⟩; obtain ⟨z0, z1⟩ := HXW.out _ hb1; have xz0 : (w1.alloc (.cells #[.slice none 0 0, .slice none 0 0] 25)).cell? ⟨w.heap.size, 0, none⟩ = some (.slice aN L.length cN) := cell_alloc z0 _
         have hxw : w.heap.size < w1.heap.size := (by have h1 := HS0.out; have h2 := hb1.size; omega)
         have HQ4 := hid0 (newA w1 w.heap.size (.slice a l.length cap) aN a L l z1 hxw (HSA.out.below hb1) (HPA.out.below hb1))
         have HB1 := hid0 hb1
         have M1 : Hid True := trivial
         clear hb1 HFA z0 z1 hfold)
      | (at_builtin; clear M1; refine wpList_spread (by rfl) _ _ (by rfl) aN L cN (w1.heap.size + 1) (by rfl) (by rfl) HNN.out HQ4.out.sa (by omega) HQ4.out.room ?_; intro vC w5 hoC hgC; obtain ⟨aV, cV, rfl, hjunk⟩ := hoC.sa; clear hjunk; obtain ⟨c5, f5, x5, x6, HQ5⟩ := HQ4.out.first _ _ hoC hgC; have M2 : Hid True := trivial; clear hoC hgC)
      | (at_builtin; clear M2; refine wpList_spreadP (by rfl) _ _ (by rfl) a l cap (w1.heap.size + 1) (by rfl) (by rfl) HNS.out HQ5.out.sa (by omega) HQ5.out.room ?_; intro vS w7 hoS hgS; obtain ⟨aW, cW, rfl, hjunk⟩ := hoS.pa; clear hjunk; obtain ⟨c7, f7, x7, x8, HQ7⟩ := HQ5.out.second _ _ hoS hgS; clear hoS hgS))
    go_returns
    have hlow : w.heap.size ≤ w1.heap.size + 1 := by have h1 := HS0.out; have h2 := HB1.out.size; omega
    have hT := ((HQ7.out _ rfl).1).lower hlow
    rw [show (w7.setCell ⟨w1.heap.size, 1, none⟩ (.slice aW l.length cW)).heap.size = w7.heap.size by simp [World.setCell]] at hT
    exact .inr ⟨HQ.out, _, _, _, rfl, hT, Below.later (Below.later HB0.out HB1.out) (HQ7.out _ rfl).2⟩
end Go.Proofs.YtpimameogmkpcaaDoor
