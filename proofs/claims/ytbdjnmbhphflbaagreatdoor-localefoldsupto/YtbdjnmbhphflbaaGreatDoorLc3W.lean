/-
  The walk of bundle's Check in general, over what checkEntry answers.
-/
import Derived.Test.YtbdjnmbhphflbaaGreatDoorLc2W
import Derived.Deep.RegionHeld3
namespace Go.Proofs.YtbdjnmbhphflbaaGreatDoor
open Go.RowKit Go.Shelf Go.Lib
def fSec (E : ByteArray → Option Nat) (L : List Sec) (k : Nat) : Option Nat := match L[k]? with
  | some s => secE E s (L.take k)
  | none => none
theorem fSec_at (E : ByteArray → Option Nat) (L : List Sec) (k : Nat) (h : k < L.length) : fSec E L k = secE E L[k] (L.take k) := by
  unfold fSec
  rw [List.getElem?_eq_getElem h]
/-- What Check answers: the number of the refusal. -/
def chkE (E : ByteArray → Option Nat) (L : List Sec) : Option Nat := if 500 < L.length ∨ 20000 < nEd L then some 2 else firstN (fSec E L) 0 L.length
set_option maxRecDepth 10000 in
set_option maxHeartbeats 3200000 in
theorem check_any (E : ByteArray → Option Nat) (A : Nat → Addr) (L : List Sec) (a : Option Addr) (c : Nat) (w : World) (hc : L.length ≤ c) (hb : ∀ s ∈ L, s.ed.length ≤ 140737488355328) (hm : Mx w) (he : Sents w A) (ha : XA w a L) (hz : ∀ s ∈ L, ∀ e ∈ s.ed, e.2.size ≤ 140737488355328)
    (hE : ∀ x W, x.size ≤ 140737488355328 → Below w.heap.size w W → Calls Tryz.prog 54 #[.string x] W fun e w' => e = .returned (errO A (E x)) ∧ Below W.heap.size W w') :
    Calls Tryz.prog 11 #[.agg #[.slice a L.length c]] w fun e w' => e = .returned (errO A (chkE E L)) ∧ Below w.heap.size w w' := by
  obtain ⟨w0, hw0⟩ : ∃ w0, w0 = w.alloc (.cells #[.slice a L.length c] 24) := ⟨_, rfl⟩
  have hB0 : Below w.heap.size w w0 := by rw [hw0]; exact (Below.refl _ _).alloc (Nat.le_refl _) _
  have hX0 : w0.heap[w.heap.size]? = some (.cells #[.slice a L.length c] 24 (0, 0)) := by rw [hw0]; exact heap_alloc_new w _
  have hs0 : w0.heap.size = w.heap.size + 1 := by rw [hw0]; simp
  have HXW : Hid (∀ W, Below w0.heap.size w0 W → W.cell? ⟨w.heap.size, 0, none⟩ = some (.slice a L.length c) ∧ W.cell? ⟨1, 0, none⟩ = some (.iface 192 (.pointer (some (A 2))))) := hid0 (fun W hW => by
    have hr := (hW.block w.heap.size (by omega)).trans hX0
    exact ⟨by rw [cell_of_row _ _ _ _ _ _ hr]; rfl, ((he.below hB0).below hW).c2⟩)
  have HXA : Hid (∀ W, Below w0.heap.size w0 W → XA W a L) := hid0 (fun W hW => (ha.later hB0).later hW)
  have HCS : Hid (∀ (k : Nat) (hk : k < L.length) (ae : Option Addr) (ce : Nat) W, k ≤ 500 → Below w0.heap.size w0 W → EA W ae L[k].ed → Calls Tryz.prog 33 #[.agg #[.string L[k].loc, .string L[k].par, .slice ae L[k].ed.length ce], .slice a k c] W fun e w' => e = .returned (errO A (fSec E L k)) ∧ Below W.heap.size W w') := hid0 (fun k hk ae ce W h5 hW hed => by
    have hlt : (L.take k).length = k := by rw [List.length_take]; omega
    have h0 := checkSec_any E A L[k] ae ce (L.take k) a c W (by omega) (hb _ (List.getElem_mem hk)) ((hm.below hB0).below hW) ((he.below hB0).below hW) (((ha.later hB0).later hW).take k) hed (hz _ (List.getElem_mem hk)) (fun x W' hx hW' => hE x W' hx (Below.later (Below.later hB0 hW) hW'))
    rw [hlt, ← fSec_at E L k hk] at h0
    exact h0)
  have HCt : Hid (L.length ≤ 500 → Calls Tryz.prog 32 #[.slice a L.length c] w0 fun e w' => e = .returned (.int .i64 (nEd L : Nat)) ∧ Below w0.heap.size w0 w') := hid0 (fun h5 => count_any L a c w0 h5 hb (ha.later hB0))
  have HB0 := hid0 hB0
  obtain ⟨x0, x1⟩ := HXW.out w0 (Below.refl _ _)
  have HBr := hid0 (Below.refl w0.heap.size w0)
  have hfold := hw0.symm
  clear hw0 hB0 hX0 hs0 hm he hE ha hb hz
  obtain ⟨R, hR⟩ : ∃ R, R = chkE E L := ⟨_, rfl⟩
  rw [← hR]
  unfold chkE at hR
  by_cases h5 : 500 < L.length
  · have h5I : (500 : Int) < (L.length : Int) := by omega
    have HV : Hid (R = some 2) := hid0 (by rw [hR, if_pos (.inl h5)])
    clear hR HCS HXA HCt
    go_enter Tryz.func11, Tryz.ntmps11
    go_wp2
    go_ret
    exact ⟨by rw [HV.out]; rfl, Below.later HB0.out HBr.out⟩
  · have h5I : ¬ (500 : Int) < (L.length : Int) := by omega
    have HCn := hid0 (HCt.out (by omega))
    by_cases h6 : 20000 < nEd L
    · have h6I : (20000 : Int) < (nEd L : Int) := by omega
      have HV : Hid (R = some 2) := hid0 (by rw [hR, if_pos (.inr h6)])
      clear hR HCS HXA HCt
      generalize nEd L = ne at *
      go_enter Tryz.func11, Tryz.ntmps11
      go_wp2_with (first | (go_at_call 32; refine HCn.out.mono ?_; rintro e w1 ⟨rfl, hb1⟩; obtain ⟨y0, y1⟩ := HXW.out w1 hb1; have HB1 := hid0 hb1; clear hb1) | fail)
      go_ret
      exact ⟨by rw [HV.out]; rfl, Below.later HB0.out HB1.out⟩
    · have h6I : ¬ (20000 : Int) < (nEd L : Int) := by omega
      rw [if_neg (by omega)] at hR
      have HR := hid0 hR
      clear hR HCt
      generalize nEd L = ne at *
      go_enter Tryz.func11, Tryz.ntmps11
      go_wp2_with (first | (go_at_call 32; refine HCn.out.mono ?_; rintro e w1 ⟨rfl, hb1⟩; obtain ⟨y0, y1⟩ := HXW.out w1 hb1; have HB1 := hid0 hb1; clear hb1) | fail)
      go_loopw [20] (fun v wr => ∃ k : Nat, k ≤ L.length ∧ v = .int .i64 (k : Int) ∧ Hid (∀ j, j < k → fSec E L j = none) ∧ Hid (Below w0.heap.size w0 wr)) (fun v _ => L.length - (intOf v).toNat)
      case atStart => exact ⟨0, Nat.zero_le _, rfl, hid0 (fun j h => absurd h (Nat.not_lt_zero _)), HB1⟩
      case round =>
        clear y0 y1 HB1
        obtain ⟨k, hk, rfl, HN, HB⟩ := hrel
        by_cases hlt : k < L.length
        · have hkI : (k : Int) < (L.length : Int) := by omega
          have hk0 : (0 : Int) ≤ (k : Int) := by omega
          have hkc : (k : Int) ≤ (c : Int) := by omega
          obtain ⟨b, off, ae, ce, rfl, hbl, c0, c1, c2, hed⟩ := (HXA.out wr HB.out).at' k hlt
          obtain ⟨w2, hw2⟩ : ∃ w2, w2 = wr.alloc (.cells #[.string L[k].loc, .string L[k].par, .slice ae L[k].ed.length ce] 27) := ⟨_, rfl⟩
          have hb12 : Below wr.heap.size wr w2 := by rw [hw2]; exact (Below.refl _ _).alloc (Nat.le_refl _) _
          have hs2 : w2.heap.size = wr.heap.size + 1 := by rw [hw2]; simp
          have hr2 : w2.heap[wr.heap.size]? = some (.cells #[.string L[k].loc, .string L[k].par, .slice ae L[k].ed.length ce] 27 (0, 0)) := by rw [hw2]; exact heap_alloc_new wr _
          have HB02 : Hid (Below w0.heap.size w0 w2) := hid0 (Below.later HB.out hb12)
          have HSo : Hid (∀ W, Below w2.heap.size w2 W → W.cell? ⟨w.heap.size, 0, none⟩ = some (.slice (some ⟨b, off, none⟩) L.length c) ∧ W.cell? ⟨wr.heap.size, 0, none⟩ = some (.string L[k].loc) ∧ W.cell? ⟨wr.heap.size, 1, none⟩ = some (.string L[k].par) ∧ W.cell? ⟨wr.heap.size, 2, none⟩ = some (.slice ae L[k].ed.length ce) ∧ Below w2.heap.size w2 W) := hid0 (fun W hW => by
            have hr := (hW.block wr.heap.size (by omega)).trans hr2
            exact ⟨(HXW.out W (Below.later HB02.out hW)).1, by rw [cell_of_row _ _ _ _ _ _ hr]; rfl, by rw [cell_of_row _ _ _ _ _ _ hr]; rfl, by rw [cell_of_row _ _ _ _ _ _ hr]; rfl, hW⟩)
          have HC2 : Hid (∀ W, Below w2.heap.size w2 W → Calls Tryz.prog 33 #[.agg #[.string L[k].loc, .string L[k].par, .slice ae L[k].ed.length ce], .slice (some ⟨b, off, none⟩) k c] W fun e w' => e = .returned (errO A (fSec E L k)) ∧ Below w2.heap.size w2 w') := hid0 (fun W hW => (HCS.out k hlt ae ce W (by omega) (Below.later HB02.out hW) ((hed.later hb12).later hW)).mono (fun e w' h => ⟨h.1, Below.later hW h.2⟩))
          have HEND : Hid (∀ W, Below w2.heap.size w2 W → Below w0.heap.size w0 W) := hid0 (fun W hW => Below.later HB02.out hW)
          have HF2 := hid0 hw2
          obtain ⟨z0, z1, z2, z3, hBB⟩ := HSo.out w2 (Below.refl _ _)
          have HX1 := hid0 (HXW.out wr HB.out).1
          clear hw2 hb12 hs2 hr2 hed
          generalize L[k].loc = l at *
          generalize L[k].par = p at *
          generalize L[k].ed.length = n at *
          cases hx : fSec E L k with
          | some i =>
            have HV : Hid (R = some i) := hid0 (by rw [HR.out]; exact firstN_at _ k i hx _ 0 (Nat.zero_le _) (by omega) (fun j _ h => HN.out j h))
            rw [hx] at HC2
            simp only [errO] at HC2
            clear hx HN HCS HXA HR
            go_wp2
            rw [← HF2.out]
            go_region_held3 (fun W => W.cell? ⟨w.heap.size, 0, none⟩ = some (.slice (some ⟨b, off, none⟩) L.length c) ∧ W.cell? ⟨wr.heap.size, 0, none⟩ = some (.string l) ∧ W.cell? ⟨wr.heap.size, 1, none⟩ = some (.string p) ∧ W.cell? ⟨wr.heap.size, 2, none⟩ = some (.slice ae n ce) ∧ Below w2.heap.size w2 W) (first | exact HSo.out _ (by go_grown) | (go_split_ands; exact HSo.out _ (by go_grown)))
              (first | (go_at_call 33; go_split_ands; refine (HC2.out _ (by go_grown)).mono ?_; rintro e w3 ⟨rfl, hb3⟩))
            go_wp2
            go_ret
            exact ⟨by rw [HV.out]; rfl, Below.later HB0.out (HEND.out _ (by assumption))⟩
          | none =>
            have HV : Hid (∀ j, j < k + 1 → fSec E L j = none) := hid0 (fun j hj => by
              by_cases e : j = k
              · rw [e, hx]
              · exact HN.out j (by omega))
            rw [hx] at HC2
            simp only [errO] at HC2
            clear hx HN
            go_wp2
            rw [← HF2.out]
            go_region_held3 (fun W => W.cell? ⟨w.heap.size, 0, none⟩ = some (.slice (some ⟨b, off, none⟩) L.length c) ∧ W.cell? ⟨wr.heap.size, 0, none⟩ = some (.string l) ∧ W.cell? ⟨wr.heap.size, 1, none⟩ = some (.string p) ∧ W.cell? ⟨wr.heap.size, 2, none⟩ = some (.slice ae n ce) ∧ Below w2.heap.size w2 W) (first | exact HSo.out _ (by go_grown) | (go_split_ands; exact HSo.out _ (by go_grown)))
              (first | (go_at_call 33; go_split_ands; refine (HC2.out _ (by go_grown)).mono ?_; rintro e w3 ⟨rfl, hb3⟩))
            go_wp2
            go_split_ands
            have HB7 := hid0 (HEND.out _ (by assumption))
            go_roundw
            case rel => exact ⟨k + 1, by omega, by go_num, HV, HB7⟩
            case measure => simp [intOf]; omega
        · have hkI : ¬ (k : Int) < (L.length : Int) := by omega
          have HV : Hid (R = none) := hid0 (by rw [HR.out]; exact firstN_none _ _ 0 (fun j _ h => HN.out j (by omega)))
          clear HN HCS HXA HR
          go_wp2
          go_ret
          exact ⟨by rw [HV.out]; rfl, Below.later HB0.out HB.out⟩
end Go.Proofs.YtbdjnmbhphflbaaGreatDoor
