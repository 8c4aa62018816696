/-
  The walk of the document's Check.
-/
import Derived.Test.YtbdjnmbhphflbaaGreatDoorLcBW
namespace Go.Proofs.YtbdjnmbhphflbaaGreatDoor
open Go.RowKit Go.Shelf Go.Lib
theorem refNo_ne : ∀ i, i < 11 → refNo i ≠ 0 := by decide
theorem secP_lt {s : Sec} {ah : List Sec} {i : Nat} (h : secP s ah = some i) : i < 11 := by
  unfold secP at h
  repeat' split at h
  all_goals (cases h; try decide)
theorem entF_lt {l : List UInt8} {i : Nat} (h : entF l = some i) : i < 11 := by
  unfold entF at h
  repeat' split at h
  all_goals (cases h; try decide)
set_option maxRecDepth 10000 in
set_option maxHeartbeats 3200000 in
theorem refCheck_any (L : List Sec) (a : Option Addr) (c : Nat) (w : World) (hl : L.length ≤ 1000000) (hb : ∀ s ∈ L, s.ed.length ≤ 1000000000) (hz : ∀ s ∈ L, ∀ e ∈ s.ed, e.2.size ≤ 4194400) (ha : XA w a L) :
    Calls Tryz.prog 38 #[.agg #[.slice a L.length c]] w fun e w' => e = .returned (.int .i64 (numO (chkE entE L))) ∧ Below w.heap.size w w' := by
  obtain ⟨wa, hwa⟩ : ∃ wa, wa = w.alloc (.cells #[.slice a L.length c] 24) := ⟨_, rfl⟩
  have b0a : Below w.heap.size w wa := by rw [hwa]; exact (Below.refl _ _).alloc (Nat.le_refl _) _
  have r0 : wa.heap[w.heap.size]? = some (.cells #[.slice a L.length c] 24 (0, 0)) := by rw [hwa]; exact heap_alloc_new w _
  have HX0 : Hid (∀ W, Below wa.heap.size wa W → W.cell? ⟨w.heap.size, 0, none⟩ = some (.slice a L.length c)) := hid0 (fun W hW => by
    have q0 := (hW.block _ (Array.getElem?_eq_some_iff.1 r0).1).trans r0
    rw [cell_of_row _ _ _ _ _ _ q0]; rfl)
  have HXA : Hid (∀ W, Below wa.heap.size wa W → XA W a L) := hid0 (fun W hW => (ha.later b0a).later hW)
  have HSf : Hid (∀ k (hk : k < L.length) W, Below wa.heap.size wa W → Calls Tryz.prog 62 #[.agg #[.slice a L.length c], .int .i64 (k : Int)] W fun e w' => e = .returned (.int .i64 (numO (secP L[k] (L.take k)))) ∧ Below wa.heap.size wa w') := hid0 (fun k hk W hW => (refSec_any L a c k hk hl W ((ha.later b0a).later hW)).mono (fun e w' h => ⟨h.1, Below.later hW h.2⟩))
  have HEf : Hid (∀ k (hk : k < L.length) j (hj : j < L[k].ed.length) W, Below wa.heap.size wa W → Calls Tryz.prog 63 #[.string L[k].ed[j].2] W fun e w' => e = .returned (.int .i64 (numO (fE entE L[k].ed j))) ∧ Below wa.heap.size wa w') := hid0 (fun k hk j hj W hW => by
    rw [fE_at entE _ j hj]
    exact (refEntry_any L[k].ed[j].2 (hz _ (List.getElem_mem hk) _ (List.getElem_mem hj)) W).mono (fun e w' h => ⟨h.1, Below.later hW h.2⟩))
  have HLb : Hid (∀ k (hk : k < L.length), L[k].ed.length ≤ 1000000000) := hid0 (fun k hk => hb _ (List.getElem_mem hk))
  have HNl := hid0 (nEd_le 1000000000 L hb)
  have HB0 := hid0 b0a
  have HBr := hid0 (Below.refl wa.heap.size wa)
  have x0 := HX0.out wa (Below.refl _ _)
  have hf1 := hwa.symm
  clear ha hwa b0a r0 hb hz
  obtain ⟨N, hN⟩ : ∃ N, N = numO (chkE entE L) := ⟨_, rfl⟩
  rw [← hN]
  have HN := hid0 hN
  clear hN
  go_enter Tryz.func38, Tryz.ntmps38
  go_wp2
  go_loop [3, 4] (fun v t => ∃ k : Nat, k ≤ L.length ∧ v = .int .i64 (nEd (L.take k) : Nat) ∧ t = .int .i64 (k : Int)) (fun _ t => L.length - (intOf t).toNat)
  case atStart => exact ⟨0, Nat.zero_le _, rfl, rfl⟩
  case round =>
    obtain ⟨k, hk, rfl, rfl⟩ := hrel
    by_cases hlt : k < L.length
    · have hkI : (k : Int) < (L.length : Int) := by omega
      have hk0 : (0 : Int) ≤ (k : Int) := by omega
      obtain ⟨b, off, ae, ce, rfl, hbl, c0, c1, c2, _⟩ := (HXA.out wa HBr.out).at' k hlt
      have HM := hid0 (nEd_more L k hlt)
      have z1 := HNl.out k
      have z2 := HLb.out k hlt
      have hsum : IntKind.i64.wrap ((nEd (L.take k) : Int) + (L[k].ed.length : Int)) = (nEd (L.take k) : Int) + (L[k].ed.length : Int) := IntWalk.i64_in _ (by omega)
      generalize nEd (L.take k) = x at *
      generalize L[k].ed.length = n at *
      go_wp2
      go_round
      case rel => exact ⟨k + 1, by omega, by rw [HM.out]; go_num, by go_num⟩
      case measure => simp [intOf]; omega
    · have hkI : ¬ (k : Int) < (L.length : Int) := by omega
      rw [List.take_of_length_le (show L.length ≤ k by omega)]
      have hch := HN.out
      unfold chkE at hch
      clear hlt
      by_cases h5 : 500 < L.length
      · have h5I : (500 : Int) < (L.length : Int) := by omega
        have HV : Hid (N = 3) := hid0 (by rw [hch, if_pos (.inl h5)]; rfl)
        clear hch
        go_wp2
        go_ret
        exact ⟨by rw [HV.out]; rfl, HB0.out⟩
      · have h5I : ¬ (500 : Int) < (L.length : Int) := by omega
        by_cases h6 : 20000 < nEd L
        · have h6I : (20000 : Int) < (nEd L : Int) := by omega
          have HV : Hid (N = 3) := hid0 (by rw [hch, if_pos (.inr h6)]; rfl)
          clear hch
          generalize nEd L = ne at *
          go_wp2
          go_ret
          exact ⟨by rw [HV.out]; rfl, HB0.out⟩
        · have h6I : ¬ (20000 : Int) < (nEd L : Int) := by omega
          rw [if_neg (by omega)] at hch
          have HR := hid0 hch
          clear hch HN
          generalize nEd L = ne at *
          go_wp2
          go_loopw [5] (fun v wr => ∃ k : Nat, k ≤ L.length ∧ v = .int .i64 (k : Int) ∧ Hid (∀ j, j < k → fSec entE L j = none) ∧ Hid (Below wa.heap.size wa wr)) (fun v _ => L.length - (intOf v).toNat)
          case atStart => exact ⟨0, Nat.zero_le _, rfl, hid0 (fun j h => absurd h (Nat.not_lt_zero _)), HBr⟩
          case round =>
            clear hkI hk
            obtain ⟨k, hk, rfl, HK, HB⟩ := hrel
            have y0 := HX0.out wr HB.out
            by_cases hlt : k < L.length
            · have hkI : (k : Int) < (L.length : Int) := by omega
              have hk0 : (0 : Int) ≤ (k : Int) := by omega
              have HS := hid0 (fun W hW => HSf.out k hlt W hW)
              have hse := (fSec_at entE L k hlt).trans (secE_eq entE L[k] (L.take k))
              cases hp : secP L[k] (L.take k) with
              | some i =>
                rw [hp] at HS hse
                simp only [numO] at HS hse
                have hne := refNo_ne i (secP_lt hp)
                have HV : Hid (N = refNo i) := hid0 (by rw [HR.out, firstN_at _ k i hse _ 0 (Nat.zero_le _) (by omega) (fun j _ h => HK.out j h)]; rfl)
                clear hp hse HK HR
                generalize refNo i = ri at *
                go_wp2_with (first
                  | (go_at_call 62; refine (HS.out _ HB.out).mono ?_; rintro e w3 ⟨rfl, hb3⟩; have HB3 := hid0 hb3; clear hb3)
                  | fail)
                go_ret
                exact ⟨by rw [HV.out]; rfl, Below.later HB0.out HB3.out⟩
              | none =>
                rw [hp] at HS hse
                simp only [numO] at HS hse
                have HSE := hid0 hse
                clear hp hse
                go_wp2_with (first
                  | (go_at_call 62; refine (HS.out _ HB.out).mono ?_; rintro e w3 ⟨rfl, hb3⟩; have HB3 := hid0 hb3; clear hb3)
                  | fail)
                go_loopw [7] (fun v wr => ∃ j : Nat, j ≤ L[k].ed.length ∧ v = .int .i64 (j : Int) ∧ Hid (∀ j', j' < j → fE entE L[k].ed j' = none) ∧ Hid (Below wa.heap.size wa wr)) (fun v _ => L[k].ed.length - (intOf v).toNat)
                case atStart => exact ⟨0, Nat.zero_le _, rfl, hid0 (fun j h => absurd h (Nat.not_lt_zero _)), HB3⟩
                case round =>
                  clear HB y0 HB3
                  obtain ⟨j, hj, rfl, HJ, HB⟩ := hrel
                  have y0 := HX0.out wr HB.out
                  obtain ⟨b, off, ae, ce, rfl, hbl, c0, c1, c2, hea⟩ := (HXA.out wr HB.out).at' k hlt
                  have z2 := HLb.out k hlt
                  by_cases hlj : j < L[k].ed.length
                  · have hjI : (j : Int) < (L[k].ed.length : Int) := by omega
                    have hj0 : (0 : Int) ≤ (j : Int) := by omega
                    obtain ⟨b2, off2, rfl, hbl2, d0, d1⟩ := hea.at' j hlj
                    have HE := hid0 (fun W hW => HEf.out k hlt j hlj W hW)
                    cases hq : fE entE L[k].ed j with
                    | some i =>
                      rw [hq] at HE
                      simp only [numO] at HE
                      have hq2 := hq
                      rw [fE_at entE _ j hlj] at hq2
                      have hne := refNo_ne i (entF_lt hq2)
                      have HV : Hid (N = refNo i) := hid0 (by
                        have e1 := HSE.out
                        rw [firstN_at _ j i hq _ 0 (Nat.zero_le _) (by omega) (fun j' _ h => HJ.out j' h)] at e1
                        rw [HR.out, firstN_at _ k i e1 _ 0 (Nat.zero_le _) (by omega) (fun j _ h => HK.out j h)]; rfl)
                      clear hq hq2 HSE HJ HK HR
                      generalize refNo i = ri at *
                      generalize L[k].ed[j].2 = en at *
                      go_wp2_with (first
                        | (go_at_call 63; refine (HE.out _ HB.out).mono ?_; rintro e w4 ⟨rfl, hb4⟩; have HB4 := hid0 hb4; clear hb4)
                        | fail)
                      go_ret
                      exact ⟨by rw [HV.out]; rfl, Below.later HB0.out HB4.out⟩
                    | none =>
                      rw [hq] at HE
                      simp only [numO] at HE
                      have HJ2 : Hid (∀ j', j' < j + 1 → fE entE L[k].ed j' = none) := hid0 (fun j' h => by
                        by_cases e : j' = j
                        · rw [e, hq]
                        · exact HJ.out j' (by omega))
                      clear hq
                      generalize L[k].ed[j].2 = en at *
                      go_wp2_with (first
                        | (go_at_call 63; refine (HE.out _ HB.out).mono ?_; rintro e w4 ⟨rfl, hb4⟩; have HB4 := hid0 hb4; clear hb4)
                        | fail)
                      go_roundw
                      case rel => exact ⟨j + 1, by omega, by go_num, HJ2, HB4⟩
                      case measure => simp [intOf]; omega
                  · have hjI : ¬ (j : Int) < (L[k].ed.length : Int) := by omega
                    have HK2 : Hid (∀ j, j < k + 1 → fSec entE L j = none) := hid0 (fun j' h => by
                      by_cases e : j' = k
                      · rw [e, HSE.out]
                        exact firstN_none _ _ 0 (fun j'' _ h2 => HJ.out j'' (by omega))
                      · exact HK.out j' (by omega))
                    clear HJ HK HSE
                    go_wp2
                    go_roundw
                    case rel => exact ⟨k + 1, by omega, by go_num, HK2, HB⟩
                    case measure => simp [intOf]; omega
            · have hkI : ¬ (k : Int) < (L.length : Int) := by omega
              have HV : Hid (N = 0) := hid0 (by rw [HR.out, firstN_none _ _ 0 (fun j _ h => HK.out j (by omega))]; rfl)
              clear HK HR
              go_wp2
              go_ret
              exact ⟨by rw [HV.out]; rfl, Below.later HB0.out HB.out⟩
end Go.Proofs.YtbdjnmbhphflbaaGreatDoor
