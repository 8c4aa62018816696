/-
  The walk of the document's sectionFault.
-/
import Derived.Test.YtbdjnmbhphflbaaGreatDoorLcAW
namespace Go.Proofs.YtbdjnmbhphflbaaGreatDoor
open Go.RowKit Go.Shelf Go.Lib
/-- What is wrong with a section but its edits. -/
def secP (s : Sec) (ahead : List Sec) : Option Nat :=
  if isTagB s.loc = false then some 1 else if hasL ahead s.loc = true then some 4 else if (s.par.toList == []) = false ∧ isTagB s.par = false then some 1
  else if (s.par.toList == []) = false ∧ (s.loc.toList == [114, 111, 111, 116]) = true then some 0 else none
theorem secE_eq (E : ByteArray → Option Nat) (s : Sec) (ahead : List Sec) : secE E s ahead = match secP s ahead with
    | some i => some i
    | none => firstN (fE E s.ed) 0 s.ed.length := by
  unfold secE secP
  repeat' split
  all_goals first | rfl | simp_all
theorem hasL_take_no {L : List Sec} {i : Nat} (hi : i ≤ L.length) {t : ByteArray} (h : ∀ j (h : j < L.length), j < i → L[j].loc ≠ t) : hasL (L.take i) t = false := by
  rw [Bool.eq_false_iff]
  intro hh
  obtain ⟨k, hk, e⟩ := (hasL_iff _ t).1 hh
  rw [List.length_take] at hk
  rw [List.getElem_take] at e
  exact h k (by omega) (by omega) e
theorem hasL_take_yes {L : List Sec} {i k : Nat} (hi : i ≤ L.length) {t : ByteArray} (hk : k < i) (e : (L[k]'(by omega)).loc = t) : hasL (L.take i) t = true :=
  (hasL_iff _ t).2 ⟨k, by rw [List.length_take]; omega, by rw [List.getElem_take]; exact e⟩
set_option maxRecDepth 10000 in
set_option maxHeartbeats 3200000 in
theorem refSec_any (L : List Sec) (a : Option Addr) (c i : Nat) (hi : i < L.length) (hl : L.length ≤ 1000000) (w : World) (ha : XA w a L) :
    Calls Tryz.prog 62 #[.agg #[.slice a L.length c], .int .i64 (i : Int)] w fun e w' => e = .returned (.int .i64 (numO (secP L[i] (L.take i)))) ∧ Below w.heap.size w w' := by
  obtain ⟨b, off, ae, ce, rfl, hbl, s0, s1, s2, _⟩ := ha.at' i hi
  obtain ⟨wa, hwa⟩ : ∃ wa, wa = w.alloc (.cells #[.slice (some ⟨b, off, none⟩) L.length c] 24) := ⟨_, rfl⟩
  obtain ⟨wb, hwb⟩ : ∃ wb, wb = wa.alloc (.cells #[.string L[i].loc, .string L[i].par, .slice ae L[i].ed.length ce] 27) := ⟨_, rfl⟩
  have sa : wa.heap.size = w.heap.size + 1 := by rw [hwa]; simp
  have b0a : Below w.heap.size w wa := by rw [hwa]; exact (Below.refl _ _).alloc (Nat.le_refl _) _
  have bab : Below wa.heap.size wa wb := by rw [hwb]; exact (Below.refl _ _).alloc (Nat.le_refl _) _
  have b0b : Below w.heap.size w wb := Below.later b0a bab
  have r0a : wa.heap[w.heap.size]? = some (.cells #[.slice (some ⟨b, off, none⟩) L.length c] 24 (0, 0)) := by rw [hwa]; exact heap_alloc_new w _
  have r0 : wb.heap[w.heap.size]? = some (.cells #[.slice (some ⟨b, off, none⟩) L.length c] 24 (0, 0)) := (bab.block _ (by omega)).trans r0a
  have r1 : wb.heap[w.heap.size + 1]? = some (.cells #[.string L[i].loc, .string L[i].par, .slice ae L[i].ed.length ce] 27 (0, 0)) := by rw [hwb, ← sa]; exact heap_alloc_new wa _
  have a0 : wa.cell? ⟨w.heap.size, 0, none⟩ = some (.slice (some ⟨b, off, none⟩) L.length c) := by rw [cell_of_row _ _ _ _ _ _ r0a]; rfl
  have a1 : wa.cell? ⟨b, off + i * 3, none⟩ = some (.string L[i].loc) := (b0a.cell (p := ⟨b, off + i * 3, none⟩) hbl).trans s0
  have a2 : wa.cell? ⟨b, off + i * 3 + 1, none⟩ = some (.string L[i].par) := (b0a.cell (p := ⟨b, off + i * 3 + 1, none⟩) hbl).trans s1
  have a3 : wa.cell? ⟨b, off + i * 3 + 2, none⟩ = some (.slice ae L[i].ed.length ce) := (b0a.cell (p := ⟨b, off + i * 3 + 2, none⟩) hbl).trans s2
  have HXW : Hid (∀ W, Below wb.heap.size wb W → W.cell? ⟨w.heap.size, 0, none⟩ = some (.slice (some ⟨b, off, none⟩) L.length c) ∧ W.cell? ⟨w.heap.size + 1, 0, none⟩ = some (.string L[i].loc) ∧ W.cell? ⟨w.heap.size + 1, 1, none⟩ = some (.string L[i].par)) := hid0 (fun W hW => by
    have q0 := (hW.block _ (Array.getElem?_eq_some_iff.1 r0).1).trans r0
    have q1 := (hW.block _ (Array.getElem?_eq_some_iff.1 r1).1).trans r1
    exact ⟨by rw [cell_of_row _ _ _ _ _ _ q0]; rfl, by rw [cell_of_row _ _ _ _ _ _ q1]; rfl, by rw [cell_of_row _ _ _ _ _ _ q1]; rfl⟩)
  have HXA : Hid (∀ k (hk : k < L.length) W, Below wb.heap.size wb W → W.cell? ⟨b, off + k * 3, none⟩ = some (.string L[k].loc)) := hid0 (fun k hk W hW => by
    obtain ⟨b', off', _, _, e0, hbl', q0, _⟩ := ((ha.later b0b).later hW).at' k hk
    simp only [Option.some.injEq, Addr.mk.injEq, and_true] at e0
    obtain ⟨rfl, rfl⟩ := e0
    exact q0)
  have HC1 := hid0 (fun W => canonical_any L[i].loc W)
  have HC2 := hid0 (fun W => canonical_any L[i].par W)
  have HB0 := hid0 b0b
  have HBr := hid0 (Below.refl wb.heap.size wb)
  obtain ⟨x0, x1, x2⟩ := HXW.out wb (Below.refl _ _)
  subst hwa
  have HFb := hid0 hwb
  have hiI : (i : Int) < (L.length : Int) := by omega
  have hi0 : (0 : Int) ≤ (i : Int) := by omega
  have HTy := hid0 (fun (k : Nat) (hk : k < i) (e : (L[k]'(by omega)).loc = L[i].loc) => hasL_take_yes (Nat.le_of_lt hi) hk e)
  have HTn := hid0 (fun (h : ∀ j (h : j < L.length), j < i → L[j].loc ≠ L[i].loc) => hasL_take_no (Nat.le_of_lt hi) h)
  clear ha hwb sa b0a bab b0b r0a r0 r1 s0 s1 s2
  obtain ⟨N, hN⟩ : ∃ N, N = numO (secP L[i] (L.take i)) := ⟨_, rfl⟩
  rw [← hN]
  unfold secP at hN
  generalize L[i].loc = l at *
  generalize L[i].par = p at *
  generalize L[i].ed.length = n at *
  generalize hasL (L.take i) l = hh at *
  obtain ⟨q1, h1⟩ : ∃ q1, isTagB l = q1 := ⟨_, rfl⟩
  obtain ⟨q3, h3⟩ : ∃ q3, isTagB p = q3 := ⟨_, rfl⟩
  rw [h1] at HC1 hN
  rw [h3] at HC2 hN
  clear h1 h3
  have mk := hid0 True.intro
  cases q1 with
  | false =>
    simp only [if_true] at hN
    have HV := hid0 hN
    clear hN HTy HTn
    go_enter Tryz.func62, Tryz.ntmps62
    go_wp2_with (first
      | (go_at_call 79; refine (HC1.out _).mono ?_; rintro e w1 ⟨rfl, hb1⟩; have HB1 : Hid (Below wb.heap.size wb w1) := hid0 (by rw [HFb.out]; exact hb1); clear hb1)
      | fail)
    go_ret
    exact ⟨by rw [HV.out]; rfl, Below.later HB0.out HB1.out⟩
  | true =>
    simp only [Bool.true_eq_false, if_false] at hN
    have HN := hid0 hN
    clear hN
    go_enter Tryz.func62, Tryz.ntmps62
    go_wp2_with (first
      | (clear mk; go_at_call 79; refine (HC1.out _).mono ?_; rintro e w1 ⟨rfl, hb1⟩; have HB1 : Hid (Below wb.heap.size wb w1) := hid0 (by rw [HFb.out]; exact hb1); clear hb1)
      | fail)
    go_loopw [7] (fun v wr => ∃ k : Nat, k ≤ i ∧ v = .int .i64 (k : Int) ∧ Hid (∀ j (h : j < L.length), j < k → L[j].loc ≠ l) ∧ Hid (Below wb.heap.size wb wr)) (fun v _ => i - (intOf v).toNat)
    case atStart => exact ⟨0, Nat.zero_le _, rfl, hid0 (fun j _ h => absurd h (Nat.not_lt_zero _)), HB1⟩
    case round =>
      clear HB1 x0 x1 x2 a0 a1 a2 a3
      obtain ⟨k, hk, rfl, HK, HB⟩ := hrel
      obtain ⟨y0, y1, y2⟩ := HXW.out wr HB.out
      by_cases hlt : k < i
      · have hkI : (k : Int) < (i : Int) := by omega
        have hkL : (k : Int) < (L.length : Int) := by omega
        have hk0 : (0 : Int) ≤ (k : Int) := by omega
        have y3 := HXA.out k (by omega) wr HB.out
        have hse := str_eq (L[k]'(by omega)).loc l
        by_cases e : (L[k]'(by omega)).loc = l
        · have HV : Hid (N = 5) := hid0 (by rw [HN.out, HTy.out k hlt e]; rfl)
          rw [decide_eq_true e] at hse
          generalize (L[k]'(by omega)).loc = m at *
          clear HK HTy HTn HN e
          go_wp2
          go_region
          go_wp2
          go_ret
          exact ⟨by rw [HV.out]; rfl, Below.later HB0.out (by have := HB.out; go_grown)⟩
        · have HK2 : Hid (∀ j (h : j < L.length), j < k + 1 → L[j].loc ≠ l) := hid0 (fun j h hj => by
            by_cases q : j = k
            · subst q; exact e
            · exact HK.out j h (by omega))
          rw [decide_eq_false e] at hse
          generalize (L[k]'(by omega)).loc = m at *
          clear HK e
          go_wp2
          go_region
          go_wp2
          go_roundw
          case rel => exact ⟨k + 1, by omega, by go_num, HK2, hid0 (by have := HB.out; go_grown)⟩
          case measure => simp [intOf]; omega
      · have hkI : ¬ (k : Int) < (i : Int) := by omega
        have hno := HTn.out (fun j h hj => HK.out j h (by omega))
        have hN := HN.out
        rw [hno, if_neg (by simp)] at hN
        clear HK HTy HTn HN hno HXA
        cases hp : (p.toList == []) with
        | true =>
          rw [hp] at hN
          simp only [Bool.true_eq_false, false_and, if_false] at hN
          have HV := hid0 hN
          clear hN
          go_wp2_with (first
            | (go_at_call 79; refine (HC2.out _).mono ?_; rintro e w3 ⟨rfl, hb3⟩; have HB3 := hid0 (Below.later HB.out hb3); obtain ⟨z0, z1, z2⟩ := HXW.out w3 HB3.out; clear hb3)
            | fail)
          go_ret
          exact ⟨by rw [HV.out]; rfl, Below.later HB0.out HB3.out⟩
        | false =>
          rw [hp] at hN
          simp only [true_and] at hN
          cases q3 with
          | false =>
            simp only [if_true] at hN
            have HV := hid0 hN
            clear hN
            go_wp2_with (first
              | (go_at_call 79; refine (HC2.out _).mono ?_; rintro e w3 ⟨rfl, hb3⟩; have HB3 := hid0 (Below.later HB.out hb3); obtain ⟨z0, z1, z2⟩ := HXW.out w3 HB3.out; clear hb3)
              | fail)
            go_ret
            exact ⟨by rw [HV.out]; rfl, Below.later HB0.out HB3.out⟩
          | true =>
            simp only [Bool.true_eq_false, if_false] at hN
            cases hr : (l.toList == [114, 111, 111, 116]) with
            | true =>
              rw [hr] at hN
              simp only [if_true] at hN
              have HV := hid0 hN
              clear hN
              go_wp2_with (first
                | (go_at_call 79; refine (HC2.out _).mono ?_; rintro e w3 ⟨rfl, hb3⟩; have HB3 := hid0 (Below.later HB.out hb3); obtain ⟨z0, z1, z2⟩ := HXW.out w3 HB3.out; clear hb3)
                | fail)
              go_ret
              exact ⟨by rw [HV.out]; rfl, Below.later HB0.out HB3.out⟩
            | false =>
              rw [hr] at hN
              simp only [Bool.false_eq_true, if_false] at hN
              have HV := hid0 hN
              clear hN
              go_wp2_with (first
                | (go_at_call 79; refine (HC2.out _).mono ?_; rintro e w3 ⟨rfl, hb3⟩; have HB3 := hid0 (Below.later HB.out hb3); obtain ⟨z0, z1, z2⟩ := HXW.out w3 HB3.out; clear hb3)
                | fail)
              go_ret
              exact ⟨by rw [HV.out]; rfl, Below.later HB0.out HB3.out⟩
end Go.Proofs.YtbdjnmbhphflbaaGreatDoor
