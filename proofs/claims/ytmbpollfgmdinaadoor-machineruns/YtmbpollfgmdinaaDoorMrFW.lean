/-
  The walk of the document's Check.
-/
import Derived.Test.YtmbpollfgmdinaaDoorMrDW
namespace Go.Proofs.YtmbpollfgmdinaaDoor
open Go.RowKit Go.Shelf
/-- The number of a refusal, or none. -/
def numC (b : Bool) : Int := if b then 0 else 1
set_option maxRecDepth 10000 in
set_option maxHeartbeats 1600000 in
theorem refCheck_any (st sy pa : Int) (N O : List (List Int)) (aN aO : Option Addr) (cN cO : Nat) (w : World) (hN : N.length ≤ 17592186043904) (hNr : ∀ r ∈ N, r.length ≤ 17592186043904) (hOr : ∀ r ∈ O, r.length ≤ 17592186043904) (ha : RwA w aN N) (hb : RwA w aO O) :
    Calls Tryd.prog 14 #[.agg #[.int .i64 st, .slice aN N.length cN, .slice aO O.length cO], .int .i64 sy, .int .i64 pa] w fun e w' => e = .returned (.int .i64 (numC (chkF st N O sy pa))) ∧ Below w.heap.size w w' := by
  obtain ⟨w0, hw0⟩ : ∃ w0, w0 = w.alloc (.cells #[.int .i64 st, .slice aN N.length cN, .slice aO O.length cO] 24) := ⟨_, rfl⟩
  have hB0 : Below w.heap.size w w0 := by rw [hw0]; exact (Below.refl _ _).alloc (Nat.le_refl _) _
  have hX0 : w0.heap[w.heap.size]? = some (.cells #[.int .i64 st, .slice aN N.length cN, .slice aO O.length cO] 24 (0, 0)) := by rw [hw0]; exact heap_alloc_new w _
  have HB0 := hid0 hB0
  have HA := hid0 (ha.past hB0)
  have HB := hid0 (hb.past hB0)
  have x0 : w0.cell? ⟨w.heap.size, 0, none⟩ = some (.int .i64 st) := by rw [cell_of_row _ _ _ _ _ _ hX0]; rfl
  have x1 : w0.cell? ⟨w.heap.size, 1, none⟩ = some (.slice aN N.length cN) := by rw [cell_of_row _ _ _ _ _ _ hX0]; rfl
  have x2 : w0.cell? ⟨w.heap.size, 2, none⟩ = some (.slice aO O.length cO) := by rw [cell_of_row _ _ _ _ _ _ hX0]; rfl
  have HNr := hid0 hNr
  have HOr := hid0 hOr
  clear ha hb hB0 hX0 hNr hOr
  have hfold := hw0.symm
  clear hw0
  by_cases h0 : sy < 1
  case pos =>
    have HV : Hid (chkF st N O sy pa = false) := hid0 (by unfold chkF; rw [decide_eq_false (by omega)]; rfl)
    go_enter Tryd.func14, Tryd.ntmps14
    go_wp2
    go_ret
    exact ⟨by rw [HV.out]; rfl, HB0.out⟩
  by_cases h1 : sy > 16384
  case pos =>
    have HV : Hid (chkF st N O sy pa = false) := hid0 (by unfold chkF; rw [decide_eq_false (by omega)]; rfl)
    go_enter Tryd.func14, Tryd.ntmps14
    go_wp2
    go_ret
    exact ⟨by rw [HV.out]; rfl, HB0.out⟩
  by_cases h2 : pa < 0
  case pos =>
    have HV : Hid (chkF st N O sy pa = false) := hid0 (by unfold chkF; rw [decide_eq_false (by omega)]; rfl)
    go_enter Tryd.func14, Tryd.ntmps14
    go_wp2
    go_ret
    exact ⟨by rw [HV.out]; rfl, HB0.out⟩
  by_cases h3 : (N.length : Int) < 1
  case pos =>
    have HV : Hid (chkF st N O sy pa = false) := hid0 (by unfold chkF; rw [decide_eq_false (by omega)]; rfl)
    go_enter Tryd.func14, Tryd.ntmps14
    go_wp2
    go_ret
    exact ⟨by rw [HV.out]; rfl, HB0.out⟩
  by_cases h4 : (N.length : Int) > 16384
  case pos =>
    have HV : Hid (chkF st N O sy pa = false) := hid0 (by unfold chkF; rw [decide_eq_false (by omega)]; rfl)
    go_enter Tryd.func14, Tryd.ntmps14
    go_wp2
    go_ret
    exact ⟨by rw [HV.out]; rfl, HB0.out⟩
  by_cases h5 : (O.length : Int) = (N.length : Int)
  case neg =>
    have HV : Hid (chkF st N O sy pa = false) := hid0 (by unfold chkF; rw [decide_eq_false (by omega)]; rfl)
    go_enter Tryd.func14, Tryd.ntmps14
    go_wp2
    go_ret
    exact ⟨by rw [HV.out]; rfl, HB0.out⟩
  obtain ⟨m0, m1⟩ := mul_small (n := N.length) (sy := sy) (by omega) (by omega) (by omega)
  obtain ⟨q, hq⟩ : ∃ q, q = (N.length : Int) * sy := ⟨_, rfl⟩
  rw [← hq] at m0 m1
  by_cases h6 : q > 4194304
  case pos =>
    have HV : Hid (chkF st N O sy pa = false) := hid0 (by unfold chkF; rw [decide_eq_false (by omega)]; rfl)
    have hq' := hq.symm
    clear hq
    go_enter Tryd.func14, Tryd.ntmps14
    go_wp2
    go_ret
    exact ⟨by rw [HV.out]; rfl, HB0.out⟩
  have HC : Hid (chkF st N O sy pa = (oneOf N.length st && (List.range N.length).all fun j => rowF N.length sy pa (N.getD j []) (O.getD j []))) := hid0 (by unfold chkF; rw [decide_eq_true (by omega), Bool.true_and])
  have hq' := hq.symm
  clear hq
  by_cases g : st < 0
  case pos =>
    have HV : Hid (chkF st N O sy pa = false) := hid0 (by rw [HC.out, (oneOf_not N.length st).2 (by omega)]; rfl)
    clear HC
    go_enter Tryd.func14, Tryd.ntmps14
    go_wp2
    go_ret
    exact ⟨by rw [HV.out]; rfl, HB0.out⟩
  have g0 := g
  clear g
  by_cases g : st ≥ (N.length : Int)
  case pos =>
    have HV : Hid (chkF st N O sy pa = false) := hid0 (by rw [HC.out, (oneOf_not N.length st).2 (by omega)]; rfl)
    clear HC
    go_enter Tryd.func14, Tryd.ntmps14
    go_wp2
    go_ret
    exact ⟨by rw [HV.out]; rfl, HB0.out⟩
  have g1 := g
  clear g
  rw [(oneOf_iff N.length st).2 (by omega), Bool.true_and] at HC
  go_enter Tryd.func14, Tryd.ntmps14
  go_wp2
  go_loopw [8] (fun i wr => ∃ k : Nat, k ≤ N.length ∧ i = .int .i64 (k : Int) ∧ wr = w0 ∧ Hid ((List.range k).all (fun j => rowF N.length sy pa (N.getD j []) (O.getD j [])) = true)) (fun i _ => N.length - (intOf i).toNat)
  case atStart => exact ⟨0, Nat.zero_le _, rfl, rfl, hid0 rfl⟩
  case round =>
    obtain ⟨k, hk, rfl, hwr, HD⟩ := hrel
    subst hwr
    by_cases hlt : k < N.length
    · have hlo : k < O.length := by omega
      obtain ⟨b, off, rfl, _, a1, c1, d1, i1⟩ := HA.out.at' k hlt
      obtain ⟨b2, off2, rfl, _, a2, c2, d2, i2⟩ := HB.out.at' k hlo
      have HI := hid0 i1
      have HRis := hid0 (refRises_any pa O[k] a2 c2 wr (HOr.out _ (List.getElem_mem hlo)) i2)
      have HRow : Hid (rowF N.length sy pa (N.getD k []) (O.getD k []) = (decide ((N[k].length : Int) = sy) && N[k].all (oneOf N.length) && riseF pa 0 O[k])) := hid0 (by rw [getD_at hlt, getD_at hlo]; rfl)
      have hrl := HNr.out _ (List.getElem_mem hlt)
      have hkI : (k : Int) < (N.length : Int) := by omega
      have hkI0 : (0 : Int) ≤ (k : Int) := by omega
      have hkO : (k : Int) < (O.length : Int) := by omega
      clear i1 i2
      generalize N[k] = r at *
      generalize O[k] = o at *
      by_cases g2 : (r.length : Int) = sy
      case neg =>
        have HV : Hid (chkF st N O sy pa = false) := hid0 (by rw [HC.out]; exact range_bad hlt (by rw [HRow.out, decide_eq_false g2]; rfl))
        clear HC HD HRow
        go_wp2
        go_ret
        exact ⟨by rw [HV.out]; rfl, HB0.out⟩
      go_wp2
      go_loopw [9] (fun i w2 => ∃ j : Nat, j ≤ r.length ∧ i = .int .i64 (j : Int) ∧ w2 = wr ∧ Hid ((r.drop j).all (oneOf N.length) = r.all (oneOf N.length))) (fun i _ => r.length - (intOf i).toNat)
      case atStart => exact ⟨0, Nat.zero_le _, rfl, rfl, hid0 rfl⟩
      case round =>
        obtain ⟨j, hj, rfl, hw2, HE⟩ := hrel
        have hw2' := hw2.symm
        subst hw2'
        clear hw2
        by_cases hjl : j < r.length
        · obtain ⟨b3, off3, rfl, _, d3⟩ := HI.out.at' j hjl
          have hjI : (j : Int) < sy := by omega
          have hjL : (j : Int) < (r.length : Int) := by omega
          have hjI0 : (0 : Int) ≤ (j : Int) := by omega
          have HS := hid0 (all_drop (n := N.length) hjl)
          generalize r[j] = s at *
          by_cases q1 : s < 0
          case pos =>
            have HV : Hid (chkF st N O sy pa = false) := hid0 (by rw [HC.out]; exact range_bad hlt (by rw [HRow.out, ← HE.out, HS.out, (oneOf_not N.length s).2 (by omega), Bool.false_and, Bool.and_false]; rfl))
            clear HC HD HRow HE HS
            go_wp2
            go_ret
            exact ⟨by rw [HV.out]; rfl, HB0.out⟩
          by_cases q2 : s ≥ (N.length : Int)
          case pos =>
            have HV : Hid (chkF st N O sy pa = false) := hid0 (by rw [HC.out]; exact range_bad hlt (by rw [HRow.out, ← HE.out, HS.out, (oneOf_not N.length s).2 (by omega), Bool.false_and, Bool.and_false]; rfl))
            clear HC HD HRow HE HS
            go_wp2
            go_ret
            exact ⟨by rw [HV.out]; rfl, HB0.out⟩
          have HE2 : Hid ((r.drop (j + 1)).all (oneOf N.length) = r.all (oneOf N.length)) := hid0 (by rw [← HE.out, HS.out, (oneOf_iff N.length s).2 (by omega), Bool.true_and])
          clear HE HS
          go_wp2
          go_roundw
          case rel => exact ⟨j + 1, by omega, by go_num, trivial, HE2⟩
          case measure => simp [intOf]; omega
        · have hjI : ¬ (j : Int) < sy := by omega
          have HE2 : Hid (r.all (oneOf N.length) = true) := hid0 (by rw [← HE.out]; exact all_end (by omega))
          clear HE
          cases g3 : riseF pa 0 o with
          | false =>
            rw [g3] at HRis
            have HV : Hid (chkF st N O sy pa = false) := hid0 (by rw [HC.out]; exact range_bad hlt (by rw [HRow.out, g3, Bool.and_false]))
            clear HC HD HRow g3
            go_wp2_with (go_at_call 18; refine HRis.out.mono ?_; rintro e w1 ⟨rfl, hw1⟩; have hw1' := hw1.symm; subst hw1'; clear hw1)
            go_ret
            exact ⟨by rw [HV.out]; rfl, HB0.out⟩
          | true =>
            rw [g3] at HRis
            have HD2 : Hid ((List.range (k + 1)).all (fun j => rowF N.length sy pa (N.getD j []) (O.getD j [])) = true) := hid0 (range_snoc HD.out (by rw [HRow.out, HE2.out, g3, decide_eq_true g2]; rfl))
            clear HD HRow g3
            go_wp2_with (go_at_call 18; refine HRis.out.mono ?_; rintro e w1 ⟨rfl, hw1⟩; have hw1' := hw1.symm; subst hw1'; clear hw1)
            go_roundw
            case rel => exact ⟨k + 1, by omega, by go_num, trivial, HD2⟩
            case measure => simp [intOf]; omega
    · have hkI : ¬ (k : Int) < (N.length : Int) := by omega
      have hkn : k = N.length := by omega
      have HV : Hid (chkF st N O sy pa = true) := hid0 (by rw [HC.out]; have h := HD.out; rw [hkn] at h; exact h)
      clear HC HD hkn
      go_wp2
      go_ret
      exact ⟨by rw [HV.out]; rfl, HB0.out⟩
end Go.Proofs.YtmbpollfgmdinaaDoor
