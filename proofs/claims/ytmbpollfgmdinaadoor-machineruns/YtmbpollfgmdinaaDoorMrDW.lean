/-
  The walk of machine.Check.
-/
import Derived.Test.YtmbpollfgmdinaaDoorMrCW
namespace Go.Proofs.YtmbpollfgmdinaaDoor
open Go.RowKit Go.Shelf
/-- A refusal, or none. -/
def errC (A : Nat → Addr) (b : Bool) : Value := if b then .nilIface else .iface 47 (.pointer (some (A 0)))
theorem getD_at {L : List (List Int)} {k : Nat} (h : k < L.length) : L.getD k [] = L[k] := by rw [List.getD_eq_getElem?_getD, List.getElem?_eq_getElem h]; rfl
theorem mul_small {n : Nat} {sy : Int} (h1 : n ≤ 16384) (h2 : 0 ≤ sy) (h3 : sy ≤ 16384) : 0 ≤ (n : Int) * sy ∧ (n : Int) * sy ≤ 268435456 := by
  refine ⟨Int.mul_nonneg (by omega) h2, ?_⟩
  calc (n : Int) * sy ≤ 16384 * 16384 := Int.mul_le_mul (by omega) h3 h2 (by omega)
    _ = 268435456 := by decide
set_option maxRecDepth 10000 in
set_option maxHeartbeats 1600000 in
theorem check_any (A : Nat → Addr) (st sy pa : Int) (N O : List (List Int)) (aN aO : Option Addr) (cN cO : Nat) (w : World) (hN : N.length ≤ 17592186043904) (hNr : ∀ r ∈ N, r.length ≤ 17592186043904) (hOr : ∀ r ∈ O, r.length ≤ 17592186043904) (hpa : pa ≤ 9223372036854775807) (ha : RwA w aN N) (hb : RwA w aO O) (he : Sents w A) :
    Calls Tryd.prog 15 #[.agg #[.int .i64 st, .slice aN N.length cN, .slice aO O.length cO], .int .i64 sy, .int .i64 pa] w fun e w' => e = .returned (errC A (chkF st N O sy pa)) ∧ Below w.heap.size w w' := by
  obtain ⟨w0, hw0⟩ : ∃ w0, w0 = w.alloc (.cells #[.int .i64 st, .slice aN N.length cN, .slice aO O.length cO] 24) := ⟨_, rfl⟩
  have hB0 : Below w.heap.size w w0 := by rw [hw0]; exact (Below.refl _ _).alloc (Nat.le_refl _) _
  have hX0 : w0.heap[w.heap.size]? = some (.cells #[.int .i64 st, .slice aN N.length cN, .slice aO O.length cO] 24 (0, 0)) := by rw [hw0]; exact heap_alloc_new w _
  have HB0 := hid0 hB0
  have HA := hid0 (ha.past hB0)
  have HB := hid0 (hb.past hB0)
  have x0 : w0.cell? ⟨w.heap.size, 0, none⟩ = some (.int .i64 st) := by rw [cell_of_row _ _ _ _ _ _ hX0]; rfl
  have x1 : w0.cell? ⟨w.heap.size, 1, none⟩ = some (.slice aN N.length cN) := by rw [cell_of_row _ _ _ _ _ _ hX0]; rfl
  have x2 : w0.cell? ⟨w.heap.size, 2, none⟩ = some (.slice aO O.length cO) := by rw [cell_of_row _ _ _ _ _ _ hX0]; rfl
  have e0 := (he.below hB0).c0
  have HNr := hid0 hNr
  have HOr := hid0 hOr
  clear ha hb he hB0 hX0 hNr hOr
  have hfold := hw0.symm
  clear hw0
  by_cases h0 : sy < 1
  case pos =>
    have HV : Hid (chkF st N O sy pa = false) := hid0 (by unfold chkF; rw [decide_eq_false (by omega)]; rfl)
    go_enter Tryd.func15, Tryd.ntmps15
    go_wp2
    go_ret
    exact ⟨by rw [HV.out]; rfl, HB0.out⟩
  by_cases h1 : sy > 16384
  case pos =>
    have HV : Hid (chkF st N O sy pa = false) := hid0 (by unfold chkF; rw [decide_eq_false (by omega)]; rfl)
    go_enter Tryd.func15, Tryd.ntmps15
    go_wp2
    go_ret
    exact ⟨by rw [HV.out]; rfl, HB0.out⟩
  by_cases h2 : pa < 0
  case pos =>
    have HV : Hid (chkF st N O sy pa = false) := hid0 (by unfold chkF; rw [decide_eq_false (by omega)]; rfl)
    go_enter Tryd.func15, Tryd.ntmps15
    go_wp2
    go_ret
    exact ⟨by rw [HV.out]; rfl, HB0.out⟩
  by_cases h3 : (N.length : Int) < 1
  case pos =>
    have HV : Hid (chkF st N O sy pa = false) := hid0 (by unfold chkF; rw [decide_eq_false (by omega)]; rfl)
    go_enter Tryd.func15, Tryd.ntmps15
    go_wp2
    go_ret
    exact ⟨by rw [HV.out]; rfl, HB0.out⟩
  by_cases h4 : (N.length : Int) > 16384
  case pos =>
    have HV : Hid (chkF st N O sy pa = false) := hid0 (by unfold chkF; rw [decide_eq_false (by omega)]; rfl)
    go_enter Tryd.func15, Tryd.ntmps15
    go_wp2
    go_ret
    exact ⟨by rw [HV.out]; rfl, HB0.out⟩
  by_cases h5 : (O.length : Int) = (N.length : Int)
  case neg =>
    have HV : Hid (chkF st N O sy pa = false) := hid0 (by unfold chkF; rw [decide_eq_false (by omega)]; rfl)
    go_enter Tryd.func15, Tryd.ntmps15
    go_wp2
    go_ret
    exact ⟨by rw [HV.out]; rfl, HB0.out⟩
  obtain ⟨m0, m1⟩ := mul_small (n := N.length) (sy := sy) (by omega) (by omega) (by omega)
  obtain ⟨q, hq⟩ : ∃ q, q = (N.length : Int) * sy := ⟨_, rfl⟩
  rw [← hq] at m0 m1
  by_cases h6 : q > 4194304
  case pos =>
    have HV : Hid (chkF st N O sy pa = false) := hid0 (by unfold chkF; rw [decide_eq_false (by omega)]; rfl)
    have hq' := hq.symm
    clear hq
    go_enter Tryd.func15, Tryd.ntmps15
    go_wp2
    go_ret
    exact ⟨by rw [HV.out]; rfl, HB0.out⟩
  have HC : Hid (chkF st N O sy pa = (oneOf N.length st && (List.range N.length).all fun j => rowF N.length sy pa (N.getD j []) (O.getD j []))) := hid0 (by unfold chkF; rw [decide_eq_true (by omega), Bool.true_and])
  have hq' := hq.symm
  clear hq
  have HON := hid0 (isOneOf_any N.length st w0)
  cases h7 : oneOf N.length st with
  | false =>
    rw [h7] at HON
    have HV : Hid (chkF st N O sy pa = false) := hid0 (by rw [HC.out, h7]; rfl)
    clear HC h7
    go_enter Tryd.func15, Tryd.ntmps15
    go_wp2_with (go_at_call 17; refine HON.out.mono ?_; rintro e w1 ⟨rfl, hw1⟩; have hw1' := hw1.symm; subst hw1'; clear hw1)
    go_ret
    exact ⟨by rw [HV.out]; rfl, HB0.out⟩
  | true =>
    rw [h7] at HON
    rw [h7, Bool.true_and] at HC
    clear h7
    go_enter Tryd.func15, Tryd.ntmps15
    go_wp2_with (go_at_call 17; refine HON.out.mono ?_; rintro e w1 ⟨rfl, hw1⟩; have hw1' := hw1.symm; subst hw1'; clear hw1)
    go_loopw [50] (fun i wr => ∃ k : Nat, k ≤ N.length ∧ i = .int .i64 (k : Int) ∧ wr = w0 ∧ Hid ((List.range k).all (fun j => rowF N.length sy pa (N.getD j []) (O.getD j [])) = true)) (fun i _ => N.length - (intOf i).toNat)
    case atStart => exact ⟨0, Nat.zero_le _, rfl, rfl, hid0 rfl⟩
    case round =>
      obtain ⟨k, hk, rfl, hwr, HD⟩ := hrel
      subst hwr
      by_cases hlt : k < N.length
      · have hlo : k < O.length := by omega
        obtain ⟨b, off, rfl, _, a1, c1, d1, i1⟩ := HA.out.at' k hlt
        obtain ⟨b2, off2, rfl, _, a2, c2, d2, i2⟩ := HB.out.at' k hlo
        have HAll := hid0 (allOf_any N.length N[k] a1 c1 wr (HNr.out _ (List.getElem_mem hlt)) i1)
        have HRis := hid0 (rises_any pa O[k] a2 c2 wr (HOr.out _ (List.getElem_mem hlo)) hpa i2)
        have HRow : Hid (rowF N.length sy pa (N.getD k []) (O.getD k []) = (decide ((N[k].length : Int) = sy) && N[k].all (oneOf N.length) && riseF pa 0 O[k])) := hid0 (by rw [getD_at hlt, getD_at hlo]; rfl)
        have hkI : (k : Int) < (N.length : Int) := by omega
        have hkI0 : (0 : Int) ≤ (k : Int) := by omega
        have hkO : (k : Int) < (O.length : Int) := by omega
        clear i1 i2
        generalize N[k] = r at *
        generalize O[k] = o at *
        by_cases g1 : (r.length : Int) = sy
        case neg =>
          have HV : Hid (chkF st N O sy pa = false) := hid0 (by rw [HC.out]; exact range_bad hlt (by rw [HRow.out, decide_eq_false g1]; rfl))
          clear HC HD HRow
          go_wp2
          go_ret
          exact ⟨by rw [HV.out]; rfl, HB0.out⟩
        cases g2 : r.all (oneOf N.length) with
        | false =>
          rw [g2] at HAll
          have HV : Hid (chkF st N O sy pa = false) := hid0 (by rw [HC.out]; exact range_bad hlt (by rw [HRow.out, g2, Bool.and_false]; rfl))
          clear HC HD HRow g2
          go_wp2_with (go_at_call 19; refine HAll.out.mono ?_; rintro e w1 ⟨rfl, hw1⟩; have hw1' := hw1.symm; subst hw1'; clear hw1)
          go_ret
          exact ⟨by rw [HV.out]; rfl, HB0.out⟩
        | true =>
          rw [g2] at HAll
          cases g3 : riseF pa 0 o with
          | false =>
            rw [g3] at HRis
            have HV : Hid (chkF st N O sy pa = false) := hid0 (by rw [HC.out]; exact range_bad hlt (by rw [HRow.out, g3, Bool.and_false]))
            clear HC HD HRow g2 g3
            go_wp2_with (first
              | (go_at_call 19; refine HAll.out.mono ?_; rintro e w1 ⟨rfl, hw1⟩; have hw1' := hw1.symm; subst hw1'; clear hw1)
              | (go_at_call 20; refine HRis.out.mono ?_; rintro e w1 ⟨rfl, hw1⟩; have hw1' := hw1.symm; subst hw1'; clear hw1))
            go_ret
            exact ⟨by rw [HV.out]; rfl, HB0.out⟩
          | true =>
            rw [g3] at HRis
            have HD2 : Hid ((List.range (k + 1)).all (fun j => rowF N.length sy pa (N.getD j []) (O.getD j [])) = true) := hid0 (range_snoc HD.out (by rw [HRow.out, g2, g3, decide_eq_true g1]; rfl))
            clear HD HRow g2 g3
            go_wp2_with (first
              | (go_at_call 19; refine HAll.out.mono ?_; rintro e w1 ⟨rfl, hw1⟩; have hw1' := hw1.symm; subst hw1'; clear hw1)
              | (go_at_call 20; refine HRis.out.mono ?_; rintro e w1 ⟨rfl, hw1⟩; have hw1' := hw1.symm; subst hw1'; clear hw1))
            go_roundw
            case rel => exact ⟨k + 1, by omega, by go_num, trivial, HD2⟩
            case measure => simp [intOf]; omega
      · have hkI : ¬ (k : Int) < (N.length : Int) := by omega
        have hkn : k = N.length := by omega
        have HV : Hid (chkF st N O sy pa = true) := hid0 (by rw [HC.out]; have h := HD.out; rw [hkn] at h; exact h)
        clear HC HD hkn
        go_wp2
        go_ret
        exact ⟨by rw [HV.out]; rfl, HB0.out⟩
end Go.Proofs.YtmbpollfgmdinaaDoor
