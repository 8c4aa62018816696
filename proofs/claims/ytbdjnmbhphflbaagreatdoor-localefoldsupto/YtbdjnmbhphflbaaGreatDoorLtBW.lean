/-
  The walk of locale's partForm.
-/
import Derived.Test.YtbdjnmbhphflbaaGreatDoorLtAW
namespace Go.Proofs.YtbdjnmbhphflbaaGreatDoor
open Go.RowKit Go.Shelf Go.Lib
theorem L_ascii {p : List UInt8} (h : p.all isL = true) : ∀ b ∈ p, b.toNat < 128 := fun b hb => fine_ascii b (by simp [fine, isN, List.all_eq_true.1 h b hb])
set_option maxRecDepth 10000 in
set_option maxHeartbeats 1600000 in
theorem partFormL_any (p : List UInt8) (first : Bool) (hp : p.length ≤ 64) (w : World) (hT : Tb w) : Calls Tryz.prog 59 #[.string (strOf p), .bool first] w fun e w' => e = .returned (.string (strOf (pfL first p))) ∧ Below w.heap.size w w' := by
  have HQ : Hid (Calls Tryz.prog 75 #[.string (strOf p)] w fun e w' => e = .returned (.bool (p.all isL)) ∧ Below w.heap.size w w') := hid0 (by have h := isLetters_any (strOf p) w; rw [strOf_data] at h; exact h)
  obtain ⟨lo, hlo⟩ : ∃ lo, lo = strOf (smL p) := ⟨_, rfl⟩
  have HS : Hid (∀ W, Below w.heap.size w W → Calls Tryz.prog 76 #[.string (strOf p)] W fun e w' => e = .returned (.string lo) ∧ Below w.heap.size w w') := hid0 (fun W hW => by rw [hlo]; exact (small_any p (by omega) W (hT.below hW)).mono (fun e w' h => ⟨h.1, Below.later hW h.2⟩))
  obtain ⟨Y, hY⟩ : ∃ Y, Y = strOf (pfL first p) := ⟨_, rfl⟩
  rw [← hY]
  have HY := hid0 hY
  have HLO := hid0 hlo
  have hsz : (strOf p).size = p.length := strOf_size p
  clear hY hlo
  cases first with
  | true =>
    have HV : Hid (Y = lo) := hid0 (by rw [HY.out, HLO.out]; rfl)
    generalize p.all isL = q at *
    generalize strOf p = S at *
    clear hT
    go_enter Tryz.func59, Tryz.ntmps59
    go_wp2_with (first
      | (go_at_call 75; refine HQ.out.mono ?_; rintro e w1 ⟨rfl, hb1⟩; have HB1 := hid0 hb1; clear hb1)
      | (go_at_call 76; refine (HS.out _ HB1.out).mono ?_; rintro e w2 ⟨rfl, hb2⟩))
    go_ret
    exact ⟨by rw [HV.out]; rfl, hb2⟩
  | false =>
    cases hq : p.all isL with
    | false =>
      rw [hq] at HQ
      have HV : Hid (Y = lo) := hid0 (by rw [HY.out, HLO.out, pfL, if_neg (by simp), if_neg (fun h => by rw [hq] at h; cases h.1), if_neg (fun h => by rw [hq] at h; cases h.1)])
      generalize strOf p = S at *
      clear hT hq
      go_enter Tryz.func59, Tryz.ntmps59
      go_wp2_with (first
        | (go_at_call 75; refine HQ.out.mono ?_; rintro e w1 ⟨rfl, hb1⟩; have HB1 := hid0 hb1; clear hb1)
        | (go_at_call 76; refine (HS.out _ HB1.out).mono ?_; rintro e w2 ⟨rfl, hb2⟩))
      go_ret
      exact ⟨by rw [HV.out]; rfl, hb2⟩
    | true =>
      rw [hq] at HQ
      by_cases h2 : (p.length : Int) = 2
      · have hb2' : ((p.length : Int) == 2) = true := by simpa using h2
        have HU : Hid (∀ W, Calls Tryz.prog 77 #[.string (strOf p)] W fun e w' => e = .returned (.string Y) ∧ Below W.heap.size W w') := hid0 (fun W => by
          have h := upper_any (strOf p) (by omega) (by rw [strOf_data]; exact L_ascii hq) W
          rw [strOf_data] at h
          rw [HY.out, pfL, if_neg (by simp), if_pos ⟨hq, by omega⟩]
          exact h)
        generalize strOf p = S at *
        clear hT hq
        go_enter Tryz.func59, Tryz.ntmps59
        go_wp2_with (first
          | (go_at_call 75; refine HQ.out.mono ?_; rintro e w1 ⟨rfl, hb1⟩; have HB1 := hid0 hb1; clear hb1)
          | (go_at_call 77; refine (HU.out _).mono ?_; rintro e w2 ⟨rfl, hb2⟩))
        go_ret
        exact ⟨rfl, Below.later HB1.out hb2⟩
      · have hb2' : ((p.length : Int) == 2) = false := by simpa using h2
        by_cases h4 : (p.length : Int) = 4
        · have hb4' : ((p.length : Int) == 4) = true := by simpa using h4
          obtain ⟨B1, hB1⟩ : ∃ B1, B1 = strOf ((p.take 1).map upperB) := ⟨_, rfl⟩
          obtain ⟨B2, hB2⟩ : ∃ B2, B2 = strOf ((p.drop 1).map lowerB) := ⟨_, rfl⟩
          have e1 : (strOf p).extract 0 1 = strOf (p.take 1) := by rw [← strOf_self ((strOf p).extract 0 1), ext_head, strOf_data]
          have e2 : (strOf p).extract 1 p.length = strOf (p.drop 1) := by
            rw [← strOf_self ((strOf p).extract 1 p.length)]
            have := ext_tail (strOf p) 1
            rw [strOf_size, strOf_data] at this
            rw [this]
          have HE : Hid (B1 ++ B2 = Y) := hid0 (by rw [hB1, hB2, strOf_app, HY.out, pfL, if_neg (by simp), if_neg (fun h => by omega), if_pos ⟨hq, by omega⟩])
          have hz1 : ¬ 9223372036854775807 < B1.size + B2.size := by
            have g1 : B1.size ≤ 1 := by rw [hB1, strOf_size, List.length_map, List.length_take]; omega
            have g2 : B2.size ≤ p.length := by rw [hB2, strOf_size, List.length_map, List.length_drop]; omega
            omega
          have HW : Hid (∀ w1, Below w.heap.size w w1 → ∀ W, Below w1.heap.size w1 W → (Calls Tryz.prog 77 #[.string ((strOf p).extract 0 1)] W fun e w' => e = .returned (.string B1) ∧ Below w1.heap.size w1 w') ∧ (Calls Tryz.prog 76 #[.string ((strOf p).extract 1 p.length)] W fun e w' => e = .returned (.string B2) ∧ Below w1.heap.size w1 w')) := hid0 (fun w1 h1 W hW => by
            refine ⟨?_, ?_⟩
            · rw [e1, hB1]
              have h := upper_any (strOf (p.take 1)) (by rw [strOf_size, List.length_take]; omega) (by rw [strOf_data]; exact fun b hb => L_ascii hq b (List.mem_of_mem_take hb)) W
              rw [strOf_data] at h
              exact h.mono (fun e w' h => ⟨h.1, Below.later hW h.2⟩)
            · rw [e2, hB2, ← smL_ascii (p.drop 1) (fun b hb => L_ascii hq b (List.mem_of_mem_drop hb))]
              exact (small_any (p.drop 1) (by rw [List.length_drop]; omega) W (hT.below (Below.later h1 hW))).mono (fun e w' h => ⟨h.1, Below.later hW h.2⟩))
          have hg1 : (1 : Int) ≤ (p.length : Int) := by omega
          clear hT hq hB1 hB2 e1 e2 HS h2 h4
          generalize strOf p = S at *
          generalize p.length = n at *
          go_enter Tryz.func59, Tryz.ntmps59
          go_wp2_with (first | (go_at_call 75; refine HQ.out.mono ?_; rintro e w1 ⟨rfl, hb1⟩; have HB1 := hid0 hb1; clear hb1) | fail)
          have hBr := Below.refl w1.heap.size w1
          have HW1 := hid0 (HW.out w1 HB1.out)
          go_region_held3 (fun W => Below w1.heap.size w1 W) (first | assumption | go_grown)
            (first
              | (go_at_call 77; refine (HW1.out _ (by assumption)).1.mono ?_; rintro e w2 ⟨rfl, hb2⟩)
              | (go_at_call 76; refine (HW1.out _ (by assumption)).2.mono ?_; rintro e w2 ⟨rfl, hb2⟩))
          all_goals
            go_wp2
            go_ret
            exact ⟨by rw [← HE.out]; rfl, Below.later HB1.out (by assumption)⟩
        · have hb4' : ((p.length : Int) == 4) = false := by simpa using h4
          have HV : Hid (Y = lo) := hid0 (by rw [HY.out, HLO.out, pfL, if_neg (by simp), if_neg (fun h => by omega), if_neg (fun h => by omega)])
          generalize strOf p = S at *
          clear hT hq
          go_enter Tryz.func59, Tryz.ntmps59
          go_wp2_with (first
            | (go_at_call 75; refine HQ.out.mono ?_; rintro e w1 ⟨rfl, hb1⟩; have HB1 := hid0 hb1; clear hb1)
            | (go_at_call 76; refine (HS.out _ HB1.out).mono ?_; rintro e w2 ⟨rfl, hb2⟩))
          go_ret
          exact ⟨by rw [HV.out]; rfl, hb2⟩
end Go.Proofs.YtbdjnmbhphflbaaGreatDoor
