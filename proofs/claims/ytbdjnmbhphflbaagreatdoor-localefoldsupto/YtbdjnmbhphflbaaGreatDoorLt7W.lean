/-
  The walks of bundle's partForm.
-/
import Derived.Test.YtbdjnmbhphflbaaGreatDoorLt6W
namespace Go.Proofs.YtbdjnmbhphflbaaGreatDoor
open Go.RowKit Go.Shelf Go.Lib
/-- The form of a piece, the first or not. -/
def pf (first : Bool) (p : List UInt8) : List UInt8 := if first then p.map lowerB else formP p
theorem N_ascii {p : List UInt8} (h : p.all isN = true) : ∀ b ∈ p, b.toNat < 128 := fun b hb => fine_ascii b (by simp [fine, List.all_eq_true.1 h b hb])
set_option maxRecDepth 10000 in
set_option maxHeartbeats 800000 in
theorem partForm_any (p : List UInt8) (first : Bool) (hp : p.length ≤ 8) (hN : p.all isN = true) (w : World) : Calls Tryz.prog 99 #[.string (strOf p), .bool first] w fun e w' => e = .returned (.string (strOf (pf first p))) ∧ Below w.heap.size w w' := by
  have ha : ∀ b ∈ (strOf p).data.toList, b.toNat < 128 := by rw [strOf_data]; exact N_ascii hN
  have hz : (strOf p).size ≤ 1000000 := by rw [strOf_size]; omega
  obtain ⟨lo, hlo⟩ : ∃ lo, lo = strOf (p.map lowerB) := ⟨_, rfl⟩
  obtain ⟨up, hup⟩ : ∃ up, up = strOf (p.map upperB) := ⟨_, rfl⟩
  have HL : Hid (∀ W, Calls Tryz.prog 127 #[.string (strOf p)] W fun e w' => e = .returned (.string lo) ∧ Below W.heap.size W w') := hid0 (fun W => by have h := lower_any (strOf p) hz ha W; rw [strOf_data] at h; rw [hlo]; exact h)
  have HU : Hid (∀ W, Calls Tryz.prog 77 #[.string (strOf p)] W fun e w' => e = .returned (.string up) ∧ Below W.heap.size W w') := hid0 (fun W => by have h := upper_any (strOf p) hz ha W; rw [strOf_data] at h; rw [hup]; exact h)
  have HA : Hid (∀ W, Calls Tryz.prog 96 #[.string (strOf p), .func (.func 97) #[] #[]] W fun e w' => e = .returned (.bool (p.all isL)) ∧ w' = W) := hid0 (fun W => by have h := isAllL_any (strOf p) hz W; rw [strOf_data] at h; exact h)
  have hsz : (strOf p).size = p.length := strOf_size p
  have hlz : lo.size = p.length := by rw [hlo, strOf_size, List.length_map]
  have huz : up.size = p.length := by rw [hup, strOf_size, List.length_map]
  have HLO := hid0 hlo
  have HUP := hid0 hup
  clear ha hz hlo hup
  obtain ⟨Y, hY⟩ : ∃ Y, Y = strOf (pf first p) := ⟨_, rfl⟩
  rw [← hY]
  have HY := hid0 hY
  clear hY
  generalize strOf p = S at *
  cases first with
  | true =>
    have HV : Hid (Y = lo) := hid0 (by rw [HY.out, HLO.out]; rfl)
    go_enter Tryz.func99, Tryz.ntmps99
    go_wp2_with (first
      | (go_at_call 127; refine (HL.out _).mono ?_; rintro e w1 ⟨rfl, hb1⟩; have HB1 := hid0 hb1; clear hb1)
      | (go_at_call 77; refine (HU.out _).mono ?_; rintro e w2 ⟨rfl, hb2⟩; have HB2 := hid0 (Below.later HB1.out hb2); clear hb2))
    go_ret
    exact ⟨by rw [HV.out]; rfl, HB2.out⟩
  | false =>
    have HYF : Hid (Y = strOf (formP p)) := hid0 (by rw [HY.out]; rfl)
    clear HY
    cases hq : p.all isL with
    | false =>
      rw [hq] at HA
      have HV : Hid (Y = lo) := hid0 (by rw [HYF.out, HLO.out, formP, if_neg (fun h => by rw [hq] at h; cases h.1), if_neg (fun h => by rw [hq] at h; cases h.1)])
      clear hq
      go_enter Tryz.func99, Tryz.ntmps99
      go_wp2_with (first
        | (go_at_call 127; refine (HL.out _).mono ?_; rintro e w1 ⟨rfl, hb1⟩; have HB1 := hid0 hb1; clear hb1)
        | (go_at_call 77; refine (HU.out _).mono ?_; rintro e w2 ⟨rfl, hb2⟩; have HB2 := hid0 (Below.later HB1.out hb2); clear hb2)
        | (go_at_call 96; refine (HA.out _).mono ?_; rintro e w3 ⟨rfl, rfl⟩))
      go_ret
      exact ⟨by rw [HV.out]; rfl, HB2.out⟩
    | true =>
      rw [hq] at HA
      by_cases h2 : (p.length : Int) = 2
      · have hb2' : ((p.length : Int) == 2) = true := by simpa using h2
        have HV : Hid (Y = up) := hid0 (by rw [HYF.out, HUP.out, formP, if_neg (fun h => by omega), if_pos ⟨hq, by omega⟩])
        clear hq
        go_enter Tryz.func99, Tryz.ntmps99
        go_wp2_with (first
          | (go_at_call 127; refine (HL.out _).mono ?_; rintro e w1 ⟨rfl, hb1⟩; have HB1 := hid0 hb1; clear hb1)
          | (go_at_call 77; refine (HU.out _).mono ?_; rintro e w2 ⟨rfl, hb2⟩; have HB2 := hid0 (Below.later HB1.out hb2); clear hb2)
          | (go_at_call 96; refine (HA.out _).mono ?_; rintro e w3 ⟨rfl, rfl⟩))
        go_ret
        exact ⟨by rw [HV.out]; rfl, HB2.out⟩
      · have hb2' : ((p.length : Int) == 2) = false := by simpa using h2
        by_cases h4 : (p.length : Int) = 4
        · have hb4' : ((p.length : Int) == 4) = true := by simpa using h4
          have HV : Hid (up.extract 0 1 ++ lo.extract 1 p.length = Y) := hid0 (by
            rw [HYF.out, formP, if_pos ⟨hq, by omega⟩]
            rw [← strOf_self (up.extract 0 1), ← strOf_self (lo.extract 1 p.length), ext_head]
            have e2 : (lo.extract 1 p.length).data.toList = lo.data.toList.drop 1 := by rw [← hlz]; exact ext_tail lo 1
            rw [e2, HUP.out, HLO.out, strOf_data, strOf_data, strOf_app, List.map_take, List.map_drop])
          have hadd : ¬ 9223372036854775807 < (up.extract 0 1).size + (lo.extract 1 p.length).size := by
            have e1 : (up.extract 0 1).size ≤ up.size := by simp; omega
            have e2 : (lo.extract 1 p.length).size ≤ lo.size := by simp; omega
            omega
          have hg1 : (1 : Int) ≤ (p.length : Int) := by omega
          clear hq h2 h4
          generalize p.length = n at *
          go_enter Tryz.func99, Tryz.ntmps99
          go_wp2_with (first
            | (go_at_call 127; refine (HL.out _).mono ?_; rintro e w1 ⟨rfl, hb1⟩; have HB1 := hid0 hb1; clear hb1)
            | (go_at_call 77; refine (HU.out _).mono ?_; rintro e w2 ⟨rfl, hb2⟩; have HB2 := hid0 (Below.later HB1.out hb2); clear hb2)
            | (go_at_call 96; refine (HA.out _).mono ?_; rintro e w3 ⟨rfl, rfl⟩))
          go_quiet ((fail))
          go_wp2
          go_ret
          exact ⟨by rw [← HV.out]; rfl, ⟨HB2.out.os, HB2.out.tape, HB2.out.output, HB2.out.size, HB2.out.block⟩⟩
        · have hb4' : ((p.length : Int) == 4) = false := by simpa using h4
          have HV : Hid (Y = lo) := hid0 (by rw [HYF.out, HLO.out, formP, if_neg (fun h => by omega), if_neg (fun h => by omega)])
          clear hq
          go_enter Tryz.func99, Tryz.ntmps99
          go_wp2_with (first
            | (go_at_call 127; refine (HL.out _).mono ?_; rintro e w1 ⟨rfl, hb1⟩; have HB1 := hid0 hb1; clear hb1)
            | (go_at_call 77; refine (HU.out _).mono ?_; rintro e w2 ⟨rfl, hb2⟩; have HB2 := hid0 (Below.later HB1.out hb2); clear hb2)
            | (go_at_call 96; refine (HA.out _).mono ?_; rintro e w3 ⟨rfl, rfl⟩))
          go_ret
          exact ⟨by rw [HV.out]; rfl, HB2.out⟩
end Go.Proofs.YtbdjnmbhphflbaaGreatDoor
