/-
  The walk of caesuralaw2.UnitsBack.
-/
import Derived.Test.YtoopigkndomdgabDoorIntsW
import Derived.Test.YtoopigkndomdgabDoorFirstW
namespace Go.Proofs.YtoopigkndomdgabDoor
open Go.RowKit
set_option maxRecDepth 10000 in
set_option maxHeartbeats 1600000 in
theorem back_walk (ps : List Int) (a : Option Addr) (cap : Nat) (pe : Addr) (hl : ps.length ≤ 1048576) (w : World) (hT : SeqAt w) (ha : PA w a ps) (hE : w.cell? ⟨0, 0, none⟩ = some (.iface 71 (.pointer (some pe)))) :
    Calls Tryd.prog 4 #[.slice a ps.length cap] w fun e w' => e = .returned (.bool true) ∧ Below w.heap.size w w' := by
  obtain ⟨i0, hi, hz0, hz1, hz2⟩ := info_parts infoInt
  have HA := hid ha
  have HT := hid hT
  have HE := hid hE
  have hpe : 0 < w.heap.size := World.block_lt_of_cell? w _ hE
  clear ha hT hE
  go_enter Tryd.func4, Tryd.ntmps4
  go_wp2
  go_loopw [3, 4] (fun v i wr => ∃ (k : Nat) (qs : List Int), k ≤ ps.length ∧ i = .int .i64 (k : Int) ∧ qs.length = k ∧ qs.all scalarP = true ∧ OwnI wr w.heap.size v qs ∧ Below w.heap.size w wr) (fun _ i _ => ps.length - (intOf i).toNat)
  case atStart => exact ⟨0, [], Nat.zero_le _, rfl, rfl, rfl, World.ownsRow_nil _ _ _ _, Below.refl _ _⟩
  case round =>
    obtain ⟨k, qs, hk, rfl, hqk, hqs, hown, hB⟩ := hrel
    have HO := hid hown
    have HQ := hid hqs
    clear hown hqs
    have hs := hB.size
    by_cases hlt : k < ps.length
    · obtain ⟨b1, o1, rfl, c0⟩ := HA.out.at' k hlt
      have hck := (hB.cell (p := ⟨b1, o1 + k, none⟩) (World.block_lt_of_cell? w _ c0)).trans c0
      have HS := hid (scalar_any ps[k])
      generalize ps[k] = u at *
      have hki : (k : Int) < (ps.length : Int) := by omega
      clear c0
      go_wp2_with (first
        | (go_at_call 11; refine (HS.out _).mono ?_; rintro e w1 ⟨⟨m, hm, rfl⟩, rfl⟩; have HM := hid hm; clear hm)
        | (at_builtin; refine wpList_append_own _ rfl _ _ 31 rfl w.heap.size 3 i0 (.int .i64 0) 1 8 Tryd.underlying31 hi hz0 hz1 hz2 rfl (by decide) _ _ _ rfl (HO.out.alloc _) ⟨_, 0, none⟩ 1 1 [.int .i64 (m : Int)] rfl rfl (cell_one_new _ _ _) (by simp [Value.oneCell']) (by unfold maxLen; omega) (by omega) (by simp; omega) ?_; intro v' w2 hown' hgrow _)
        | fail)
      have R := ownI_snoc HO.out hown' hgrow hB (Nat.le_refl _)
      have HR := hid R
      have HQ2 : Hid ((qs ++ [(m : Int)]).all scalarP = true) := by show _ = _; rw [List.all_append, HQ.out]; simp [HM.out]
      clear R hown' hgrow
      go_roundw
      case rel => exact ⟨k + 1, qs ++ [(m : Int)], by omega, by go_num, by rw [List.length_append, hqk]; rfl, HQ2.out, HR.out.1, HR.out.2⟩
      case measure => simp [intOf]; omega
    · have hki : ¬ (k : Int) < (ps.length : Int) := by omega
      have hqb : qs.length ≤ 1048576 := by omega
      clear hqk hk
      obtain ⟨aq, capq, rfl, hpa⟩ := HO.out.pa
      have HPA := hid hpa
      have hen := encode_any qs aq capq pe (by omega) wr hpa ((hB.cell (p := ⟨0, 0, none⟩) hpe).trans HE.out)
      rw [encVal, HQ.out, if_pos rfl] at hen
      have HEn := hid hen
      have hel := encAll_len qs
      have hsl : (⟨(encAll qs).toArray⟩ : ByteArray).size = (encAll qs).length := by simp [ByteArray.size]
      have HSp := hid (fun w hT => split_as ⟨(encAll qs).toArray⟩ (encAll qs) rfl (by omega) w hT)
      have hle := units_le ⟨(encAll qs).toArray⟩
      have HPt := hid (units_enc qs HQ.out)
      rw [hsl] at hle
      have hle2 : (unitsOf (encAll qs)).length ≤ (encAll qs).length := hle
      generalize unitsOf (encAll qs) = U at *
      clear hpa hen hle hsl
      go_wp2_with (first
        | (go_at_call 8; refine HEn.out.mono ?_; rintro e w1 ⟨rfl, hb1⟩; have HB1 := hid (hB.trans (hb1.mono hB.size)); have HP1 := hid (HPA.out.later hb1); clear hb1)
        | (go_at_call 7; refine (HSp.out _ (HT.out.later HB1.out)).mono ?_; rintro e w2 ⟨g2, cap2, rfl, ho2, hcap2, hg2, hgb2, hb2⟩; have HO2 := hid ho2; have HB2 := hid (HB1.out.trans (hb2.mono HB1.out.size)); have HP2 := hid (HP1.out.later hb2); clear ho2 hb2)
        | (go_at_call 6; refine (first_any _ (HT.out.later HB2.out)).mono ?_; rintro e w3 ⟨rfl, hb3⟩; have HO3 := hid (HO2.out.later hb3); have HB3 := hid (HB2.out.trans (hb3.mono HB2.out.size)); have HP3 := hid (HP2.out.later hb3); have hg3 := Nat.lt_of_lt_of_le hg2 hb3.size; clear hb3)
        | (go_at_call 13; refine (points_any U _ (by omega) _ HO3.out.at (by intro b off n c e; simp only [Value.slice.injEq, Option.some.injEq, Addr.mk.injEq, and_true] at e; omega)).mono ?_; rintro e w4 ⟨v4, rfl, ho4, hb4⟩; rw [HPt.out] at ho4; obtain ⟨a4, cap4, rfl, hpa4⟩ := ho4.pa; have HA4 := hid hpa4; have HP4 := hid (HP3.out.later hb4); have HB4 := hid (HB3.out.trans (hb4.mono HB3.out.size)); clear ho4 hpa4 hb4)
        | (go_at_call 12; refine (sameI_pa qs _ _ _ _ _ (by omega) HA4.out HP4.out).mono ?_; rintro e w5 ⟨rfl, hb5⟩; have HB5 := hid (HB4.out.trans (hb5.mono HB4.out.size)); clear hb5)
        | fail)
      go_ret
      exact ⟨rfl, HB5.out⟩
end Go.Proofs.YtoopigkndomdgabDoor
