/-
  The walks of caesuralaw26's known, OffsetsBack.
-/
import Derived.Test.YtlmbbohhdgeedaaDoorOzQM
import Derived.Test.YtlmbbohhdgeedaaDoorSplitW
import Derived.Test.YtlmbbohhdgeedaaDoorSameUW
import Derived.Test.YtlmbbohhdgeedaaDoorOzNW
namespace Go.Proofs.YtlmbbohhdgeedaaDoor
open Go.RowKit
def knS : ByteArray := ⟨#[97, 195, 169, 13, 10, 240, 157, 132, 158, 255]⟩
theorem knS_list : knS.data.toList = knL := rfl
set_option maxRecDepth 10000 in
set_option maxHeartbeats 800000 in
theorem known_any (pe : Addr) (w : World) (hT : SeqAt w) (hE : w.cell? ⟨0, 0, none⟩ = some (.iface 107 (.pointer (some pe)))) :
    Calls Tryd.prog 6 #[] w fun e w' => e = .returned (.bool true) ∧ Below w.heap.size w w' := by
  have HN := hid (new_any knS (by decide) w hT)
  have hk6 : 6 < (allP knL).length := by rw [allP_len, kn_len]; omega
  have hL : (allP knL).length ≤ 10000000 := by rw [allP_len, kn_len]; omega
  have hP6 : (allP knL)[6] = ⟨10, 6, 7, 2, 3⟩ := by rw [allP_at, kn_last]
  have HC := hid (fun B W h => countM_any (allP knL) (by omega) hL B W h)
  have hlp : lastP (allP knL) = ⟨10, 6, 7, 2, 3⟩ := by rw [lastP_all, kn_len, kn_last]
  have HK := hid (fun B W h => (edgeK knL hL B pe 6 hk6).line W h)
  rw [hlp] at HC
  rw [hP6] at HK
  rw [knS_list] at HN
  simp only at HC HK
  have HE := hid hE
  clear hT hE hP6 hlp hk6 hL
  generalize allP knL = L at *
  unfold knS at HN
  go_enter Tryd.func6, Tryd.ntmps6
  go_wp2_with (first
    | (go_at_call 7; refine HN.out.mono ?_; rintro e w2 ⟨BM, rfl, hbm, hm, hb2⟩; have HA : Hid (AskI w2 BM L pe) := hid ⟨hm, (hb2.cell (p := ⟨0, 0, none⟩) (World.block_lt_of_cell? w _ HE.out)).trans HE.out⟩; have HB2 := hid hb2; clear hm hb2 hbm)
    | (go_at_call 15; refine (HC.out _ _ HA.out.map).mono ?_; rintro e w3 ⟨rfl, hb3⟩; have HA3 := hid (HA.out.later hb3); have HB3 := hid (later2 HB2.out hb3); clear hb3)
    | (go_at_call 11; refine (HK.out _ _ HA3.out).mono ?_; rintro e w4 ⟨rfl, hb4⟩; have HB4 := hid (later2 HB3.out hb4); clear hb4)
    | fail)
  go_ret
  exact ⟨rfl, HB4.out⟩
set_option maxRecDepth 10000 in
set_option maxHeartbeats 3200000 in
theorem back_any (s : ByteArray) (pe : Addr) (hs : s.size ≤ 4194400) (w : World) (hT : SeqAt w) (hE : w.cell? ⟨0, 0, none⟩ = some (.iface 107 (.pointer (some pe)))) :
    Calls Tryd.prog 3 #[.string s] w fun e w' => e = .returned (.bool true) ∧ Below w.heap.size w w' := by
  have hLn : (allP s.data.toList).length ≤ 10000000 := by rw [allP_len]; have := units_le s; omega
  have hL0 : 0 < (allP s.data.toList).length := by rw [allP_len]; omega
  have HKn := hid (known_any pe w hT hE)
  have HNw := hid (fun W h => new_any s hs W h)
  have HSp := hid (fun W h => split_any s hs W h)
  have HC := hid (fun B W h => countM_any (allP s.data.toList) hL0 hLn B W h)
  have HEd := hid (fun B k h => edgeK s.data.toList hLn B pe k h)
  have HRi := hid (prev_rise s.data.toList)
  have HNx := hid (prev_next s.data.toList)
  have HPu := hid (allP_u s.data.toList)
  have HUs := hid (fun k h => (units_at s.data.toList k h).2.2.1)
  have hlen := allP_len s.data.toList
  have h00 : pvW s.data.toList 0 = -1 ∧ pvL s.data.toList 0 = 0 ∧ pvC s.data.toList 0 = 0 := ⟨rfl, rfl, rfl⟩
  have hT0 := hT
  have HE := hid hE
  clear hE
  have hlb := lastP_b s.data.toList
  rw [bsize] at hlb
  have HLw : Hid ((lastP (allP s.data.toList)).w = pvW s.data.toList ((unitsOf s.data.toList).length + 1) ∧ (lastP (allP s.data.toList)).l = pvL s.data.toList ((unitsOf s.data.toList).length + 1)) := hid (by rw [lastP_all]; exact ⟨rfl, rfl⟩)
  have hPe := posK_end s.data.toList
  rw [bsize] at hPe
  have hul := units_le s
  have HLb := hid hlb
  have HPE := hid hPe
  clear hlb hPe hT
  have HT := hid hT0
  generalize lastP (allP s.data.toList) = LP at *
  obtain ⟨lb, lu, lw, ll, lc⟩ := LP
  simp only at HC HLw HLb
  obtain ⟨rfl, rfl⟩ := HLb.out
  generalize unitsOf s.data.toList = U at *
  generalize pvW s.data.toList = vW at *
  generalize pvL s.data.toList = vL at *
  generalize pvC s.data.toList = vC at *
  have hv0 : vW 0 = -1 ∧ vL 0 = 0 ∧ vC 0 = 0 := h00
  go_enter Tryd.func3, Tryd.ntmps3
  go_upto_region 9 with (first
    | (go_at_call 6; refine HKn.out.mono ?_; rintro e w1 ⟨rfl, hb1⟩; have HB1 := hid hb1; clear hb1 HKn)
    | (go_at_call 7; refine (HNw.out _ (HT.out.later HB1.out)).mono ?_; rintro e w2 ⟨BM, rfl, hbm, hm, hb2⟩; have HM := hid hm; have HB2 := hid (laterB HB1.out hb2); clear hm hb2 hbm)
    | (go_at_call 8; refine (HSp.out _ (HT.out.later HB2.out)).mono ?_; rintro e w3 ⟨v, rfl, hown, hb3⟩; obtain ⟨ua, uc, rfl, hua⟩ := hown.at.ua; have HUA := hid hua; have HA : Hid (AskI w3 BM (allP s.data.toList) pe) := hid ⟨HM.out.later hb3, (((laterB HB2.out hb3).cell (p := ⟨0, 0, none⟩) (World.block_lt_of_cell? w _ HE.out)).trans HE.out)⟩; have HB3 := hid (laterB HB2.out hb3); clear hb3 hown hua)
    | fail)
  have HEb := hid (fun k h => (HEd.out BM k h).base HA.out)
  have h33 : Hid (Below w3.heap.size w3 w3) := hid (Below.refl _ _)
  have HCn := hid (fun W (h : Below w3.heap.size w3 W) => HC.out BM W (HA.out.later h).map)
  have HEnd := hid (fun W (h : Below w3.heap.size w3 W) => laterB HB3.out h)
  clear HEd HC HM HB1 HB2 HNw HSp HE HT
  go_wp2
  go_loopw [6, 7, 8, 9] (fun a6 a7 a8 i wr => ∃ k : Nat, k ≤ U.length + 1 ∧ i = .int .i64 (k : Int) ∧ a6 = .int .i64 (vL k) ∧ a7 = .int .i64 (vC k) ∧ a8 = .int .i64 (vW k) ∧ Hid (Below w3.heap.size w3 wr)) (fun _ _ _ i _ => U.length + 1 - (intOf i).toNat)
  case atStart => exact ⟨0, Nat.zero_le _, rfl, by rw [hv0.2.1], by rw [hv0.2.2], by rw [hv0.1], h33⟩
  case round =>
    obtain ⟨k, hk, rfl, rfl, rfl, rfl, HB⟩ := hrel
    by_cases hlt : k ≤ U.length
    · have hkl : k < (allP s.data.toList).length := by omega
      have HE := hid (HEb.out k hkl)
      obtain ⟨r1, r2⟩ := HRi.out k hkl
      obtain ⟨n1, n2, n3⟩ := HNx.out k hkl
      obtain ⟨pu1, pb1⟩ := HPu.out k hkl
      have HNn : Hid (vW (k + 1) = ((allP s.data.toList)[k].w : Int) ∧ vL (k + 1) = ((allP s.data.toList)[k].l : Int) ∧ vC (k + 1) = ((allP s.data.toList)[k].c : Int)) := hid ⟨n1, n2, n3⟩
      clear n1 n2 n3
      generalize (allP s.data.toList)[k] = P at *
      obtain ⟨pb, pu, pw, pl, pc⟩ := P
      simp only at r1 r2 pu1 pb1 HNn
      obtain rfl := pu1.symm
      generalize vL k = v1 at *
      generalize vC k = v2 at *
      generalize vW k = v3 at *
      have q1 : ¬ (pw : Int) ≤ v3 := by omega
      have q2 : ¬ (pl : Int) < v1 := by omega
      by_cases hl2 : k < U.length
      · have hst := congrArg (fun x => x.2.1) (HUs.out k hl2)
        simp only at hst
        obtain ⟨b1, o1, rfl, d0, d1, d2⟩ := HUA.out.at' k hl2
        have d1 := (HB.out.cell (p := ⟨b1, o1 + k * 3 + 1, none⟩) (World.block_lt_of_cell? w3 _ d1)).trans d1
        rw [hst, ← pb1] at d1
        clear d0 d2 pb1 hst
        rcases (by omega : v1 < (pl : Int) ∨ v1 = (pl : Int)) with q3 | q3
        · have q4 : ¬ (pl : Int) = v1 := by omega
          have q5 : ((pl : Int) == v1) = false := by rw [beq_eq_false_iff_ne]; exact q4
          go_wp2_with (first
            | (go_at_call 9; refine (HE.out.unit _ HB.out).mono ?_; rintro e wx ⟨rfl, hbx⟩; have HX := hid hbx; clear hbx)
            | (go_at_call 10; refine (HE.out.wide _ HX.out).mono ?_; rintro e wx ⟨rfl, hbx⟩; have HX := hid hbx; clear hbx)
            | (go_at_call 11; refine (HE.out.line _ HX.out).mono ?_; rintro e wx ⟨rfl, hbx⟩; have HX := hid hbx; clear hbx)
            | (go_at_call 12; refine (HE.out.byte _ HX.out).mono ?_; rintro e wx ⟨rfl, hbx⟩; have HX := hid hbx; clear hbx)
            | (go_at_call 13; refine (HE.out.narrow _ HX.out).mono ?_; rintro e wx ⟨rfl, hbx⟩; have HX := hid hbx; clear hbx)
            | (go_at_call 14; refine (HE.out.at' _ HX.out).mono ?_; rintro e wx ⟨rfl, hbx⟩; have HX := hid hbx; clear hbx)
            | fail)
          go_roundw
          case rel => exact ⟨k + 1, by omega, by go_num, by rw [HNn.out.2.1], by rw [HNn.out.2.2], by rw [HNn.out.1], HX⟩
          case measure => simp [intOf]; omega
        · subst q3
          have q4 : ¬ (pc : Int) ≤ v2 := by omega
          go_wp2_with (first
            | (go_at_call 9; refine (HE.out.unit _ HB.out).mono ?_; rintro e wx ⟨rfl, hbx⟩; have HX := hid hbx; clear hbx)
            | (go_at_call 10; refine (HE.out.wide _ HX.out).mono ?_; rintro e wx ⟨rfl, hbx⟩; have HX := hid hbx; clear hbx)
            | (go_at_call 11; refine (HE.out.line _ HX.out).mono ?_; rintro e wx ⟨rfl, hbx⟩; have HX := hid hbx; clear hbx)
            | (go_at_call 12; refine (HE.out.byte _ HX.out).mono ?_; rintro e wx ⟨rfl, hbx⟩; have HX := hid hbx; clear hbx)
            | (go_at_call 13; refine (HE.out.narrow _ HX.out).mono ?_; rintro e wx ⟨rfl, hbx⟩; have HX := hid hbx; clear hbx)
            | (go_at_call 14; refine (HE.out.at' _ HX.out).mono ?_; rintro e wx ⟨rfl, hbx⟩; have HX := hid hbx; clear hbx)
            | fail)
          go_roundw
          case rel => exact ⟨k + 1, by omega, by go_num, by rw [HNn.out.2.1], by rw [HNn.out.2.2], by rw [HNn.out.1], HX⟩
          case measure => simp [intOf]; omega
      · have hke : k = U.length := by omega
        have hsz : pb = s.size := by rw [pb1, hke]; exact HPE.out
        subst hsz
        have hkI : ¬ (k : Int) < (U.length : Int) := by omega
        clear pb1 hke
        rcases (by omega : v1 < (pl : Int) ∨ v1 = (pl : Int)) with q3 | q3
        · have q4 : ¬ (pl : Int) = v1 := by omega
          have q5 : ((pl : Int) == v1) = false := by rw [beq_eq_false_iff_ne]; exact q4
          go_wp2_with (first
            | (go_at_call 9; refine (HE.out.unit _ HB.out).mono ?_; rintro e wx ⟨rfl, hbx⟩; have HX := hid hbx; clear hbx)
            | (go_at_call 10; refine (HE.out.wide _ HX.out).mono ?_; rintro e wx ⟨rfl, hbx⟩; have HX := hid hbx; clear hbx)
            | (go_at_call 11; refine (HE.out.line _ HX.out).mono ?_; rintro e wx ⟨rfl, hbx⟩; have HX := hid hbx; clear hbx)
            | (go_at_call 12; refine (HE.out.byte _ HX.out).mono ?_; rintro e wx ⟨rfl, hbx⟩; have HX := hid hbx; clear hbx)
            | (go_at_call 13; refine (HE.out.narrow _ HX.out).mono ?_; rintro e wx ⟨rfl, hbx⟩; have HX := hid hbx; clear hbx)
            | (go_at_call 14; refine (HE.out.at' _ HX.out).mono ?_; rintro e wx ⟨rfl, hbx⟩; have HX := hid hbx; clear hbx)
            | fail)
          go_roundw
          case rel => exact ⟨k + 1, by omega, by go_num, by rw [HNn.out.2.1], by rw [HNn.out.2.2], by rw [HNn.out.1], HX⟩
          case measure => simp [intOf]; omega
        · subst q3
          have q4 : ¬ (pc : Int) ≤ v2 := by omega
          go_wp2_with (first
            | (go_at_call 9; refine (HE.out.unit _ HB.out).mono ?_; rintro e wx ⟨rfl, hbx⟩; have HX := hid hbx; clear hbx)
            | (go_at_call 10; refine (HE.out.wide _ HX.out).mono ?_; rintro e wx ⟨rfl, hbx⟩; have HX := hid hbx; clear hbx)
            | (go_at_call 11; refine (HE.out.line _ HX.out).mono ?_; rintro e wx ⟨rfl, hbx⟩; have HX := hid hbx; clear hbx)
            | (go_at_call 12; refine (HE.out.byte _ HX.out).mono ?_; rintro e wx ⟨rfl, hbx⟩; have HX := hid hbx; clear hbx)
            | (go_at_call 13; refine (HE.out.narrow _ HX.out).mono ?_; rintro e wx ⟨rfl, hbx⟩; have HX := hid hbx; clear hbx)
            | (go_at_call 14; refine (HE.out.at' _ HX.out).mono ?_; rintro e wx ⟨rfl, hbx⟩; have HX := hid hbx; clear hbx)
            | fail)
          go_roundw
          case rel => exact ⟨k + 1, by omega, by go_num, by rw [HNn.out.2.1], by rw [HNn.out.2.2], by rw [HNn.out.1], HX⟩
          case measure => simp [intOf]; omega
    · have hke : k = U.length + 1 := by omega
      have HLv : Hid (vW k = (lw : Int) ∧ vL k = (ll : Int)) := hid (by rw [hke]; exact ⟨HLw.out.1.symm, HLw.out.2.symm⟩)
      obtain ⟨x1, x2⟩ := HLv.out
      generalize vW k = v3 at *
      generalize vL k = v1 at *
      subst x1 x2
      have hkI : ¬ (k : Int) ≤ (U.length : Int) := by omega
      go_wp2_with (first
        | (go_at_call 15; refine (HCn.out _ HB.out).mono ?_; rintro e wx ⟨rfl, hbx⟩; have HX := hid (laterB HB.out hbx); clear hbx)
        | fail)
      go_ret
      exact ⟨rfl, HEnd.out _ HX.out⟩
end Go.Proofs.YtlmbbohhdgeedaaDoor
