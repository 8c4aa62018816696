/-
  The walks of slices.Index and slices.Contains over texts.
-/
import Derived.Test.YtpimameogmkpcaaDoorPbNmW
import Derived.Lib.SlicesS
namespace Go.Proofs.YtpimameogmkpcaaDoor
open Go.RowKit
theorem str_beq (a b : ByteArray) (h : ¬ a = b) : (a.toList == b.toList) = false := by
  rw [Bool.eq_false_iff]
  intro he
  rw [beq_iff_eq, ByteArray.toList_eq, ByteArray.toList_eq] at he
  exact h (ByteArray.ext (Array.toList_inj.1 he))
set_option maxRecDepth 10000 in
set_option maxHeartbeats 800000 in
theorem index_any (L : List ByteArray) (a : Option Addr) (cap : Nat) (x : ByteArray) (w : World) (hl : L.length ≤ 1000000000000) (ha : SA w a L) :
    Calls Tryd.prog 37 #[.slice a L.length cap, .string x] w fun e w' => e = .returned (.int .i64 (Lib.idxOfS L x)) ∧ w' = w := by
  have HS := hid0 ha
  clear ha
  go_enter Tryd.func37, Tryd.ntmps37
  go_wp2
  go_loopw [8] (fun i wr => ∃ k : Nat, k ≤ L.length ∧ i = .int .i64 (k : Int) ∧ (∀ j, j < k → L.getD j ByteArray.empty ≠ x) ∧ wr = w) (fun i _ => L.length - (intOf i).toNat)
  case atStart => exact ⟨0, Nat.zero_le _, rfl, fun j hj => absurd hj (Nat.not_lt_zero _), rfl⟩
  case round =>
    obtain ⟨k, hk, rfl, hall, rfl⟩ := hrel
    have HA := hid0 hall
    clear hall
    by_cases hlt : k < L.length
    · obtain ⟨b, off, rfl, _, hc⟩ := HS.out.at' k hlt
      have hkI : (k : Int) < (L.length : Int) := by omega
      have hkI0 : (0 : Int) ≤ (k : Int) := by omega
      have hgd : L.getD k ByteArray.empty = L[k] := by simp [List.getD, hlt]
      by_cases he : L[k] = x
      · have HV : Hid (Lib.idxOfS L x = (k : Int)) := hid0 (by
          have := Lib.idxFromS_hit x L k 0 hlt (hgd.trans he) HA.out
          rw [Lib.idxOfS, this]; simp)
        rw [he] at hc
        clear HA hgd he HS
        go_wp2
        go_ret
        exact ⟨by rw [HV.out]; rfl, rfl⟩
      · have HN : Hid (∀ j, j < k + 1 → L.getD j ByteArray.empty ≠ x) := hid0 (fun j hj => by
          by_cases e : j = k
          · subst e; rw [hgd]; exact he
          · exact HA.out j (by omega))
        have hne := str_beq _ _ (fun e => he e.symm)
        clear HA hgd he HS
        go_wp2
        go_roundw
        case rel => exact ⟨k + 1, hlt, by go_num, HN.out, trivial⟩
        case measure => simp [intOf]; omega
    · have hkI : ¬ (k : Int) < (L.length : Int) := by omega
      have HV : Hid (Lib.idxOfS L x = -1) := hid0 (by
        have hkn : k = L.length := by omega
        exact Lib.idxFromS_miss x L 0 (fun j hj => HA.out j (by omega)))
      clear HA HS
      go_wp2
      go_ret
      exact ⟨by rw [HV.out]; rfl, rfl⟩
set_option maxRecDepth 10000 in
set_option maxHeartbeats 800000 in
theorem contains_any (L : List ByteArray) (a : Option Addr) (cap : Nat) (x : ByteArray) (w : World) (hl : L.length ≤ 1000000000000) (ha : SA w a L) :
    Calls Tryd.prog 41 #[.slice a L.length cap, .string x] w fun e w' => e = .returned (.bool (Lib.containsS L x)) ∧ w' = w := by
  have HI := hid0 (index_any L a cap x w hl ha)
  have HV : Hid (Lib.containsS L x = decide (0 ≤ Lib.idxOfS L x)) := hid0 rfl
  generalize Lib.idxOfS L x = q at *
  generalize Lib.containsS L x = r at *
  clear ha
  go_enter Tryd.func41, Tryd.ntmps41
  go_wp2_with (go_at_call 37; refine HI.out.mono ?_; rintro e w1 ⟨rfl, rfl⟩)
  go_ret
  exact ⟨by rw [HV.out]; simp, rfl⟩
end Go.Proofs.YtpimameogmkpcaaDoor
