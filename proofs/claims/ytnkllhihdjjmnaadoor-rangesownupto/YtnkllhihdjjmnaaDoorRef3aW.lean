/-
  The walks of caesuraref3.MayBe, Has.
-/
import Derived.Test.YtnkllhihdjjmnaaDoorLawFW
namespace Go.Proofs.YtnkllhihdjjmnaaDoor
open Go.RowKit
set_option maxRecDepth 10000 in
set_option maxHeartbeats 400000 in
theorem refMay_any (l : List (Int × Int)) (a : Option Addr) (cap : Nat) (hl : l.length ≤ 140737488355328) (w : World) (ha : RA w a l) :
    Calls Tryd.prog 46 #[.slice a l.length cap] w fun e w' => e = .returned (.bool (mayL l)) ∧ ∃ q, w' = w.drewN q := by
  have HA := hidE ha
  clear ha
  go_enter Tryd.func46, Tryd.ntmps46
  go_wp2
  go_loopw [3] (fun i wr => ∃ k q : Nat, k ≤ l.length ∧ i = .int .i64 (k : Int) ∧ mayL (l.take k) = true ∧ wr = w.drewN q) (fun i _ => l.length - (intOf i).toNat)
  case atStart => exact ⟨0, 0, Nat.zero_le _, rfl, rfl, rfl⟩
  case round =>
    obtain ⟨k, q, hk, rfl, hm, rfl⟩ := hrel
    have HM := hidE hm
    clear hm
    by_cases hlt : k < l.length
    · obtain ⟨b1, o1, rfl, c0, c1⟩ := HA.out.at' k hlt
      have HF := hidE (mayL_false l k hlt)
      have HT := hidE (mayL_take l k hlt)
      generalize l[k] = r at *
      obtain ⟨lo, hi⟩ := r
      simp only at c0 c1
      clear HA
      by_cases h1 : lo < 0
      · go_wp2
        go_big_quiet (fail)
        go_wp2
        go_ret
        exact ⟨by rw [HF.out (by simp [mayR]; omega)]; rfl, q + nq, drewN_drewN _ _ _⟩
      · have d1 : decide (lo < 0) = false := decide_eq_false h1
        by_cases h2 : 1114111 < hi
        · go_wp2
          go_big_quiet (fail)
          go_wp2
          go_ret
          exact ⟨by rw [HF.out (by simp [mayR]; omega)]; rfl, q + nq, drewN_drewN _ _ _⟩
        · have d2 : decide (1114111 < hi) = false := decide_eq_false h2
          by_cases h3 : hi < lo
          · go_wp2
            go_big_quiet (fail)
            go_wp2
            go_ret
            exact ⟨by rw [HF.out (by simp [mayR]; omega)]; rfl, q + nq, drewN_drewN _ _ _⟩
          · go_wp2
            go_big_quiet (fail)
            go_wp2
            go_roundw
            case rel => exact ⟨k + 1, q + nq, hlt, by go_num, by rw [HT.out, HM.out]; simp [mayR]; omega, rfl⟩
            case measure => simp [intOf]; omega
    · have hki : ¬ (k : Int) < (l.length : Int) := by omega
      clear HA
      go_wp2
      go_ret
      exact ⟨by have := HM.out; rw [List.take_of_length_le (by omega)] at this; rw [this]; rfl, q, rfl⟩
set_option maxRecDepth 10000 in
set_option maxHeartbeats 400000 in
theorem refHas_any (l : List (Int × Int)) (a : Option Addr) (cap : Nat) (n : Int) (hl : l.length ≤ 140737488355328) (w : World) (ha : RA w a l) :
    Calls Tryd.prog 35 #[.slice a l.length cap, .int .i64 n] w fun e w' => e = .returned (.bool (pts l n)) ∧ ∃ q, w' = w.drewN q := by
  have HA := hidE ha
  clear ha
  go_enter Tryd.func35, Tryd.ntmps35
  go_wp2
  go_loopw [5] (fun i wr => ∃ k q : Nat, k ≤ l.length ∧ i = .int .i64 (k : Int) ∧ pts (l.take k) n = false ∧ wr = w.drewN q) (fun i _ => l.length - (intOf i).toNat)
  case atStart => exact ⟨0, 0, Nat.zero_le _, rfl, rfl, rfl⟩
  case round =>
    obtain ⟨k, q, hk, rfl, hm, rfl⟩ := hrel
    have HM := hidE hm
    clear hm
    by_cases hlt : k < l.length
    · obtain ⟨b1, o1, rfl, c0, c1⟩ := HA.out.at' k hlt
      have HF := hidE (pts_hit l k hlt n)
      have HT := hidE (pts_take l k hlt n)
      generalize l[k] = r at *
      obtain ⟨lo, hi⟩ := r
      simp only at c0 c1
      clear HA
      by_cases h1 : lo ≤ n
      · by_cases h2 : n ≤ hi
        · go_wp2
          go_ret
          exact ⟨by rw [HF.out (by simp [hasR]; omega)]; rfl, _, rfl⟩
        · go_wp2
          go_roundw
          case rel => exact ⟨k + 1, _, hlt, by go_num, by rw [HT.out, HM.out]; simp [hasR]; omega, rfl⟩
          case measure => simp [intOf]; omega
      · go_wp2
        go_roundw
        case rel => exact ⟨k + 1, _, hlt, by go_num, by rw [HT.out, HM.out]; simp [hasR]; omega, rfl⟩
        case measure => simp [intOf]; omega
    · have hki : ¬ (k : Int) < (l.length : Int) := by omega
      clear HA
      go_wp2
      go_ret
      exact ⟨by have := HM.out; rw [List.take_of_length_le (by omega)] at this; rw [this]; rfl, q, rfl⟩
end Go.Proofs.YtnkllhihdjjmnaaDoor
