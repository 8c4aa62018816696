/-
  The walks of caesuralaw3.may, in, normal.
-/
import Derived.Test.YtnkllhihdjjmnaaDoorRgW
import Derived.Test.YtnkllhihdjjmnaaDoorWalkM
namespace Go.Proofs.YtnkllhihdjjmnaaDoor
open Go.RowKit
theorem drewN_drewN (w : World) (q n : Nat) : (w.drewN q).drewN n = w.drewN (q + n) := by simp [World.drewN, Nat.add_assoc]
set_option maxRecDepth 10000 in
set_option maxHeartbeats 400000 in
theorem may_any (l : List (Int × Int)) (a : Option Addr) (cap : Nat) (hl : l.length ≤ 140737488355328) (w : World) (ha : RA w a l) :
    Calls Tryd.prog 10 #[.slice a l.length cap] w fun e w' => e = .returned (.bool (mayL l)) ∧ ∃ q, w' = w.drewN q := by
  have HA := hidE ha
  clear ha
  go_enter Tryd.func10, Tryd.ntmps10
  go_wp2
  go_loopw [3] (fun i wr => ∃ k q : Nat, k ≤ l.length ∧ i = .int .i64 (k : Int) ∧ mayL (l.take k) = true ∧ wr = w.drewN q) (fun i _ => l.length - (intOf i).toNat)
  case atStart => exact ⟨0, 0, Nat.zero_le _, rfl, rfl, rfl⟩
  case round =>
    obtain ⟨k, q, hk, rfl, hm, rfl⟩ := hrel
    have HM := hidE hm
    clear hm
    by_cases hlt : k < l.length
    · obtain ⟨b1, o1, rfl, c0, c1⟩ := HA.out.at' k hlt
      have HF := hidE (mayL_false l k hlt)
      have HT := hidE (mayL_take l k hlt)
      generalize l[k] = r at *
      obtain ⟨lo, hi⟩ := r
      simp only at c0 c1
      clear HA
      by_cases h1 : lo < 0
      · go_wp2
        go_big_quiet (fail)
        go_wp2
        go_ret
        exact ⟨by rw [HF.out (by simp [mayR]; omega)]; rfl, q + nq, drewN_drewN _ _ _⟩
      · have d1 : decide (lo < 0) = false := decide_eq_false h1
        by_cases h2 : 1114111 < hi
        · go_wp2
          go_big_quiet (fail)
          go_wp2
          go_ret
          exact ⟨by rw [HF.out (by simp [mayR]; omega)]; rfl, q + nq, drewN_drewN _ _ _⟩
        · have d2 : decide (1114111 < hi) = false := decide_eq_false h2
          by_cases h3 : hi < lo
          · go_wp2
            go_big_quiet (fail)
            go_wp2
            go_ret
            exact ⟨by rw [HF.out (by simp [mayR]; omega)]; rfl, q + nq, drewN_drewN _ _ _⟩
          · go_wp2
            go_big_quiet (fail)
            go_wp2
            go_roundw
            case rel => exact ⟨k + 1, q + nq, hlt, by go_num, by rw [HT.out, HM.out]; simp [mayR]; omega, rfl⟩
            case measure => simp [intOf]; omega
    · have hki : ¬ (k : Int) < (l.length : Int) := by omega
      clear HA
      go_wp2
      go_ret
      exact ⟨by have := HM.out; rw [List.take_of_length_le (by omega)] at this; rw [this]; rfl, q, rfl⟩
theorem pts_take (l : List (Int × Int)) (k : Nat) (h : k < l.length) (n : Int) : pts (l.take (k + 1)) n = (pts (l.take k) n || hasR l[k] n) := by
  rw [List.take_succ_eq_append_getElem h, pts_append, pts_cons, pts_nil, Bool.or_false]
theorem pts_hit (l : List (Int × Int)) (k : Nat) (h : k < l.length) (n : Int) (hr : hasR l[k] n = true) : pts l n = true := List.any_eq_true.2 ⟨_, List.getElem_mem h, hr⟩
set_option maxRecDepth 10000 in
set_option maxHeartbeats 400000 in
theorem in_any (l : List (Int × Int)) (a : Option Addr) (cap : Nat) (n : Int) (hl : l.length ≤ 140737488355328) (w : World) (ha : RA w a l) :
    Calls Tryd.prog 19 #[.slice a l.length cap, .int .i64 n] w fun e w' => e = .returned (.bool (pts l n)) ∧ ∃ q, w' = w.drewN q := by
  have HA := hidE ha
  clear ha
  go_enter Tryd.func19, Tryd.ntmps19
  go_wp2
  go_loopw [5] (fun i wr => ∃ k q : Nat, k ≤ l.length ∧ i = .int .i64 (k : Int) ∧ pts (l.take k) n = false ∧ wr = w.drewN q) (fun i _ => l.length - (intOf i).toNat)
  case atStart => exact ⟨0, 0, Nat.zero_le _, rfl, rfl, rfl⟩
  case round =>
    obtain ⟨k, q, hk, rfl, hm, rfl⟩ := hrel
    have HM := hidE hm
    clear hm
    by_cases hlt : k < l.length
    · obtain ⟨b1, o1, rfl, c0, c1⟩ := HA.out.at' k hlt
      have HF := hidE (pts_hit l k hlt n)
      have HT := hidE (pts_take l k hlt n)
      generalize l[k] = r at *
      obtain ⟨lo, hi⟩ := r
      simp only at c0 c1
      clear HA
      by_cases h1 : lo ≤ n
      · by_cases h2 : n ≤ hi
        · go_wp2
          go_ret
          exact ⟨by rw [HF.out (by simp [hasR]; omega)]; rfl, _, rfl⟩
        · go_wp2
          go_roundw
          case rel => exact ⟨k + 1, _, hlt, by go_num, by rw [HT.out, HM.out]; simp [hasR]; omega, rfl⟩
          case measure => simp [intOf]; omega
      · go_wp2
        go_roundw
        case rel => exact ⟨k + 1, _, hlt, by go_num, by rw [HT.out, HM.out]; simp [hasR]; omega, rfl⟩
        case measure => simp [intOf]; omega
    · have hki : ¬ (k : Int) < (l.length : Int) := by omega
      clear HA
      go_wp2
      go_ret
      exact ⟨by have := HM.out; rw [List.take_of_length_le (by omega)] at this; rw [this]; rfl, q, rfl⟩
theorem norm_step : ∀ {l : List (Int × Int)} {a : Int}, NormF a l → ∀ k (h : k + 1 < l.length), l[k].2 + 2 ≤ l[k + 1].1
  | r :: s :: l, _, ⟨_, _, _, g4⟩, 0, _ => g4.1
  | r :: s :: l, _, ⟨_, _, _, g4⟩, k + 1, h => norm_step g4 k (by simpa using h)
set_option maxRecDepth 10000 in
set_option maxHeartbeats 400000 in
theorem normalLaw_any (l : List (Int × Int)) (a : Option Addr) (cap : Nat) (hn : NormF 0 l) (w : World) (ha : RA w a l) :
    Calls Tryd.prog 17 #[.slice a l.length cap] w fun e w' => e = .returned (.bool true) ∧ ∃ q, w' = w.drewN q := by
  have hl := (norm_len hn (Int.le_refl 0)).1
  have HA := hidE ha
  have HM := hidE (fun q => may_any l a cap (by omega) (w.drewN q) ⟨ha.at'⟩)
  rw [norm_may (Int.le_refl 0) hn] at HM
  have HS := hidE (norm_step hn)
  have HB := hidE (fun k (h : k < l.length) => norm_mem hn _ (List.getElem_mem h))
  clear ha hn
  go_enter Tryd.func17, Tryd.ntmps17
  go_wp2
  go_loopw [3] (fun i wr => ∃ k q : Nat, k ≤ l.length ∧ i = .int .i64 ((k : Int) + 1) ∧ wr = w.drewN q) (fun i _ => l.length + 1 - (intOf i).toNat)
  case atStart => exact ⟨0, 0, Nat.zero_le _, rfl, rfl⟩
  case round =>
    obtain ⟨k, q, hk, rfl, rfl⟩ := hrel
    by_cases hlt : k + 1 < l.length
    · obtain ⟨b1, o1, rfl, c0, c1⟩ := HA.out.at' k (by omega)
      obtain ⟨b2, o2, he, d0, d1⟩ := HA.out.at' (k + 1) hlt
      cases he
      have h1 := HS.out k hlt
      have h2 := HB.out k (by omega)
      generalize l[k] = r at *
      generalize l[k + 1] = s at *
      clear HA HS HB HM c0 d1
      have h3 : decide (s.1 < r.2 + 2) = false := decide_eq_false (by omega)
      have hki : (k : Int) + 1 < (l.length : Int) := by omega
      go_wp2
      go_big_quiet (fail)
      go_wp2
      go_roundw
      case rel => exact ⟨k + 1, q + nq, by omega, by go_num, rfl⟩
      case measure => simp [intOf]; omega
    · have hki : ¬ (k : Int) + 1 < (l.length : Int) := by omega
      clear HA
      go_wp2_with (go_at_call 10; refine (HM.out _).mono ?_; rintro e w' ⟨rfl, q', rfl⟩)
      go_ret
      exact ⟨rfl, _, rfl⟩
end Go.Proofs.YtnkllhihdjjmnaaDoor
