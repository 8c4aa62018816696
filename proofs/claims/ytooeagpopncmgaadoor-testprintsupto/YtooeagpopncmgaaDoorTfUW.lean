/-
  TameCases, as a function (stage 23).
-/
import Derived.Test.YtooeagpopncmgaaDoorTfNW
namespace Go.Proofs.YtooeagpopncmgaaDoor
open Go.RowKit Go.Shelf
/-- How many points and places the first cases have. -/
def smC (C : List Cs) : Nat → Nat
  | 0 => 0
  | k + 1 => smC C k + (cP C k).length + (cB C k).length
theorem smC_mono (C : List Cs) (k : Nat) : ∀ n, k ≤ n → smC C k ≤ smC C n
  | 0, h => by rw [Nat.le_zero.1 h]; exact Nat.le_refl _
  | n + 1, h => by
    by_cases e : k = n + 1
    · rw [e]; exact Nat.le_refl _
    · have := smC_mono C k n (by omega)
      rw [smC]
      omega
/-- What TameCases answers. -/
def tmF (C : List Cs) : Bool := decide (smC C C.length ≤ 16777216)
theorem tmF_bound {C : List Cs} (h : tmF C = true) : ∀ x ∈ C, x.1.length ≤ 16777216 ∧ x.2.length ≤ 16777216 := fun x hx => by
  obtain ⟨i, hi, rfl⟩ := List.getElem_of_mem hx
  have h1 := of_decide_eq_true h
  have h2 := smC_mono C (i + 1) C.length hi
  rw [smC, cP_at hi, cB_at hi] at h2
  omega
set_option maxRecDepth 10000 in
set_option maxHeartbeats 3200000 in
theorem tameF_any (C : List Cs) (a : Option Addr) (cap : Nat) (w : World) (hl : C.length ≤ 1000000000) (hP : ∀ x ∈ C, x.1.length ≤ 1000000000 ∧ x.2.length ≤ 1000000000) (hC : CsA w a C) :
    Calls Tryd.prog 4 #[.slice a C.length cap] w fun e w' => e = .returned (.bool (tmF C)) ∧ ∃ q, w' = w.drewN q := by
  have HC := hid0 hC
  have HPm := hid0 hP
  obtain ⟨n, hn⟩ : ∃ n, n = C.length := ⟨_, rfl⟩
  have HN := hid0 hn
  have HTm : Hid (tmF C = decide (smC C n ≤ 16777216)) := hid0 (by rw [hn]; rfl)
  obtain ⟨tm, htm⟩ : ∃ tm, tm = tmF C := ⟨_, rfl⟩
  rw [← htm] at HTm ⊢
  rw [← hn] at hl ⊢
  clear hC hn hP htm
  go_enter Tryd.func4, Tryd.ntmps4
  go_wp2
  go_loopw [3, 4] (fun u v wr => ∃ k s : Nat, k ≤ n ∧ v = .int .i64 (k : Int) ∧ u = .int .i64 (s : Int) ∧ s ≤ 3000000000 ∧ Hid (s = smC C k) ∧ ∃ q, wr = w.drewN q) (fun _ v _ => n - (intOf v).toNat)
  case atStart => exact ⟨0, 0, Nat.zero_le _, rfl, rfl, by omega, hid0 rfl, 0, rfl⟩
  case round =>
    obtain ⟨k, s, hk, rfl, rfl, hs, HA, q, rfl⟩ := hrel
    by_cases hlt : k < n
    · have hkI : (k : Int) < (n : Int) := by omega
      have hkI0 : (0 : Int) ≤ (k : Int) := by omega
      have hkr : k < C.length := by rw [← HN.out]; exact hlt
      by_cases hsm : s ≤ 16777216
      · have hsI : (s : Int) ≤ 16777216 := by omega
        obtain ⟨P, B, b, off, aP, aB, cP', cB', hx, rfl, hbl, y0, y1, _, _⟩ := HC.out.get k hkr
        have hp := HPm.out _ (List.getElem_mem hkr)
        rw [hx] at hp
        have hp1 : P.length ≤ 1000000000 := hp.1
        have hp2 : B.length ≤ 1000000000 := hp.2
        have HA2 : Hid (s + P.length + B.length = smC C (k + 1)) := hid0 (by rw [smC, cP_at hkr, cB_at hkr, hx, ← HA.out])
        clear hp hx hkr HA
        generalize P.length = nP at *
        generalize B.length = nB at *
        have hw1 : IntKind.i64.wrap ((s : Int) + (nP : Int)) = (s : Int) + (nP : Int) := by rw [IntKind.wrap_i64]; omega
        have hw2 : IntKind.i64.wrap ((s : Int) + (nP : Int) + (nB : Int)) = (s : Int) + (nP : Int) + (nB : Int) := by rw [IntKind.wrap_i64]; omega
        go_wp2
        go_quiet (fail)
        all_goals go_wp2
        go_roundw
        case rel => exact ⟨k + 1, s + nP + nB, by omega, by go_num, by (congr 1 <;> omega), by omega, HA2, _, rfl⟩
        case measure => simp [intOf]; omega
      · have hsI : ¬ (s : Int) ≤ 16777216 := by omega
        have hsd : decide ((s : Int) ≤ 16777216) = false := decide_eq_false hsI
        have HF : Hid (tm = false) := hid0 (by rw [HTm.out]; exact decide_eq_false (by have := smC_mono C k n hk; have := HA.out; omega))
        go_wp2
        go_ret
        exact ⟨by rw [HF.out]; rfl, _, rfl⟩
    · have hkI : ¬ (k : Int) < (n : Int) := by omega
      have hkn : k = n := by omega
      by_cases hsm : s ≤ 16777216
      · have hsI : (s : Int) ≤ 16777216 := by omega
        have hsd : decide ((s : Int) ≤ 16777216) = true := decide_eq_true hsI
        have HF : Hid (tm = true) := hid0 (by rw [HTm.out]; exact decide_eq_true (by have := HA.out; rw [hkn] at this; omega))
        go_wp2
        go_ret
        exact ⟨by rw [HF.out]; rfl, _, rfl⟩
      · have hsI : ¬ (s : Int) ≤ 16777216 := by omega
        have hsd : decide ((s : Int) ≤ 16777216) = false := decide_eq_false hsI
        have HF : Hid (tm = false) := hid0 (by rw [HTm.out]; exact decide_eq_false (by have := HA.out; rw [hkn] at this; omega))
        go_wp2
        go_ret
        exact ⟨by rw [HF.out]; rfl, _, rfl⟩
end Go.Proofs.YtooeagpopncmgaaDoor
