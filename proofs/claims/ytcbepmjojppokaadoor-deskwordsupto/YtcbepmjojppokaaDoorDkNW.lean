/-
  Lists of texts compared; the walk of caesuralaw25.DeskWords.
-/
import Derived.Test.YtcbepmjojppokaaDoorDkLW
namespace Go.Proofs.YtcbepmjojppokaaDoor
open Go.RowKit Go.Shelf
set_option maxRecDepth 10000 in
set_option maxHeartbeats 800000 in
theorem same_any (L : List Dy) (a b : Option Addr) (ca cb : Nat) (w : World) (hl : L.length ≤ 4000000000000) (hA : SA w a L) (hB : SA w b L) :
    Calls Tryd.prog 9 #[.slice a L.length ca, .slice b L.length cb] w fun e w' => e = .returned (.bool true) ∧ Hid (Below w.heap.size w w') := by
  have HA := hid0 hA
  have HB := hid0 hB
  obtain ⟨m, hm⟩ : ∃ m, m = L.length := ⟨_, rfl⟩
  have HM := hid0 hm
  rw [← hm]
  rw [← hm] at hl
  have hmm : ((m : Int) != (m : Int)) = false := by simp
  clear hA hB hm
  go_enter Tryd.func9, Tryd.ntmps9
  go_wp2
  go_loopw [5] (fun i wr => ∃ (k : Nat), k ≤ m ∧ i = .int .i64 (k : Int) ∧ Hid (Below w.heap.size w wr)) (fun i _ => m - (intOf i).toNat)
  case atStart => exact ⟨0, Nat.zero_le _, rfl, hid0 (Below.refl _ _)⟩
  case round =>
    obtain ⟨k, hk, rfl, HW⟩ := hrel
    have hkI0 : (0 : Int) ≤ (k : Int) := by omega
    by_cases hlt : k < m
    · have hkI : (k : Int) < (m : Int) := by omega
      have hkL : k < L.length := by have := HM.out; omega
      obtain ⟨b1, o1, rfl, l1, c1⟩ := HA.out.at' k hkL
      obtain ⟨b2, o2, rfl, l2, c2⟩ := HB.out.at' k hkL
      have d1 : wr.cell? ⟨b1, o1 + k, none⟩ = some (.string (rd L[k])) := (HW.out.cell (p := ⟨b1, o1 + k, none⟩) l1).trans c1
      have d2 : wr.cell? ⟨b2, o2 + k, none⟩ = some (.string (rd L[k])) := (HW.out.cell (p := ⟨b2, o2 + k, none⟩) l2).trans c2
      generalize rd L[k] = S at *
      clear HA HB c1 c2 l1 l2
      go_wp2
      go_quiet (fail)
      all_goals go_wp2
      go_roundw
      case rel => exact ⟨k + 1, hlt, by go_num, hid0 (below_drew' HW.out _)⟩
      case measure => simp [intOf]; omega
    · have hkI : ¬ (k : Int) < (m : Int) := by omega
      clear HA HB
      go_wp2
      go_ret
      exact ⟨rfl, HW⟩
set_option maxRecDepth 10000 in
set_option maxHeartbeats 800000 in
theorem deskWords_any (l : Dy) (A : Nat → Addr) (w : World) (hl : l.length ≤ 4000000000000) (hS : Sents w A) :
    Calls Tryd.prog 4 #[.string (rd l)] w fun e w' => e = .returned (.bool true) ∧ Below w.heap.size w w' := by
  have HW := hid0 (words_any l (A 1) w hl hS.c1)
  have HR : Hid (∀ W, Calls Tryd.prog 8 #[.string (rd l)] W fun e w' => Hid (RWdO W.heap.size W l e w')) := hid0 (fun W => refWords_any l W hl)
  have hwl := wdS_len l 0
  generalize rd l = s at *
  cases hw : wdS 0 l with
  | none =>
    have HW2 : Hid (Calls Tryd.prog 6 #[.string s] w fun e w' => e = .returned (.tuple #[.slice none 0 0, errT (A 1)]) ∧ Hid (Below w.heap.size w w')) := hid0 (HW.out.mono (fun e w' h => by
      have h2 := h.out
      unfold WdsO at h2
      rw [hw] at h2
      exact ⟨h2.1, hid0 h2.2⟩))
    have HR2 : Hid (∀ W, Calls Tryd.prog 8 #[.string s] W fun e w' => e = .returned (.tuple #[.slice none 0 0, .int .i64 2]) ∧ Hid (Below W.heap.size W w')) := hid0 (fun W => (HR.out W).mono (fun e w' h => by
      have h2 := h.out
      unfold RWdO at h2
      rw [hw] at h2
      exact ⟨h2.1, hid0 h2.2⟩))
    have HSm : Hid (∀ W, Calls Tryd.prog 9 #[.slice none 0 0, .slice none 0 0] W fun e w' => e = .returned (.bool true) ∧ Hid (Below W.heap.size W w')) := hid0 (fun W => same_any [] none none 0 0 W (by simp) ⟨fun k h => absurd h (Nat.not_lt_zero _)⟩ ⟨fun k h => absurd h (Nat.not_lt_zero _)⟩)
    have HNu : Hid (∀ W, Below w.heap.size w W → Calls Tryd.prog 10 #[errT (A 1)] W fun e w' => e = .returned (.int .i64 2) ∧ w' = W) := hid0 (fun W hW => kitNum_at W A (hS.below hW) 1 (by omega))
    clear HW HR hw hwl hS hl
    go_enter Tryd.func4, Tryd.ntmps4
    go_wp2_with (first
      | (go_at_call 6; refine HW2.out.mono ?_; rintro e w1 ⟨rfl, h1⟩)
      | (go_at_call 8; refine (HR2.out _).mono ?_; rintro e w2 ⟨rfl, h2⟩; have HB2 := hid0 (h1.out.trans (h2.out.mono h1.out.size)); clear h2)
      | (go_at_call 9; refine (HSm.out _).mono ?_; rintro e w3 ⟨rfl, h3⟩; have HB3 := hid0 (HB2.out.trans (h3.out.mono HB2.out.size)); clear h3)
      | (go_at_call 10; refine (HNu.out _ HB3.out).mono ?_; rintro e w4 ⟨rfl, hw4⟩; subst hw4)
      | fail)
    go_ret
    exact ⟨rfl, HB3.out⟩
  | some L =>
    have hLl := hwl L hw
    have HW2 : Hid (Calls Tryd.prog 6 #[.string s] w fun e w' => ∃ a c, e = .returned (.tuple #[.slice a L.length c, .nilIface]) ∧ Hid (SA w' a L ∧ Below w.heap.size w w')) := hid0 (HW.out.mono (fun e w' h => by
      have h2 := h.out
      unfold WdsO at h2
      rw [hw] at h2
      obtain ⟨v, h3, h4, h5⟩ := h2
      obtain ⟨a, c, rfl, h6⟩ := h4.sa
      exact ⟨a, c, h3, hid0 ⟨h6, h5⟩⟩))
    have HR2 : Hid (∀ W, Calls Tryd.prog 8 #[.string s] W fun e w' => ∃ a c, e = .returned (.tuple #[.slice a L.length c, .int .i64 0]) ∧ Hid (SA w' a L ∧ Below W.heap.size W w')) := hid0 (fun W => (HR.out W).mono (fun e w' h => by
      have h2 := h.out
      unfold RWdO at h2
      rw [hw] at h2
      obtain ⟨v, h3, h4, h5⟩ := h2
      obtain ⟨a, c, rfl, h6⟩ := h4.sa
      exact ⟨a, c, h3, hid0 ⟨h6, h5⟩⟩))
    have HSm : Hid (∀ W a b ca cb, SA W a L → SA W b L → Calls Tryd.prog 9 #[.slice a L.length ca, .slice b L.length cb] W fun e w' => e = .returned (.bool true) ∧ Hid (Below W.heap.size W w')) := hid0 (fun W a b ca cb h1 h2 => same_any L a b ca cb W (by omega) h1 h2)
    have HNu : Hid (∀ W, Calls Tryd.prog 10 #[.nilIface] W fun e w' => e = .returned (.int .i64 0) ∧ w' = W) := hid0 (fun W => kitNum_nil W)
    clear HW HR hw hwl hS hl hLl
    generalize L.length = n at *
    go_enter Tryd.func4, Tryd.ntmps4
    go_wp2_with (first
      | (go_at_call 6; refine HW2.out.mono ?_; rintro e w1 ⟨a1, c1, rfl, h1⟩)
      | (go_at_call 8; refine (HR2.out _).mono ?_; rintro e w2 ⟨a2, c2, rfl, h2⟩; have HB2 := hid0 (h1.out.2.trans (h2.out.2.mono h1.out.2.size)); have HA1 := hid0 (h1.out.1.past h2.out.2))
      | (go_at_call 9; refine (HSm.out _ _ _ _ _ HA1.out h2.out.1).mono ?_; rintro e w3 ⟨rfl, h3⟩; have HB3 := hid0 (HB2.out.trans (h3.out.mono HB2.out.size)); clear h3)
      | (go_at_call 10; refine (HNu.out _).mono ?_; rintro e w4 ⟨rfl, hw4⟩; subst hw4)
      | fail)
    go_ret
    exact ⟨rfl, HB3.out⟩
end Go.Proofs.YtcbepmjojppokaaDoor
