/-
  The walks of locale's isSmall, isGreat, isLetters, small, partForm.
-/
import Derived.Test.YtnlcaokkbjllcaaDoorLtAM
import Derived.Test.YtnlcaokkbjllcaaDoorLt6W
import Derived.Deep.RegionHeld3
namespace Go.Proofs.YtnlcaokkbjllcaaDoor
open Go.RowKit Go.Shelf Go.Lib
set_option maxRecDepth 10000 in
set_option maxHeartbeats 400000 in
theorem isSmall_any (x : Nat) (w : World) : Calls Tryd.prog 48 #[.int .i32 (x : Int)] w fun e w' => e = .returned (.bool (decide (97 ≤ x) && decide (x ≤ 122))) ∧ w' = w := by
  by_cases a0 : 97 ≤ x
  · by_cases a1 : x ≤ 122
    · have hb : (decide (97 ≤ x) && decide (x ≤ 122)) = true := by simp [a0, a1]
      rw [hb]
      have h0 : (97 : Int) ≤ (x : Int) := by omega
      have h1 : (x : Int) ≤ 122 := by omega
      clear hb
      go_enter Tryd.func48, Tryd.ntmps48
      go_wp2
      go_ret
      exact ⟨rfl, rfl⟩
    · have hb : (decide (97 ≤ x) && decide (x ≤ 122)) = false := by simp [a1]
      rw [hb]
      have h0 : (97 : Int) ≤ (x : Int) := by omega
      have h1 : ¬ (x : Int) ≤ 122 := by omega
      have h2 : decide ((x : Int) ≤ 122) = false := by simpa using h1
      clear hb
      go_enter Tryd.func48, Tryd.ntmps48
      go_wp2
      go_ret
      exact ⟨rfl, rfl⟩
  · have hb : (decide (97 ≤ x) && decide (x ≤ 122)) = false := by simp [a0]
    rw [hb]
    have h0 : ¬ (97 : Int) ≤ (x : Int) := by omega
    clear hb
    go_enter Tryd.func48, Tryd.ntmps48
    go_wp2
    go_ret
    exact ⟨rfl, rfl⟩
set_option maxRecDepth 10000 in
set_option maxHeartbeats 400000 in
theorem isGreat_any (x : Nat) (w : World) : Calls Tryd.prog 49 #[.int .i32 (x : Int)] w fun e w' => e = .returned (.bool (decide (65 ≤ x) && decide (x ≤ 90))) ∧ w' = w := by
  by_cases a0 : 65 ≤ x
  · by_cases a1 : x ≤ 90
    · have hb : (decide (65 ≤ x) && decide (x ≤ 90)) = true := by simp [a0, a1]
      rw [hb]
      have h0 : (65 : Int) ≤ (x : Int) := by omega
      have h1 : (x : Int) ≤ 90 := by omega
      clear hb
      go_enter Tryd.func49, Tryd.ntmps49
      go_wp2
      go_ret
      exact ⟨rfl, rfl⟩
    · have hb : (decide (65 ≤ x) && decide (x ≤ 90)) = false := by simp [a1]
      rw [hb]
      have h0 : (65 : Int) ≤ (x : Int) := by omega
      have h1 : ¬ (x : Int) ≤ 90 := by omega
      have h2 : decide ((x : Int) ≤ 90) = false := by simpa using h1
      clear hb
      go_enter Tryd.func49, Tryd.ntmps49
      go_wp2
      go_ret
      exact ⟨rfl, rfl⟩
  · have hb : (decide (65 ≤ x) && decide (x ≤ 90)) = false := by simp [a0]
    rw [hb]
    have h0 : ¬ (65 : Int) ≤ (x : Int) := by omega
    clear hb
    go_enter Tryd.func49, Tryd.ntmps49
    go_wp2
    go_ret
    exact ⟨rfl, rfl⟩
set_option maxRecDepth 10000 in
set_option maxHeartbeats 400000 in
theorem small1_any (x : Nat) (hx : x ≤ 1114111) (w : World) : Calls Tryd.prog 51 #[.int .i32 (x : Int)] w fun e w' => e = .returned (.int .i32 (fS x)) ∧ w' = w := by
  have HG := hid0 (isGreat_any x w)
  cases hq : (decide (65 ≤ x) && decide (x ≤ 90)) with
  | true =>
    rw [hq] at HG
    simp only [Bool.and_eq_true, decide_eq_true_eq] at hq
    have hv : fS x = (x : Int) + 32 := by unfold fS; rw [if_pos (by omega)]
    have h1 : IntKind.i32.wrap ((x : Int) - 65) = (x : Int) - 65 := by simp [IntKind.wrap, IntKind.bits, IntKind.signed]; omega
    have h2 : IntKind.i32.wrap ((x : Int) - 65 + 97) = fS x := by rw [hv]; simp [IntKind.wrap, IntKind.bits, IntKind.signed]; omega
    generalize fS x = y at *
    clear hv hq
    go_enter Tryd.func51, Tryd.ntmps51
    go_wp2_with (go_at_call 49; refine HG.out.mono ?_; rintro e w1 ⟨rfl, rfl⟩)
    go_ret
    exact ⟨rfl, rfl⟩
  | false =>
    rw [hq] at HG
    have hv : fS x = (x : Int) := by
      unfold fS
      rw [if_neg]
      intro h
      simp at hq
      omega
    rw [hv]
    clear hv hq
    go_enter Tryd.func51, Tryd.ntmps51
    go_wp2_with (go_at_call 49; refine HG.out.mono ?_; rintro e w1 ⟨rfl, rfl⟩)
    go_ret
    exact ⟨rfl, rfl⟩
set_option maxRecDepth 10000 in
set_option maxHeartbeats 400000 in
theorem letters1_any (x : Nat) (w : World) : Calls Tryd.prog 47 #[.int .i32 (x : Int)] w fun e w' => e = .returned (.bool (notL x)) ∧ w' = w := by
  have HS := hid0 (isSmall_any x w)
  have HG := hid0 (isGreat_any x w)
  unfold notL
  cases hq1 : (decide (97 ≤ x) && decide (x ≤ 122)) with
  | true =>
    rw [hq1] at HS
    clear hq1
    go_enter Tryd.func47, Tryd.ntmps47
    go_wp2_with (first | (go_at_call 48; refine HS.out.mono ?_; rintro e w1 ⟨rfl, rfl⟩) | fail)
    go_ret
    exact ⟨rfl, rfl⟩
  | false =>
    rw [hq1] at HS
    clear hq1
    cases hq2 : (decide (65 ≤ x) && decide (x ≤ 90)) with
    | true =>
      rw [hq2] at HG
      clear hq2
      go_enter Tryd.func47, Tryd.ntmps47
      go_wp2_with (first
        | (go_at_call 48; refine HS.out.mono ?_; rintro e w1 ⟨rfl, rfl⟩)
        | (go_at_call 49; refine HG.out.mono ?_; rintro e w1 ⟨rfl, rfl⟩))
      go_ret
      exact ⟨rfl, rfl⟩
    | false =>
      rw [hq2] at HG
      clear hq2
      go_enter Tryd.func47, Tryd.ntmps47
      go_wp2_with (first
        | (go_at_call 48; refine HS.out.mono ?_; rintro e w1 ⟨rfl, rfl⟩)
        | (go_at_call 49; refine HG.out.mono ?_; rintro e w1 ⟨rfl, rfl⟩))
      go_ret
      exact ⟨rfl, rfl⟩
theorem contains_any (s : ByteArray) (w : World) : Calls Tryd.prog 46 #[.string s, .func (.func 47) #[] #[]] w fun e w' => e = .returned (.bool !(s.data.toList.all isL)) ∧ Below w.heap.size w w' := by
  have h := Any.strings_ContainsFunc Tryd.laysGw17 47 #[] (enters_of Tryd.func47 (by kernel_rfl) rfl) notL s w (fun W x _ => (letters1_any x W).mono (fun e w' h => ⟨h.1, 0, h.2⟩))
  rw [contains_letters] at h
  exact h
set_option maxRecDepth 10000 in
set_option maxHeartbeats 400000 in
theorem isLetters_any (s : ByteArray) (w : World) : Calls Tryd.prog 30 #[.string s] w fun e w' => e = .returned (.bool (s.data.toList.all isL)) ∧ Below w.heap.size w w' := by
  have HC := hid0 (contains_any s w)
  generalize s.data.toList.all isL = q at *
  go_enter Tryd.func30, Tryd.ntmps30
  go_wp2_with (go_at_call 46; refine HC.out.mono ?_; rintro e w1 ⟨rfl, hb⟩)
  go_ret
  exact ⟨by simp, hb⟩
/-- The tables of unicode/utf8. -/
def Tb (w : World) : Prop := Lib.Utf8Tabs 12 13 w
theorem Tb.below {w w' : World} (h : Tb w) (hb : Below w.heap.size w w') : Tb w' :=
  ⟨fun c hc => (hb.cell (World.block_lt_of_cell? _ _ (h.1 c hc))).trans (h.1 c hc), fun i hi => ⟨(hb.cell (World.block_lt_of_cell? _ _ (h.2 i hi).1)).trans (h.2 i hi).1, (hb.cell (World.block_lt_of_cell? _ _ (h.2 i hi).2)).trans (h.2 i hi).2⟩⟩
theorem map_any (s : ByteArray) (hs : s.size ≤ 1000000) (w : World) (hT : Tb w) : Calls Tryd.prog 50 #[.func (.func 51) #[] #[], .string s] w fun e w' => e = .returned (.string ⟨(smL s.data.toList).toArray⟩) ∧ Below w.heap.size w w' :=
  Any.strings_Map_runes Tryd.lays230 ext230 51 #[] (enters_of Tryd.func51 (by kernel_rfl) rfl) fS s w (by omega) (fun W x hx _ => (small1_any x hx W).mono (fun e w' h => ⟨h.1, 0, h.2⟩)) fS_range hT
set_option maxRecDepth 10000 in
set_option maxHeartbeats 400000 in
theorem small_any (p : List UInt8) (hp : p.length ≤ 1000000) (w : World) (hT : Tb w) : Calls Tryd.prog 31 #[.string (strOf p)] w fun e w' => e = .returned (.string (strOf (smL p))) ∧ Below w.heap.size w w' := by
  have h := map_any (strOf p) (by rw [strOf_size]; exact hp) w hT
  rw [strOf_data] at h
  have HC : Hid (Calls Tryd.prog 50 #[.func (.func 51) #[] #[], .string (strOf p)] w fun e w' => e = .returned (.string (strOf (smL p))) ∧ Below w.heap.size w w') := hid0 h
  clear h hT
  generalize strOf (smL p) = Y at *
  generalize strOf p = S at *
  go_enter Tryd.func31, Tryd.ntmps31
  go_wp2_with (go_at_call 50; refine HC.out.mono ?_; rintro e w1 ⟨rfl, hb⟩)
  go_ret
  exact ⟨rfl, hb⟩
end Go.Proofs.YtnlcaokkbjllcaaDoor
