/-
  The walks of locale's isSmall, isGreat, isLetters, small, partForm.
-/
import Derived.Test.YtbdjnmbhphflbaaGreatDoorLtAM
import Derived.Test.YtbdjnmbhphflbaaGreatDoorLt6W
import Derived.Deep.RegionHeld3
namespace Go.Proofs.YtbdjnmbhphflbaaGreatDoor
open Go.RowKit Go.Shelf Go.Lib
set_option maxRecDepth 10000 in
set_option maxHeartbeats 400000 in
theorem isSmall_any (x : Nat) (w : World) : Calls Tryz.prog 111 #[.int .i32 (x : Int)] w fun e w' => e = .returned (.bool (decide (97 ≤ x) && decide (x ≤ 122))) ∧ w' = w := by
  by_cases a0 : 97 ≤ x
  · by_cases a1 : x ≤ 122
    · have hb : (decide (97 ≤ x) && decide (x ≤ 122)) = true := by simp [a0, a1]
      rw [hb]
      have h0 : (97 : Int) ≤ (x : Int) := by omega
      have h1 : (x : Int) ≤ 122 := by omega
      clear hb
      go_enter Tryz.func111, Tryz.ntmps111
      go_wp2
      go_ret
      exact ⟨rfl, rfl⟩
    · have hb : (decide (97 ≤ x) && decide (x ≤ 122)) = false := by simp [a1]
      rw [hb]
      have h0 : (97 : Int) ≤ (x : Int) := by omega
      have h1 : ¬ (x : Int) ≤ 122 := by omega
      have h2 : decide ((x : Int) ≤ 122) = false := by simpa using h1
      clear hb
      go_enter Tryz.func111, Tryz.ntmps111
      go_wp2
      go_ret
      exact ⟨rfl, rfl⟩
  · have hb : (decide (97 ≤ x) && decide (x ≤ 122)) = false := by simp [a0]
    rw [hb]
    have h0 : ¬ (97 : Int) ≤ (x : Int) := by omega
    clear hb
    go_enter Tryz.func111, Tryz.ntmps111
    go_wp2
    go_ret
    exact ⟨rfl, rfl⟩
set_option maxRecDepth 10000 in
set_option maxHeartbeats 400000 in
theorem isGreat_any (x : Nat) (w : World) : Calls Tryz.prog 112 #[.int .i32 (x : Int)] w fun e w' => e = .returned (.bool (decide (65 ≤ x) && decide (x ≤ 90))) ∧ w' = w := by
  by_cases a0 : 65 ≤ x
  · by_cases a1 : x ≤ 90
    · have hb : (decide (65 ≤ x) && decide (x ≤ 90)) = true := by simp [a0, a1]
      rw [hb]
      have h0 : (65 : Int) ≤ (x : Int) := by omega
      have h1 : (x : Int) ≤ 90 := by omega
      clear hb
      go_enter Tryz.func112, Tryz.ntmps112
      go_wp2
      go_ret
      exact ⟨rfl, rfl⟩
    · have hb : (decide (65 ≤ x) && decide (x ≤ 90)) = false := by simp [a1]
      rw [hb]
      have h0 : (65 : Int) ≤ (x : Int) := by omega
      have h1 : ¬ (x : Int) ≤ 90 := by omega
      have h2 : decide ((x : Int) ≤ 90) = false := by simpa using h1
      clear hb
      go_enter Tryz.func112, Tryz.ntmps112
      go_wp2
      go_ret
      exact ⟨rfl, rfl⟩
  · have hb : (decide (65 ≤ x) && decide (x ≤ 90)) = false := by simp [a0]
    rw [hb]
    have h0 : ¬ (65 : Int) ≤ (x : Int) := by omega
    clear hb
    go_enter Tryz.func112, Tryz.ntmps112
    go_wp2
    go_ret
    exact ⟨rfl, rfl⟩
set_option maxRecDepth 10000 in
set_option maxHeartbeats 400000 in
theorem small1_any (x : Nat) (hx : x ≤ 1114111) (w : World) : Calls Tryz.prog 114 #[.int .i32 (x : Int)] w fun e w' => e = .returned (.int .i32 (fS x)) ∧ w' = w := by
  have HG := hid0 (isGreat_any x w)
  cases hq : (decide (65 ≤ x) && decide (x ≤ 90)) with
  | true =>
    rw [hq] at HG
    simp only [Bool.and_eq_true, decide_eq_true_eq] at hq
    have hv : fS x = (x : Int) + 32 := by unfold fS; rw [if_pos (by omega)]
    have h1 : IntKind.i32.wrap ((x : Int) - 65) = (x : Int) - 65 := by simp [IntKind.wrap, IntKind.bits, IntKind.signed]; omega
    have h2 : IntKind.i32.wrap ((x : Int) - 65 + 97) = fS x := by rw [hv]; simp [IntKind.wrap, IntKind.bits, IntKind.signed]; omega
    generalize fS x = y at *
    clear hv hq
    go_enter Tryz.func114, Tryz.ntmps114
    go_wp2_with (go_at_call 112; refine HG.out.mono ?_; rintro e w1 ⟨rfl, rfl⟩)
    go_ret
    exact ⟨rfl, rfl⟩
  | false =>
    rw [hq] at HG
    have hv : fS x = (x : Int) := by
      unfold fS
      rw [if_neg]
      intro h
      simp at hq
      omega
    rw [hv]
    clear hv hq
    go_enter Tryz.func114, Tryz.ntmps114
    go_wp2_with (go_at_call 112; refine HG.out.mono ?_; rintro e w1 ⟨rfl, rfl⟩)
    go_ret
    exact ⟨rfl, rfl⟩
set_option maxRecDepth 10000 in
set_option maxHeartbeats 400000 in
theorem letters1_any (x : Nat) (w : World) : Calls Tryz.prog 110 #[.int .i32 (x : Int)] w fun e w' => e = .returned (.bool (notL x)) ∧ w' = w := by
  have HS := hid0 (isSmall_any x w)
  have HG := hid0 (isGreat_any x w)
  unfold notL
  cases hq1 : (decide (97 ≤ x) && decide (x ≤ 122)) with
  | true =>
    rw [hq1] at HS
    clear hq1
    go_enter Tryz.func110, Tryz.ntmps110
    go_wp2_with (first | (go_at_call 111; refine HS.out.mono ?_; rintro e w1 ⟨rfl, rfl⟩) | fail)
    go_ret
    exact ⟨rfl, rfl⟩
  | false =>
    rw [hq1] at HS
    clear hq1
    cases hq2 : (decide (65 ≤ x) && decide (x ≤ 90)) with
    | true =>
      rw [hq2] at HG
      clear hq2
      go_enter Tryz.func110, Tryz.ntmps110
      go_wp2_with (first
        | (go_at_call 111; refine HS.out.mono ?_; rintro e w1 ⟨rfl, rfl⟩)
        | (go_at_call 112; refine HG.out.mono ?_; rintro e w1 ⟨rfl, rfl⟩))
      go_ret
      exact ⟨rfl, rfl⟩
    | false =>
      rw [hq2] at HG
      clear hq2
      go_enter Tryz.func110, Tryz.ntmps110
      go_wp2_with (first
        | (go_at_call 111; refine HS.out.mono ?_; rintro e w1 ⟨rfl, rfl⟩)
        | (go_at_call 112; refine HG.out.mono ?_; rintro e w1 ⟨rfl, rfl⟩))
      go_ret
      exact ⟨rfl, rfl⟩
theorem contains_any (s : ByteArray) (w : World) : Calls Tryz.prog 109 #[.string s, .func (.func 110) #[] #[]] w fun e w' => e = .returned (.bool !(s.data.toList.all isL)) ∧ Below w.heap.size w w' := by
  have h := Any.strings_ContainsFunc Tryz.laysGw17 110 #[] (enters_of Tryz.func110 (by kernel_rfl) rfl) notL s w (fun W x _ => (letters1_any x W).mono (fun e w' h => ⟨h.1, 0, h.2⟩))
  rw [contains_letters] at h
  exact h
set_option maxRecDepth 10000 in
set_option maxHeartbeats 400000 in
theorem isLetters_any (s : ByteArray) (w : World) : Calls Tryz.prog 75 #[.string s] w fun e w' => e = .returned (.bool (s.data.toList.all isL)) ∧ Below w.heap.size w w' := by
  have HC := hid0 (contains_any s w)
  generalize s.data.toList.all isL = q at *
  go_enter Tryz.func75, Tryz.ntmps75
  go_wp2_with (go_at_call 109; refine HC.out.mono ?_; rintro e w1 ⟨rfl, hb⟩)
  go_ret
  exact ⟨by simp, hb⟩
/-- The tables of unicode/utf8. -/
def Tb (w : World) : Prop := Lib.Utf8Tabs 12 13 w
theorem Tb.below {w w' : World} (h : Tb w) (hb : Below w.heap.size w w') : Tb w' :=
  ⟨fun c hc => (hb.cell (World.block_lt_of_cell? _ _ (h.1 c hc))).trans (h.1 c hc), fun i hi => ⟨(hb.cell (World.block_lt_of_cell? _ _ (h.2 i hi).1)).trans (h.2 i hi).1, (hb.cell (World.block_lt_of_cell? _ _ (h.2 i hi).2)).trans (h.2 i hi).2⟩⟩
theorem map_any (s : ByteArray) (hs : s.size ≤ 1000000) (w : World) (hT : Tb w) : Calls Tryz.prog 113 #[.func (.func 114) #[] #[], .string s] w fun e w' => e = .returned (.string ⟨(smL s.data.toList).toArray⟩) ∧ Below w.heap.size w w' :=
  Any.strings_Map_runes Tryz.lays230 ext230 114 #[] (enters_of Tryz.func114 (by kernel_rfl) rfl) fS s w (by omega) (fun W x hx _ => (small1_any x hx W).mono (fun e w' h => ⟨h.1, 0, h.2⟩)) fS_range hT
set_option maxRecDepth 10000 in
set_option maxHeartbeats 400000 in
theorem small_any (p : List UInt8) (hp : p.length ≤ 1000000) (w : World) (hT : Tb w) : Calls Tryz.prog 76 #[.string (strOf p)] w fun e w' => e = .returned (.string (strOf (smL p))) ∧ Below w.heap.size w w' := by
  have h := map_any (strOf p) (by rw [strOf_size]; exact hp) w hT
  rw [strOf_data] at h
  have HC : Hid (Calls Tryz.prog 113 #[.func (.func 114) #[] #[], .string (strOf p)] w fun e w' => e = .returned (.string (strOf (smL p))) ∧ Below w.heap.size w w') := hid0 h
  clear h hT
  generalize strOf (smL p) = Y at *
  generalize strOf p = S at *
  go_enter Tryz.func76, Tryz.ntmps76
  go_wp2_with (go_at_call 113; refine HC.out.mono ?_; rintro e w1 ⟨rfl, hb⟩)
  go_ret
  exact ⟨rfl, hb⟩
end Go.Proofs.YtbdjnmbhphflbaaGreatDoor
