/-
  StandardTexts: the law (stage 24).
-/
import Derived.Test.YtooeagpopncmgaaSxBW
import Derived.Lay
import Derived.LaidMore
namespace Go.Proofs.Ytooeagpopncmgaa
open Go.RowKit Go.Shelf
set_option maxRecDepth 100000 in
set_option maxHeartbeats 6400000 in
theorem standardTexts_walk (w : World) : Calls Try.prog 3 #[] w fun e w' => e = .returned (.bool true) ∧ Below w.heap.size w w' := by
  have H1 := hid0 standardSentences_any
  have H2 := hid0 caesuraref24Sentences_any
  have H3 := hid0 standardWords_any
  have H4 := hid0 caesuraref24Words_any
  have H5 := hid0 standardClusters_any
  have H6 := hid0 caesuraref24Clusters_any
  have H7 := hid0 (fun W (h : Below w.heap.size w W) => (standardProperty_any W).mono fun e w' (hh : _ ∧ _) => And.intro hh.1 (h.trans (hh.2.mono h.size)))
  have H8 := hid0 caesuraref24Property_any
  have H9 := hid0 standardBundle_any
  have HA := hid0 caesuraref24Bundle_any
  generalize tx txSentences = S1 at *
  generalize tx txWords = S2 at *
  generalize tx txClusters = S3 at *
  generalize tx txBundle = S4 at *
  generalize tx prK14 = S5 at *
  go_enter Try.func3, Try.ntmps3
  go_wp2
  go_loopw [1] (fun v wr => ∃ k : Nat, k ≤ 2 ∧ v = .int .i64 (k : Int) ∧ Hid (Below w.heap.size w wr)) (fun v _ => 2 - (intOf v).toNat)
  case atStart => exact ⟨0, Nat.zero_le _, rfl, hid0 (Below.refl _ _)⟩
  case round =>
    obtain ⟨k, hk, rfl, HB⟩ := hrel
    by_cases hlt : k < 2
    · have hkI : (k : Int) < 2 := by omega
      go_wp2_with (first
        | (go_at_call 4; refine (H1.out _).mono ?_; rintro e x1 ⟨rfl, rfl⟩)
        | (go_at_call 5; refine (H2.out _).mono ?_; rintro e x2 ⟨rfl, rfl⟩)
        | (go_at_call 6; refine (H3.out _).mono ?_; rintro e x3 ⟨rfl, rfl⟩)
        | (go_at_call 7; refine (H4.out _).mono ?_; rintro e x4 ⟨rfl, rfl⟩)
        | (go_at_call 8; refine (H5.out _).mono ?_; rintro e x5 ⟨rfl, rfl⟩)
        | (go_at_call 9; refine (H6.out _).mono ?_; rintro e x6 ⟨rfl, rfl⟩)
        | (go_at_call 10; refine (H7.out _ HB.out).mono ?_; rintro e x7 ⟨rfl, hb⟩; have HB2 := hid0 hb; clear hb)
        | (go_at_call 11; refine (H8.out _).mono ?_; rintro e x8 ⟨rfl, rfl⟩)
        | (go_at_call 12; refine (H9.out _).mono ?_; rintro e x9 ⟨rfl, rfl⟩)
        | (go_at_call 13; refine (HA.out _).mono ?_; rintro e xa ⟨rfl, rfl⟩)
        | fail)
      go_roundw
      case rel => exact ⟨k + 1, by omega, by go_num, HB2⟩
      case measure => simp [intOf]; omega
    · have hkI : ¬ (k : Int) < 2 := by omega
      go_wp2
      go_ret
      exact ⟨rfl, HB.out⟩
set_option maxRecDepth 100000 in
theorem standardTexts_lifted (os : Os) (started : os.Started) (H : Type) (enc : TypeId × Value → H) (F : Stop.Interp) :
    ReturnsInHanded {} Try.checked os 3 .any ((OpenSpec.ofChange Rows.standardTextsSpec).preRow enc Try.prog Try.f3 Rows.standardTextsRow.domain false Rows.standardTextsRow.laid) (((OpenSpec.ofChange Rows.standardTextsSpec).at F).post enc Try.prog Try.f3 false true false false) := by
  refine returnsInHanded_of_row (C := Try.checked) (s := OpenSpec.ofChange Rows.standardTextsSpec) own started (by kernel_rfl) Try.func3
    (witness_row_shaped (enc := enc) (C := Try.checked) (World.laidAll Try.prog os Rows.standardTextsRow.laid) #[] (World.laidAll_os _ _ _) (World.shaped_of_ZipB (by kernel_rfl) (by kernel_rfl)) (by kernel_rfl)
      (OpenSpec.preRow_of_cond 8 (x := ([], [], [])) (by kernel_rfl) (by kernel_rfl) (fun k hk => by cases hk) (by kernel_rfl) (laidMet_laidAll _ (by kernel_rfl) (by kernel_rfl)))) ?_
  intro W base args ds gs before hval hW _ _ hsz _ _ _
  exact law_contract0 rfl rfl rfl (fun _ => rfl) W args ds gs before hW (standardTexts_walk W)
theorem standardTexts_said : Rows.StandardTextsSaid :=
  OpenClaim.holds_of_cond 3 Try.f3 rfl rfl rfl rfl rfl rfl rfl ⟨rfl, rfl, rfl, rfl, rfl⟩ rfl rfl rfl rfl rfl (by kernel_rfl) Try.func3 (by kernel_rfl)
    (of_decide_eq_true (by kernel_rfl)) (by unfold Func.isWrapper; first | (rw [if_pos (by decide +kernel)]; kernel_rfl) | (rw [if_neg (by decide +kernel)]; exact ⟨rfl, rfl⟩))
    (fun os started H enc _ F => by rw [OpenClaim.pre_eq_preRow]; exact standardTexts_lifted os started H enc F)
end Go.Proofs.Ytooeagpopncmgaa
