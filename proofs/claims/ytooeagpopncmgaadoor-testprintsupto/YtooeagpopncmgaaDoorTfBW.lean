/-
  The document's MayBe (stage 23).
-/
import Derived.Test.YtooeagpopncmgaaDoorTfAW
namespace Go.Proofs.YtooeagpopncmgaaDoor
open Go.RowKit Go.Shelf
set_option maxRecDepth 10000 in
set_option maxHeartbeats 3200000 in
theorem refMayBe_any (P B : List Int) (aP aB : Option Addr) (cP cB : Nat) (w : World) (hl : P.length ≤ 1000000000) (hb : B.length ≤ 1000000000) (hP : IA w aP P) (hB : IA w aB B) :
    Calls Tryd.prog 14 #[.agg #[.slice aP P.length cP, .slice aB B.length cB]] w fun e w' => e = .returned (.bool (mayC P B)) ∧ Hid (Below w.heap.size w w') := by
  obtain ⟨w0, hw0⟩ : ∃ w0, w0 = w.alloc (.cells #[.slice aP P.length cP, .slice aB B.length cB] 36) := ⟨_, rfl⟩
  have hb0 : Below w.heap.size w w0 := by rw [hw0]; exact (Below.refl _ _).alloc (Nat.le_refl _) _
  have hr0 : w0.heap[w.heap.size]? = some (.cells #[.slice aP P.length cP, .slice aB B.length cB] 36 (0, 0)) := by rw [hw0]; exact heap_alloc_new w _
  have x0 : w0.cell? ⟨w.heap.size, 0, none⟩ = some (.slice aP P.length cP) := by rw [cell_of_row _ _ _ _ _ _ hr0]; rfl
  have x1 : w0.cell? ⟨w.heap.size, 1, none⟩ = some (.slice aB B.length cB) := by rw [cell_of_row _ _ _ _ _ _ hr0]; rfl
  have HS := hid0 (refScalars_any P aP cP w0 hl (hP.past hb0))
  have HA := hid0 (hB.past hb0)
  have HB0 := hid0 hb0
  have hfold := hw0.symm
  have HM : Hid (mayC P B = (P.all scalarP && riseF ((P.length : Int) + 1) 0 B)) := hid0 rfl
  obtain ⟨m, hm⟩ : ∃ m, m = B.length := ⟨_, rfl⟩
  have HN := hid0 hm
  have H0 : Hid (riseF ((P.length : Int) + 1) 0 B = riseF ((P.length : Int) + 1) ((-1 : Int) + 1) (B.drop 0)) := hid0 rfl
  rw [← hm] at hb x1 hfold ⊢
  clear hw0 hb0 hr0 hP hB hm
  generalize mayC P B = mm at *
  generalize P.length = n at *
  generalize P.all scalarP = al at *
  go_enter Tryd.func14, Tryd.ntmps14
  go_wp2_with (go_at_call 24; go_loud ((refine HS.out.mono ?_; rintro e w1 ⟨rfl, q1, hw1⟩; subst hw1)))
  clear hfold
  go_loopw [4] (fun v wr => ∃ (k : Nat) (z : Int), k ≤ m ∧ v = .int .i64 (k : Int) ∧ -1 ≤ z ∧ z ≤ 1000000000 ∧ Hid ((k = 0 → z = -1) ∧ ∀ (_h0 : 0 < k) (h : k - 1 < B.length), B[k - 1] = z) ∧ Hid (riseF ((n : Int) + 1) 0 B = riseF ((n : Int) + 1) (z + 1) (B.drop k)) ∧ ∃ q, wr = w0.drewN q) (fun v _ => m - (intOf v).toNat)
  case atStart => exact ⟨0, -1, Nat.zero_le _, rfl, by omega, by omega, hid0 ⟨fun _ => rfl, fun h => absurd h (Nat.lt_irrefl _)⟩, H0, _, rfl⟩
  case round =>
    clear H0
    obtain ⟨k, z, hk, rfl, hz1, hz2, HZ, HR, q, rfl⟩ := hrel
    by_cases hlt : k < m
    · have hkI : (k : Int) < (m : Int) := by omega
      have hkI0 : (0 : Int) ≤ (k : Int) := by omega
      have hkr : k < B.length := by rw [← HN.out]; exact hlt
      obtain ⟨b, off, rfl, _, d0⟩ := HA.out.at' k hkr
      have hd := riseF_drop (cnt := (n : Int) + 1) (lo := z + 1) hkr
      obtain ⟨y, hy⟩ : ∃ y, y = B[k] := ⟨_, rfl⟩
      have HY := hid0 hy
      rw [← hy] at d0 hd
      have HD := hid0 hd
      clear hd hy
      by_cases h1 : y < 0
      · have HF : Hid (mm = false) := hid0 (by rw [HM.out, HR.out, HD.out, decide_eq_false (p := z + 1 ≤ y) (by omega)]; simp)
        have e1 : decide (y < 0) = true := decide_eq_true h1
        clear HR HD HZ
        go_wp2
        go_quiet ((fail))
        go_wp2
        go_ret
        exact ⟨by rw [HF.out]; rfl, hid0 (below_drew' (below_drew' HB0.out _) _)⟩
      · have e1 : decide (y < 0) = false := decide_eq_false h1
        by_cases h2 : y > (n : Int)
        · have e2 : decide (y > (n : Int)) = true := decide_eq_true h2
          have HF : Hid (mm = false) := hid0 (by rw [HM.out, HR.out, HD.out, decide_eq_false (p := y < (n : Int) + 1) (by omega)]; simp)
          clear HR HD HZ
          go_wp2
          go_quiet ((fail))
          go_wp2
          go_ret
          exact ⟨by rw [HF.out]; rfl, hid0 (below_drew' (below_drew' HB0.out _) _)⟩
        · have e2 : decide (y > (n : Int)) = false := decide_eq_false h2
          by_cases h3 : k = 0
          · subst h3
            have hz : z = -1 := HZ.out.1 rfl
            have HF : Hid (riseF ((n : Int) + 1) 0 B = riseF ((n : Int) + 1) (y + 1) (B.drop (0 + 1))) := hid0 (by rw [HR.out, HD.out, decide_eq_true (p := z + 1 ≤ y) (by omega), decide_eq_true (p := y < (n : Int) + 1) (by omega)]; rfl)
            have HZ2 : Hid ((0 + 1 = 0 → y = -1) ∧ ∀ (_h0 : 0 < 0 + 1) (h : 0 + 1 - 1 < B.length), B[0 + 1 - 1] = y) := hid0 ⟨fun e => by omega, fun _ _ => HY.out.symm⟩
            have d0' : w0.cell? ⟨b, off, none⟩ = some (.int .i64 y) := d0
            clear HR HD HZ
            go_wp2
            go_quiet ((fail))
            go_wp2
            go_roundw
            case rel => exact ⟨0 + 1, y, by omega, by go_num, by omega, by omega, HZ2, HF, _, rfl⟩
            case measure => simp [intOf]; omega
          · have hk1 : k - 1 < B.length := by omega
            obtain ⟨b2, off2, eb, _, d1⟩ := HA.out.at' (k - 1) hk1
            cases eb
            rw [HZ.out.2 (by omega) hk1] at d1
            obtain ⟨k1, hk1e⟩ : ∃ k1, k = k1 + 1 := ⟨k - 1, by omega⟩
            subst hk1e
            have d1' : w0.cell? ⟨b, off + k1, none⟩ = some (.int .i64 z) := d1
            have hw1 : IntKind.i64.wrap ((k1 : Int) + 1 - 1) = (k1 : Int) := by rw [IntKind.wrap_i64]; omega
            have e3 : decide (((k1 + 1 : Nat) : Int) > 0) = true := decide_eq_true (by omega)
            have e3N : decide (0 < k1 + 1) = true := decide_eq_true (by omega)
            have hk1I0 : (0 : Int) ≤ (k1 : Int) := by omega
            have hk1I : (k1 : Int) < (m : Int) := by omega
            by_cases h4 : y ≤ z
            · have e4 : decide (y ≤ z) = true := decide_eq_true h4
              have HF : Hid (mm = false) := hid0 (by rw [HM.out, HR.out, HD.out, decide_eq_false (p := z + 1 ≤ y) (by omega)]; simp)
              clear HR HD HZ d1
              go_wp2
              go_quiet ((fail))
              go_wp2
              go_ret
              exact ⟨by rw [HF.out]; rfl, hid0 (below_drew' (below_drew' HB0.out _) _)⟩
            · have e4 : decide (y ≤ z) = false := decide_eq_false h4
              have HF : Hid (riseF ((n : Int) + 1) 0 B = riseF ((n : Int) + 1) (y + 1) (B.drop (k1 + 1 + 1))) := hid0 (by rw [HR.out, HD.out, decide_eq_true (p := z + 1 ≤ y) (by omega), decide_eq_true (p := y < (n : Int) + 1) (by omega)]; rfl)
              have HZ2 : Hid ((k1 + 1 + 1 = 0 → y = -1) ∧ ∀ (_h0 : 0 < k1 + 1 + 1) (h : k1 + 1 + 1 - 1 < B.length), B[k1 + 1 + 1 - 1] = y) := hid0 ⟨fun e => by omega, fun _ _ => HY.out.symm⟩
              clear HR HD HZ d1
              go_wp2
              go_quiet ((fail))
              go_wp2
              go_roundw
              case rel => exact ⟨k1 + 1 + 1, y, by omega, by go_num, by omega, by omega, HZ2, HF, _, rfl⟩
              case measure => simp [intOf]; omega
    · have hkI : ¬ (k : Int) < (m : Int) := by omega
      have HF : Hid (mm = al) := hid0 (by rw [HM.out, HR.out, riseF_end (by have := HN.out; omega), Bool.and_true])
      clear HR
      go_wp2
      go_ret
      exact ⟨by rw [HF.out]; rfl, hid0 (below_drew' HB0.out _)⟩
end Go.Proofs.YtooeagpopncmgaaDoor
