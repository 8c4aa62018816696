/-
  The document's short line (stage 23; written by TfEW.py).
-/
import Derived.Test.YtooeagpopncmgaaDoorTfBW
import Derived.Test.YtooeagpopncmgaaDoorTfDW
namespace Go.Proofs.YtooeagpopncmgaaDoor
open Go.RowKit Go.Shelf
/-- The document's short line, at the head of its loop. -/
def hdF (P B : List Int) (i : Nat) : List UInt8 := if i ≤ P.length then preF P B i else shF P B P.length
theorem hdF_lt (P B : List Int) (i : Nat) (h : i < P.length) : hdF P B (i + 1) = hdF P B i ++ mkF B i ++ [32] ++ hx (P.getD i 0).toNat ++ [32] := by
  unfold hdF
  rw [if_pos (by omega), if_pos (by omega), preF, sh_pre]
theorem hdF_end (P B : List Int) : hdF P B (P.length + 1) = hdF P B P.length ++ mkF B P.length := by
  unfold hdF
  rw [if_neg (by omega), if_pos (Nat.le_refl _), sh_pre]
theorem hdF_fin (P B : List Int) : hdF P B (P.length + 1) = shF P B P.length := by
  unfold hdF
  rw [if_neg (by omega)]
theorem hdF_len (P B : List Int) (i : Nat) (h : i ≤ P.length) : (hdF P B i).length ≤ 10 * P.length := by
  unfold hdF
  rw [if_pos h]
  exact Nat.le_trans (pre_len P B i) (by omega)
theorem strT (l : List UInt8) : (⟨l.toArray⟩ : ByteArray).size = l.length := List.size_toArray
theorem lit1 (a : UInt8) : (⟨#[a]⟩ : ByteArray) = ⟨[a].toArray⟩ := rfl
theorem lit2 (a b : UInt8) : (⟨#[a, b]⟩ : ByteArray) = ⟨[a, b].toArray⟩ := rfl
/-- The inner facts of a point. -/
theorem mayC_pt {P B : List Int} (h : mayC P B = true) (i : Nat) (hi : i < P.length) : 0 ≤ P[i] ∧ P[i] ≤ 1114111 := by
  unfold mayC at h
  simp only [Bool.and_eq_true] at h
  have := List.all_eq_true.1 h.1 _ (List.getElem_mem hi)
  unfold scalarP at this
  simp at this
  omega
theorem mayC_rise {P B : List Int} (h : mayC P B = true) : riseF ((P.length : Int) + 1) 0 B = true := by
  unfold mayC at h
  simp only [Bool.and_eq_true] at h
  exact h.2
set_option maxRecDepth 10000 in
set_option maxHeartbeats 6400000 in
theorem refShort_any (P B : List Int) (aP aB : Option Addr) (cP cB : Nat) (w : World) (hl : P.length ≤ 20000000) (hb : B.length ≤ 1000000000) (hP : IA w aP P) (hB : IA w aB B) (hm : mayC P B = true) :
    Calls Tryd.prog 15 #[.agg #[.slice aP P.length cP, .slice aB B.length cB]] w fun e w' => e = .returned (.string ⟨(shF P B P.length).toArray⟩) ∧ Hid (Below w.heap.size w w') := by
  obtain ⟨w0, hw0⟩ : ∃ w0, w0 = w.alloc (.cells #[.slice aP P.length cP, .slice aB B.length cB] 36) := ⟨_, rfl⟩
  have hb0 : Below w.heap.size w w0 := by rw [hw0]; exact (Below.refl _ _).alloc (Nat.le_refl _) _
  have hr0 : w0.heap[w.heap.size]? = some (.cells #[.slice aP P.length cP, .slice aB B.length cB] 36 (0, 0)) := by rw [hw0]; exact heap_alloc_new w _
  have x0 : w0.cell? ⟨w.heap.size, 0, none⟩ = some (.slice aP P.length cP) := by rw [cell_of_row _ _ _ _ _ _ hr0]; rfl
  have x1 : w0.cell? ⟨w.heap.size, 1, none⟩ = some (.slice aB B.length cB) := by rw [cell_of_row _ _ _ _ _ _ hr0]; rfl
  have HAP := hid0 (hP.past hb0)
  have HAB := hid0 (hB.past hb0)
  have HB0 := hid0 hb0
  have hfold := hw0.symm
  have HMy := hid0 hm
  have HR := hid0 (mayC_rise hm)
  have HFin := hid0 (hdF_fin P B)
  have HEnd := hid0 (hdF_end P B)
  have H0 : Hid ((⟨(hdF P B 0).toArray⟩ : ByteArray) = ⟨#[]⟩) := hid0 rfl
  obtain ⟨n, hn⟩ : ∃ n, n = P.length := ⟨_, rfl⟩
  obtain ⟨m, hmm⟩ : ∃ m, m = B.length := ⟨_, rfl⟩
  have HN := hid0 hn
  have HM := hid0 hmm
  rw [← hn] at hl x0 hfold HFin HEnd ⊢
  rw [← hmm] at hb x1 hfold ⊢
  clear hw0 hb0 hr0 hP hB hm hn hmm
  go_enter Tryd.func15, Tryd.ntmps15
  go_wp2
  clear hfold
  go_loopw [3, 4, 5] (fun s k i wr => ∃ (j c : Nat), j ≤ n + 1 ∧ i = .int .i64 (j : Int) ∧ k = .int .i64 (c : Int) ∧ Hid (BkI B j c) ∧ Hid (s = .string ⟨(hdF P B j).toArray⟩) ∧ ∃ q, wr = w0.drewN q) (fun _ _ i _ => n + 1 - (intOf i).toNat)
  case atStart => exact ⟨0, 0, Nat.zero_le _, rfl, rfl, hid0 (bk_start HR.out), hid0 (by rw [H0.out]), 0, rfl⟩
  case round =>
    clear H0
    obtain ⟨j, c, hj, rfl, rfl, HK, HS, q, rfl⟩ := hrel
    have hcm : c ≤ m := by have := HK.out.le; have := HM.out; omega
    by_cases hjl : j < n
    · have hjI : (j : Int) < (n : Int) := by omega
      have hjI0 : (0 : Int) ≤ (j : Int) := by omega
      have hjI1 : (j : Int) ≤ (n : Int) := by omega
      have hjr : j < P.length := by rw [← HN.out]; exact hjl
      by_cases hc : c < m
      · have hcI : (c : Int) < (m : Int) := by omega
        have hcI0 : (0 : Int) ≤ (c : Int) := by omega
        have hcr : c < B.length := by rw [← HM.out]; exact hc
        by_cases hy : B[c] = (j : Int)
        · obtain ⟨hmk, hbk⟩ := bk_yes HR.out HK.out hcr hy
          have HK2 := hid0 hbk
          obtain ⟨bb, ob, eb, _, db⟩ := HAB.out.at' c hcr
          subst eb
          rw [hy] at db
          obtain ⟨bp, op, ep, _, dp⟩ := HAP.out.at' j hjr
          subst ep
          have hp := mayC_pt HMy.out j hjr
          have hgd : P.getD j 0 = P[j] := by rw [List.getD_eq_getElem?_getD, List.getElem?_eq_getElem hjr]; rfl
          have hst := hdF_lt P B j hjr
          rw [hgd, hmk] at hst
          obtain ⟨x, hxv⟩ : ∃ x, x = P[j] := ⟨_, rfl⟩
          rw [← hxv] at dp hp hst
          obtain ⟨z, hz⟩ : ∃ z : Nat, x = (z : Int) := ⟨x.toNat, by omega⟩
          subst hz
          have hz2 : z ≤ 1114111 := by omega
          have HHx := hid0 (fun W => refHex_any z W hz2)
          have hzt : ((z : Nat) : Int).toNat = z := rfl
          rw [hzt] at hst
          have HX : Hid ((⟨(hdF P B j).toArray⟩ : ByteArray) ++ ⟨#[195, 183]⟩ ++ ⟨#[32]⟩ ++ ⟨(hx z).toArray⟩ ++ ⟨#[32]⟩ = ⟨(hdF P B (j + 1)).toArray⟩) := hid0 (by rw [lit2, lit1, app_arrT, app_arrT, app_arrT, app_arrT, hst])
          have hH6 : (⟨(hx z).toArray⟩ : ByteArray).size ≤ 6 := by rw [strT]; exact hx_len6 z
          clear hxv hst hgd
          generalize (⟨(hx z).toArray⟩ : ByteArray) = H at *
          obtain ⟨T, hT⟩ : ∃ T, T = (⟨(hdF P B j).toArray⟩ : ByteArray) := ⟨_, rfl⟩
          rw [← hT] at HS HX
          have hTz : T.size ≤ 200000000 := by rw [hT, strT]; have := hdF_len P B j (by have := HN.out; omega); have := HN.out; omega
          have HSt := HS.out
          subst HSt
          clear hT hmk hbk HS
          have g2 : ¬ 9223372036854775807 < T.size + 2 := by omega
          have g3 : ¬ 9223372036854775807 < T.size + 3 := by omega
          have g3b : ¬ 9223372036854775807 < T.size + 2 + 1 := by omega
          have g4 : ¬ 9223372036854775807 < T.size + 3 + H.size := by omega
          have g4b : ¬ 9223372036854775807 < T.size + 2 + 1 + H.size := by omega
          have g5 : ¬ 9223372036854775807 < T.size + 3 + H.size + 1 := by omega
          have g5b : ¬ 9223372036854775807 < T.size + 2 + 1 + H.size + 1 := by omega
          go_wp2_with (go_at_call 25; go_loud ((refine (HHx.out _).mono ?_; rintro e w1 ⟨rfl, q1, rfl⟩)))
          go_roundw
          case rel => exact ⟨j + 1, c + 1, by omega, by go_num, by first | rfl | go_num, HK2, hid0 (by rw [HX.out]), _, rfl⟩
          case measure => simp [intOf]; omega
        · obtain ⟨hmk, hbk⟩ := bk_no HR.out HK.out (fun hk => hy)
          have HK2 := hid0 hbk
          obtain ⟨bb, ob, eb, _, db⟩ := HAB.out.at' c hcr
          subst eb
          obtain ⟨y, hyv⟩ : ∃ y, y = B[c] := ⟨_, rfl⟩
          rw [← hyv] at db hy
          clear hyv
          have e2 : (y == (j : Int)) = false := by simp [hy]
          obtain ⟨bp, op, ep, _, dp⟩ := HAP.out.at' j hjr
          subst ep
          have hp := mayC_pt HMy.out j hjr
          have hgd : P.getD j 0 = P[j] := by rw [List.getD_eq_getElem?_getD, List.getElem?_eq_getElem hjr]; rfl
          have hst := hdF_lt P B j hjr
          rw [hgd, hmk] at hst
          obtain ⟨x, hxv⟩ : ∃ x, x = P[j] := ⟨_, rfl⟩
          rw [← hxv] at dp hp hst
          obtain ⟨z, hz⟩ : ∃ z : Nat, x = (z : Int) := ⟨x.toNat, by omega⟩
          subst hz
          have hz2 : z ≤ 1114111 := by omega
          have HHx := hid0 (fun W => refHex_any z W hz2)
          have hzt : ((z : Nat) : Int).toNat = z := rfl
          rw [hzt] at hst
          have HX : Hid ((⟨(hdF P B j).toArray⟩ : ByteArray) ++ ⟨#[195, 151]⟩ ++ ⟨#[32]⟩ ++ ⟨(hx z).toArray⟩ ++ ⟨#[32]⟩ = ⟨(hdF P B (j + 1)).toArray⟩) := hid0 (by rw [lit2, lit1, app_arrT, app_arrT, app_arrT, app_arrT, hst])
          have hH6 : (⟨(hx z).toArray⟩ : ByteArray).size ≤ 6 := by rw [strT]; exact hx_len6 z
          clear hxv hst hgd
          generalize (⟨(hx z).toArray⟩ : ByteArray) = H at *
          obtain ⟨T, hT⟩ : ∃ T, T = (⟨(hdF P B j).toArray⟩ : ByteArray) := ⟨_, rfl⟩
          rw [← hT] at HS HX
          have hTz : T.size ≤ 200000000 := by rw [hT, strT]; have := hdF_len P B j (by have := HN.out; omega); have := HN.out; omega
          have HSt := HS.out
          subst HSt
          clear hT hmk hbk HS
          have g2 : ¬ 9223372036854775807 < T.size + 2 := by omega
          have g3 : ¬ 9223372036854775807 < T.size + 3 := by omega
          have g3b : ¬ 9223372036854775807 < T.size + 2 + 1 := by omega
          have g4 : ¬ 9223372036854775807 < T.size + 3 + H.size := by omega
          have g4b : ¬ 9223372036854775807 < T.size + 2 + 1 + H.size := by omega
          have g5 : ¬ 9223372036854775807 < T.size + 3 + H.size + 1 := by omega
          have g5b : ¬ 9223372036854775807 < T.size + 2 + 1 + H.size + 1 := by omega
          go_wp2_with (go_at_call 25; go_loud ((refine (HHx.out _).mono ?_; rintro e w1 ⟨rfl, q1, rfl⟩)))
          go_roundw
          case rel => exact ⟨j + 1, c, by omega, by go_num, by first | rfl | go_num, HK2, hid0 (by rw [HX.out]), _, rfl⟩
          case measure => simp [intOf]; omega
      · have hcI : ¬ (c : Int) < (m : Int) := by omega
        obtain ⟨hmk, hbk⟩ := bk_no HR.out HK.out (fun hk => absurd hk (by have := HM.out; omega))
        have HK2 := hid0 hbk
        obtain ⟨bp, op, ep, _, dp⟩ := HAP.out.at' j hjr
        subst ep
        have hp := mayC_pt HMy.out j hjr
        have hgd : P.getD j 0 = P[j] := by rw [List.getD_eq_getElem?_getD, List.getElem?_eq_getElem hjr]; rfl
        have hst := hdF_lt P B j hjr
        rw [hgd, hmk] at hst
        obtain ⟨x, hxv⟩ : ∃ x, x = P[j] := ⟨_, rfl⟩
        rw [← hxv] at dp hp hst
        obtain ⟨z, hz⟩ : ∃ z : Nat, x = (z : Int) := ⟨x.toNat, by omega⟩
        subst hz
        have hz2 : z ≤ 1114111 := by omega
        have HHx := hid0 (fun W => refHex_any z W hz2)
        have hzt : ((z : Nat) : Int).toNat = z := rfl
        rw [hzt] at hst
        have HX : Hid ((⟨(hdF P B j).toArray⟩ : ByteArray) ++ ⟨#[195, 151]⟩ ++ ⟨#[32]⟩ ++ ⟨(hx z).toArray⟩ ++ ⟨#[32]⟩ = ⟨(hdF P B (j + 1)).toArray⟩) := hid0 (by rw [lit2, lit1, app_arrT, app_arrT, app_arrT, app_arrT, hst])
        have hH6 : (⟨(hx z).toArray⟩ : ByteArray).size ≤ 6 := by rw [strT]; exact hx_len6 z
        clear hxv hst hgd
        generalize (⟨(hx z).toArray⟩ : ByteArray) = H at *
        obtain ⟨T, hT⟩ : ∃ T, T = (⟨(hdF P B j).toArray⟩ : ByteArray) := ⟨_, rfl⟩
        rw [← hT] at HS HX
        have hTz : T.size ≤ 200000000 := by rw [hT, strT]; have := hdF_len P B j (by have := HN.out; omega); have := HN.out; omega
        have HSt := HS.out
        subst HSt
        clear hT hmk hbk HS
        have g2 : ¬ 9223372036854775807 < T.size + 2 := by omega
        have g3 : ¬ 9223372036854775807 < T.size + 3 := by omega
        have g3b : ¬ 9223372036854775807 < T.size + 2 + 1 := by omega
        have g4 : ¬ 9223372036854775807 < T.size + 3 + H.size := by omega
        have g4b : ¬ 9223372036854775807 < T.size + 2 + 1 + H.size := by omega
        have g5 : ¬ 9223372036854775807 < T.size + 3 + H.size + 1 := by omega
        have g5b : ¬ 9223372036854775807 < T.size + 2 + 1 + H.size + 1 := by omega
        go_wp2_with (go_at_call 25; go_loud ((refine (HHx.out _).mono ?_; rintro e w1 ⟨rfl, q1, rfl⟩)))
        go_roundw
        case rel => exact ⟨j + 1, c, by omega, by go_num, by first | rfl | go_num, HK2, hid0 (by rw [HX.out]), _, rfl⟩
        case measure => simp [intOf]; omega
    · by_cases hjn : j = n
      · have hjI : ¬ (j : Int) < (n : Int) := by omega
        have hjI1 : (j : Int) ≤ (n : Int) := by omega
        by_cases hc : c < m
        · have hcI : (c : Int) < (m : Int) := by omega
          have hcI0 : (0 : Int) ≤ (c : Int) := by omega
          have hcr : c < B.length := by rw [← HM.out]; exact hc
          by_cases hy : B[c] = (j : Int)
          · obtain ⟨hmk, hbk⟩ := bk_yes HR.out HK.out hcr hy
            have HK2 := hid0 hbk
            obtain ⟨bb, ob, eb, _, db⟩ := HAB.out.at' c hcr
            subst eb
            rw [hy] at db
            have HX : Hid ((⟨(hdF P B j).toArray⟩ : ByteArray) ++ ⟨#[195, 183]⟩ = ⟨(hdF P B (j + 1)).toArray⟩) := hid0 (by rw [lit2, app_arrT, hjn, HEnd.out, ← hjn, hmk])
            obtain ⟨T, hT⟩ : ∃ T, T = (⟨(hdF P B j).toArray⟩ : ByteArray) := ⟨_, rfl⟩
            rw [← hT] at HS HX
            have hTz : T.size ≤ 200000000 := by rw [hT, strT]; have := hdF_len P B j (by have := HN.out; omega); have := HN.out; omega
            have HSt := HS.out
            subst HSt
            clear hT hmk hbk HS
            have g2 : ¬ 9223372036854775807 < T.size + 2 := by omega
            go_wp2
            go_roundw
            case rel => exact ⟨j + 1, c + 1, by omega, by go_num, by first | rfl | go_num, HK2, hid0 (by rw [HX.out]), _, rfl⟩
            case measure => simp [intOf]; omega
          · obtain ⟨hmk, hbk⟩ := bk_no HR.out HK.out (fun hk => hy)
            have HK2 := hid0 hbk
            obtain ⟨bb, ob, eb, _, db⟩ := HAB.out.at' c hcr
            subst eb
            obtain ⟨y, hyv⟩ : ∃ y, y = B[c] := ⟨_, rfl⟩
            rw [← hyv] at db hy
            clear hyv
            have e2 : (y == (j : Int)) = false := by simp [hy]
            have HX : Hid ((⟨(hdF P B j).toArray⟩ : ByteArray) ++ ⟨#[195, 151]⟩ = ⟨(hdF P B (j + 1)).toArray⟩) := hid0 (by rw [lit2, app_arrT, hjn, HEnd.out, ← hjn, hmk])
            obtain ⟨T, hT⟩ : ∃ T, T = (⟨(hdF P B j).toArray⟩ : ByteArray) := ⟨_, rfl⟩
            rw [← hT] at HS HX
            have hTz : T.size ≤ 200000000 := by rw [hT, strT]; have := hdF_len P B j (by have := HN.out; omega); have := HN.out; omega
            have HSt := HS.out
            subst HSt
            clear hT hmk hbk HS
            have g2 : ¬ 9223372036854775807 < T.size + 2 := by omega
            go_wp2
            go_roundw
            case rel => exact ⟨j + 1, c, by omega, by go_num, by first | rfl | go_num, HK2, hid0 (by rw [HX.out]), _, rfl⟩
            case measure => simp [intOf]; omega
        · have hcI : ¬ (c : Int) < (m : Int) := by omega
          obtain ⟨hmk, hbk⟩ := bk_no HR.out HK.out (fun hk => absurd hk (by have := HM.out; omega))
          have HK2 := hid0 hbk
          have HX : Hid ((⟨(hdF P B j).toArray⟩ : ByteArray) ++ ⟨#[195, 151]⟩ = ⟨(hdF P B (j + 1)).toArray⟩) := hid0 (by rw [lit2, app_arrT, hjn, HEnd.out, ← hjn, hmk])
          obtain ⟨T, hT⟩ : ∃ T, T = (⟨(hdF P B j).toArray⟩ : ByteArray) := ⟨_, rfl⟩
          rw [← hT] at HS HX
          have hTz : T.size ≤ 200000000 := by rw [hT, strT]; have := hdF_len P B j (by have := HN.out; omega); have := HN.out; omega
          have HSt := HS.out
          subst HSt
          clear hT hmk hbk HS
          have g2 : ¬ 9223372036854775807 < T.size + 2 := by omega
          go_wp2
          go_roundw
          case rel => exact ⟨j + 1, c, by omega, by go_num, by first | rfl | go_num, HK2, hid0 (by rw [HX.out]), _, rfl⟩
          case measure => simp [intOf]; omega
      · have hjI1 : ¬ (j : Int) ≤ (n : Int) := by omega
        have HF : Hid ((⟨(hdF P B j).toArray⟩ : ByteArray) = ⟨(shF P B n).toArray⟩) := hid0 (by have hj1 : j = n + 1 := by omega
                                                                                                rw [hj1, HFin.out])
        have HSt := HS.out
        rw [HF.out] at HSt
        subst HSt
        clear HS
        go_wp2
        go_ret
        exact ⟨rfl, hid0 (below_drew' HB0.out _)⟩
end Go.Proofs.YtooeagpopncmgaaDoor
