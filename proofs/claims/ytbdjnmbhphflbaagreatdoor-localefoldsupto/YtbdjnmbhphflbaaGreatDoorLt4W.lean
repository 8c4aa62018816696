/-
  The walks of caesuraref6's Tag, caesuraref7's Canon, cut, Cut.
-/
import Derived.Test.YtbdjnmbhphflbaaGreatDoorLt3W
import Derived.Shelf.Strings.LastIndex
namespace Go.Proofs.YtbdjnmbhphflbaaGreatDoor
open Go.RowKit Go.Shelf Go.Lib
def rootB : ByteArray := ⟨#[114, 111, 111, 116]⟩
def strOf (l : List UInt8) : ByteArray := ⟨l.toArray⟩
theorem strOf_data (l : List UInt8) : (strOf l).data.toList = l := by simp [strOf]
theorem strOf_size (l : List UInt8) : (strOf l).size = l.length := List.size_toArray
theorem strOf_app (a b : List UInt8) : strOf a ++ strOf b = strOf (a ++ b) := app_arr a b
/-- What Tag answers. -/
def tagV : Option (List UInt8) → Value
  | some c => .tuple #[.string (strOf c), .bool true]
  | none => .tuple #[.string ⟨#[]⟩, .bool false]
theorem joinU_snoc : ∀ (xs : List (List UInt8)) (y : List UInt8), xs ≠ [] → joinU (xs ++ [y]) = joinU xs ++ 95 :: y
  | [], _, h => absurd rfl h
  | [x], y, _ => by rw [List.singleton_append, joinU_cons, joinU_one, joinU_one]
  | x :: x2 :: r, y, _ => by
    have ih := joinU_snoc (x2 :: r) y (by simp)
    rw [List.cons_append, List.cons_append, joinU_cons, joinU_cons, ← List.cons_append, ih]
    simp
theorem canonP_snoc (p : List UInt8) (r : List (List UInt8)) (y : List UInt8) : canonP (p :: r ++ [y]) = canonP (p :: r) ++ [formP y] := by simp [canonP]
theorem canonP_take (l : List (List UInt8)) (k : Nat) (h1 : 1 ≤ k) (h2 : k < l.length) : canonP (l.take (k + 1)) = canonP (l.take k) ++ [formP l[k]] := by
  rw [List.take_add_one, List.getElem?_eq_getElem h2]
  cases l with
  | nil => simp at h2
  | cons p r =>
    obtain ⟨j, rfl⟩ : ∃ j, k = j + 1 := ⟨k - 1, by omega⟩
    rw [List.take_succ_cons]
    exact canonP_snoc p (r.take j) _
theorem joinU_le : ∀ (xs : List (List UInt8)), (∀ x ∈ xs, x.length ≤ 8) → (joinU xs).length ≤ 9 * xs.length
  | [], _ => by simp [joinU, Lib.join, List.intercalate]
  | [x], h => by rw [joinU_one]; have := h x (by simp); simp; omega
  | x :: x2 :: r, h => by
    have ih := joinU_le (x2 :: r) (fun y hy => h y (by simp [hy]))
    have h1 := h x (by simp)
    rw [joinU_cons]
    simp at ih ⊢
    omega
theorem canonP_le {ps : List (List UInt8)} (h : ∀ p ∈ ps, p.length ≤ 8) : ∀ p ∈ canonP ps, p.length ≤ 8 := by
  cases ps with
  | nil => simp [canonP]
  | cons q r =>
    intro p hp
    rcases List.mem_cons.1 hp with rfl | hp
    · rw [List.length_map]; exact h q (by simp)
    · obtain ⟨c, hc, rfl⟩ := List.mem_map.1 hp
      rw [formP_len]; exact h c (by simp [hc])
theorem canonP_length (ps : List (List UInt8)) : (canonP ps).length = ps.length := by cases ps <;> simp [canonP]
theorem good_le {ps : List (List UInt8)} (h : ps.all goodP = true) : ∀ p ∈ ps, p.length ≤ 8 := fun p hp => by
  have := List.all_eq_true.1 h p hp
  simp only [goodP, Bool.and_eq_true, decide_eq_true_eq] at this
  exact this.1.2
theorem pieces_count : ∀ s, (pieces s).length ≤ s.length + 1
  | [] => by simp [pieces]
  | b :: r => by
    have ih := pieces_count r
    unfold pieces
    split
    · simp; omega
    · cases hq : pieces r with
      | nil => simp
      | cons q qs => rw [hq] at ih; simp at ih ⊢; omega
theorem pieces_head_le : ∀ s, ((pieces s).headD []).length ≤ s.length
  | [] => by simp [pieces]
  | b :: r => by
    have ih := pieces_head_le r
    unfold pieces
    split
    · simp
    · cases hq : pieces r with
      | nil => simp
      | cons q qs => rw [hq] at ih; simp at ih ⊢; omega
theorem str_eq (B C : ByteArray) : (B.toList == C.toList) = decide (B = C) := by
  rw [Bool.eq_iff_iff, beq_iff_eq, decide_eq_true_eq]
  exact ⟨fun h => LastIndex.eq_of_toList h, fun h => by rw [h]⟩
theorem rootB_list : rootB.toList = [114, 111, 111, 116] := by rw [ByteArray.toList_eq]; rfl
theorem strOf_root (l : List UInt8) : strOf l = rootB ↔ l = rootL := by
  constructor
  · intro h
    have := congrArg (fun b => b.data.toList) h
    simpa [strOf, rootB, rootL] using this
  · rintro rfl; rfl
set_option maxRecDepth 10000 in
set_option maxHeartbeats 3200000 in
theorem refTag_any (s : ByteArray) (w : World) : Calls Tryz.prog 64 #[.string s] w fun e w' => e = .returned (tagV (tagF s.data.toList)) ∧ Below w.heap.size w w' := by
  have HTL : Hid (s.data.toList.length = s.size) := hid0 (by simp)
  by_cases h2 : (s.size : Int) < 2
  · have HV : Hid (tagF s.data.toList = none) := hid0 (by
      unfold tagF
      rw [if_neg]
      rintro ⟨_, hv⟩
      simp only [validP, Bool.and_eq_true, decide_eq_true_eq] at hv
      have h3 := pieces_head_le s.data.toList
      have h4 := HTL.out
      omega)
    go_enter Tryz.func64, Tryz.ntmps64
    go_wp2
    go_returns
    exact ⟨by rw [HV.out]; rfl, Below.refl _ _⟩
  · by_cases h64 : (64 : Int) < (s.size : Int)
    · have HV : Hid (tagF s.data.toList = none) := hid0 (by
        unfold tagF
        rw [if_neg]
        rintro ⟨h1, _⟩
        have h4 := HTL.out
        omega)
      go_enter Tryz.func64, Tryz.ntmps64
      go_wp2
      go_returns
      exact ⟨by rw [HV.out]; rfl, Below.refl _ _⟩
    · have HP := hid0 (refParts_any s (by omega) w)
      have HLE : Hid (s.data.toList.length ≤ 64) := hid0 (by rw [HTL.out]; omega)
      cases hg : (pieces s.data.toList).all goodP with
      | false =>
        have HP2 : Hid (Calls Tryz.prog 81 #[.string s] w fun e w' => e = .returned (.slice none 0 0) ∧ Below w.heap.size w w') := hid0 (HP.out.mono (fun e w' h => by
          rcases h with ⟨_, h1, h2⟩ | ⟨h1, _⟩
          · exact ⟨h1, h2⟩
          · rw [hg] at h1; cases h1))
        have HV : Hid (tagF s.data.toList = none) := hid0 (by
          unfold tagF
          rw [if_neg]
          rintro ⟨_, hv⟩
          simp only [validP, Bool.and_eq_true] at hv
          rw [hg] at hv
          cases hv.1.1.1)
        clear HP hg
        go_enter Tryz.func64, Tryz.ntmps64
        go_wp2_with (first | (go_at_call 81; refine HP2.out.mono ?_; rintro e w1 ⟨rfl, hb1⟩) | fail)
        go_returns
        exact ⟨by rw [HV.out]; rfl, hb1⟩
      | true =>
        have HG := hid0 hg
        obtain ⟨d0, hd0⟩ : ∃ d0, d0 = (pieces s.data.toList).headD [] := ⟨_, rfl⟩
        obtain ⟨n, hn⟩ : ∃ n, n = (pieces s.data.toList).length := ⟨_, rfl⟩
        have hn1 : 1 ≤ n := by
          have := pieces_ne s.data.toList
          rw [hn]
          exact List.length_pos_iff.2 this
        have hn65 : n ≤ 65 := by have h1 := pieces_count s.data.toList; have h2 := HLE.out; omega
        have HP2 : Hid (Calls Tryz.prog 81 #[.string s] w fun e w' => ∃ b0 o0 cD D, e = .returned (.slice (some ⟨b0, o0, none⟩) n cD) ∧ SA w' (some ⟨b0, o0, none⟩) D ∧ w'.cell? ⟨b0, o0, none⟩ = some (.string (strOf d0)) ∧ D.length = n ∧ lists D = pieces s.data.toList ∧ Below w.heap.size w w') := hid0 (HP.out.mono (fun e w' h => by
          rcases h with ⟨h1, _⟩ | ⟨_, v, D, rfl, hown, hl, hb⟩
          · rw [hg] at h1; cases h1
          · obtain ⟨aD, cD, rfl, hsa, _⟩ := hown.sa
            have hDn : D.length = n := by rw [hn, ← hl]; simp [lists]
            obtain ⟨b0, o0, rfl, _, hc⟩ := hsa.at' 0 (by omega)
            have hF : D[0]'(by omega) = strOf d0 := by
              have h1 : (lists D)[0]? = some (D[0]'(by omega)).data.toList := by simp [lists, show 0 < D.length by omega]
              rw [hl] at h1
              have h2 : d0 = (D[0]'(by omega)).data.toList := by
                rw [hd0]
                cases hq : pieces s.data.toList with
                | nil => exact absurd hq (pieces_ne _)
                | cons p r => rw [hq] at h1; simpa using h1
              rw [h2]
              rfl
            rw [hF, Nat.add_zero] at hc
            exact ⟨b0, o0, cD, D, by rw [hDn], hsa, hc, hDn, hl, hb⟩))
        obtain ⟨B0, hB0⟩ : ∃ B0, B0 = strOf (d0.map lowerB) := ⟨_, rfl⟩
        have hd8 : d0.length ≤ 8 := by
          rw [hd0]
          cases hq : pieces s.data.toList with
          | nil => simp
          | cons p r => exact good_le hg p (by rw [hq]; simp)
        have HLO : Hid (∀ W, Calls Tryz.prog 82 #[.string (strOf d0)] W fun e w' => e = .returned (.string B0) ∧ Below W.heap.size W w') := hid0 (fun W => by
          have h := refLower_any (strOf d0) (by rw [strOf_size]; omega) W
          rw [strOf_data] at h
          rw [hB0]
          exact h)
        have HLE2 : Hid (∀ W, Calls Tryz.prog 83 #[.string B0] W fun e w' => e = .returned (.bool (d0.all isL)) ∧ w' = W) := hid0 (fun W => by
          have h := refLetters_any B0 (by rw [hB0, strOf_size, List.length_map]; omega) W
          rw [hB0, strOf_data, all_map isL lowerB d0 L_lo] at h
          rw [hB0]
          exact h)
        have hBs : B0.size = d0.length := by rw [hB0, strOf_size, List.length_map]
        have hBr : (B0.toList == [114, 111, 111, 116]) = decide (d0.map lowerB = rootL) := by
          rw [← rootB_list, str_eq, hB0]
          exact decide_eq_decide.2 (strOf_root _)
        have HB0 := hid0 hB0
        have Hd0 := hid0 hd0
        have Hn := hid0 hn
        have hnI0 : (0 : Int) < (n : Int) := by omega
        have hne0 : ((n : Int) == 0) = false := by simp; omega
        clear HP hg hd0 hn hB0
        generalize strOf d0 = F0 at *
        have M0 : Hid True := trivial
        cases hq1 : d0.all isL with
        | false =>
          rw [hq1] at HLE2
          have HV : Hid (tagF s.data.toList = none) := hid0 (by
            unfold tagF
            rw [if_neg]
            rintro ⟨_, hv⟩
            rw [validP, ← Hd0.out, ← Hn.out] at hv
            simp only [Bool.and_eq_true] at hv
            rw [hq1] at hv
            cases hv.1.1.2)
          clear HG Hd0 Hn
          go_enter Tryz.func64, Tryz.ntmps64
          go_wp2_with (first
            | (clear M0; go_at_call 81; refine HP2.out.mono ?_; rintro e w1 ⟨b0, o0, cD, D, rfl, hsa, hc0, hlD, hl, hb1⟩; have HSA := hid0 hsa; have HL := hid0 hl; have HLD := hid0 hlD; have HB1 := hid0 hb1; clear hsa hl hb1 hlD HP2)
            | (go_at_call 82; refine (HLO.out w1).mono ?_; rintro e w2 ⟨rfl, hb2⟩; have HB2 := hid0 (Below.later HB1.out hb2); have HSA2 := hid0 (HSA.out.below hb2); clear hb2)
            | (go_at_call 83; refine (HLE2.out w2).mono ?_; rintro e w3 ⟨rfl, hw3⟩; have hw3' := hw3.symm; subst hw3'))
          go_returns
          exact ⟨by rw [HV.out]; rfl, HB2.out⟩

        | true =>
          rw [hq1] at HLE2
          by_cases hsz : (B0.size : Int) < 2
          · skip
            have HV : Hid (tagF s.data.toList = none) := hid0 (by
              unfold tagF
              rw [if_neg]
              rintro ⟨_, hv⟩
              rw [validP, ← Hd0.out, ← Hn.out] at hv
              simp only [Bool.and_eq_true, decide_eq_true_eq] at hv
              have h5 := hv.1.2
              omega)
            clear HG Hd0 Hn
            go_enter Tryz.func64, Tryz.ntmps64
            go_wp2_with (first
              | (clear M0; go_at_call 81; refine HP2.out.mono ?_; rintro e w1 ⟨b0, o0, cD, D, rfl, hsa, hc0, hlD, hl, hb1⟩; have HSA := hid0 hsa; have HL := hid0 hl; have HLD := hid0 hlD; have HB1 := hid0 hb1; clear hsa hl hb1 hlD HP2)
              | (go_at_call 82; refine (HLO.out w1).mono ?_; rintro e w2 ⟨rfl, hb2⟩; have HB2 := hid0 (Below.later HB1.out hb2); have HSA2 := hid0 (HSA.out.below hb2); clear hb2)
              | (go_at_call 83; refine (HLE2.out w2).mono ?_; rintro e w3 ⟨rfl, hw3⟩; have hw3' := hw3.symm; subst hw3'))
            go_returns
            exact ⟨by rw [HV.out]; rfl, HB2.out⟩

          · cases hq2 : decide (d0.map lowerB = rootL) with
            | true =>
              rw [hq2] at hBr
              by_cases hn2 : (1 : Int) < (n : Int)
              · skip
                have HV : Hid (tagF s.data.toList = none) := hid0 (by
                  unfold tagF
                  rw [if_neg]
                  rintro ⟨_, hv⟩
                  rw [validP, ← Hd0.out, ← Hn.out] at hv
                  simp only [Bool.and_eq_true, Bool.not_eq_true', Bool.and_eq_false_iff, beq_eq_false_iff_ne, decide_eq_false_iff_not] at hv
                  have h5 := of_decide_eq_true hq2
                  rcases hv.2 with h6 | h6
                  · exact h6 h5
                  · omega)
                clear HG Hd0 Hn
                go_enter Tryz.func64, Tryz.ntmps64
                go_wp2_with (first
                  | (clear M0; go_at_call 81; refine HP2.out.mono ?_; rintro e w1 ⟨b0, o0, cD, D, rfl, hsa, hc0, hlD, hl, hb1⟩; have HSA := hid0 hsa; have HL := hid0 hl; have HLD := hid0 hlD; have HB1 := hid0 hb1; clear hsa hl hb1 hlD HP2)
                  | (go_at_call 82; refine (HLO.out w1).mono ?_; rintro e w2 ⟨rfl, hb2⟩; have HB2 := hid0 (Below.later HB1.out hb2); have HSA2 := hid0 (HSA.out.below hb2); clear hb2)
                  | (go_at_call 83; refine (HLE2.out w2).mono ?_; rintro e w3 ⟨rfl, hw3⟩; have hw3' := hw3.symm; subst hw3'))
                go_returns
                exact ⟨by rw [HV.out]; rfl, HB2.out⟩

              · skip
                have HV : Hid (tagF s.data.toList = some (joinU (canonP (pieces s.data.toList)))) := hid0 (by
                  have hv : validP (pieces s.data.toList) = true := by
                    rw [validP, ← Hd0.out, ← Hn.out, HG.out, hq1]
                    simp only [Bool.true_and, Bool.and_eq_true, decide_eq_true_eq, Bool.not_eq_true', Bool.and_eq_false_iff, decide_eq_false_iff_not]
                    exact ⟨by omega, .inr (by omega)⟩
                  unfold tagF
                  rw [if_pos ⟨HLE.out, hv⟩])
                have HC1 : Hid (B0 = strOf (joinU (canonP ((pieces s.data.toList).take 1)))) := hid0 (by
                  rw [HB0.out]
                  have h := Hd0.out
                  cases hq : pieces s.data.toList with
                  | nil => exact absurd hq (pieces_ne _)
                  | cons p r =>
                    rw [hq] at h
                    rw [List.take_succ_cons, List.take_zero, canonP, List.map_nil, joinU_one]
                    rw [show d0 = p from h])
                have HGL := hid0 (good_le HG.out)
                go_enter Tryz.func64, Tryz.ntmps64
                go_wp2_with (first
                  | (clear M0; go_at_call 81; refine HP2.out.mono ?_; rintro e w1 ⟨b0, o0, cD, D, rfl, hsa, hc0, hlD, hl, hb1⟩; have HSA := hid0 hsa; have HL := hid0 hl; have HLD := hid0 hlD; have HB1 := hid0 hb1; clear hsa hl hb1 hlD HP2)
                  | (go_at_call 82; refine (HLO.out w1).mono ?_; rintro e w2 ⟨rfl, hb2⟩; have HB2 := hid0 (Below.later HB1.out hb2); have HSA2 := hid0 (HSA.out.below hb2); clear hb2)
                  | (go_at_call 83; refine (HLE2.out w2).mono ?_; rintro e w3 ⟨rfl, hw3⟩; have hw3' := hw3.symm; subst hw3'))
                go_loopw [7, 8] (fun v i wr => ∃ k : Nat, 1 ≤ k ∧ k ≤ n ∧ i = .int .i64 (k : Int) ∧ v = .string (strOf (joinU (canonP ((pieces s.data.toList).take k)))) ∧ Hid (Below w.heap.size w wr) ∧ Hid (SA wr (some ⟨b0, o0, none⟩) D)) (fun _ i _ => n - (intOf i).toNat)
                case atStart => exact ⟨1, Nat.le_refl _, hn1, rfl, by rw [HC1.out], HB2, HSA2⟩
                case round =>
                  clear HB2 HSA2
                  obtain ⟨k, hk1, hkn, rfl, rfl, HBr, HSr⟩ := hrel
                  have HT : Hid ((joinU (canonP ((pieces s.data.toList).take k))).length ≤ 9 * k) := hid0 (by
                    have h1 := joinU_le (canonP ((pieces s.data.toList).take k)) (canonP_le (fun p hp => HGL.out p (List.mem_of_mem_take hp)))
                    rw [canonP_length, List.length_take] at h1
                    omega)
                  by_cases hlt : k < n
                  · exfalso; omega
                  · have hltI : ¬ (k : Int) < (n : Int) := by omega
                    have HE : Hid (tagV (tagF s.data.toList) = .tuple #[.string (strOf (joinU (canonP ((pieces s.data.toList).take k)))), .bool true]) := hid0 (by rw [HV.out, List.take_of_length_le (by have := Hn.out; omega)]; rfl)
                    generalize strOf (joinU (canonP ((pieces s.data.toList).take k))) = S at *
                    clear HT HV
                    go_wp2
                    go_returns
                    exact ⟨by rw [HE.out]; rfl, HBr.out⟩

            | false =>
              rw [hq2] at hBr
              have HV : Hid (tagF s.data.toList = some (joinU (canonP (pieces s.data.toList)))) := hid0 (by
                have hv : validP (pieces s.data.toList) = true := by
                  rw [validP, ← Hd0.out, ← Hn.out, HG.out, hq1]
                  simp only [Bool.true_and, Bool.and_eq_true, decide_eq_true_eq, Bool.not_eq_true', Bool.and_eq_false_iff, beq_eq_false_iff_ne]
                  exact ⟨by omega, .inl (of_decide_eq_false hq2)⟩
                unfold tagF
                rw [if_pos ⟨HLE.out, hv⟩])
              have HC1 : Hid (B0 = strOf (joinU (canonP ((pieces s.data.toList).take 1)))) := hid0 (by
                rw [HB0.out]
                have h := Hd0.out
                cases hq : pieces s.data.toList with
                | nil => exact absurd hq (pieces_ne _)
                | cons p r =>
                  rw [hq] at h
                  rw [List.take_succ_cons, List.take_zero, canonP, List.map_nil, joinU_one]
                  rw [show d0 = p from h])
              have HGL := hid0 (good_le HG.out)
              go_enter Tryz.func64, Tryz.ntmps64
              go_wp2_with (first
                | (clear M0; go_at_call 81; refine HP2.out.mono ?_; rintro e w1 ⟨b0, o0, cD, D, rfl, hsa, hc0, hlD, hl, hb1⟩; have HSA := hid0 hsa; have HL := hid0 hl; have HLD := hid0 hlD; have HB1 := hid0 hb1; clear hsa hl hb1 hlD HP2)
                | (go_at_call 82; refine (HLO.out w1).mono ?_; rintro e w2 ⟨rfl, hb2⟩; have HB2 := hid0 (Below.later HB1.out hb2); have HSA2 := hid0 (HSA.out.below hb2); clear hb2)
                | (go_at_call 83; refine (HLE2.out w2).mono ?_; rintro e w3 ⟨rfl, hw3⟩; have hw3' := hw3.symm; subst hw3'))
              go_loopw [7, 8] (fun v i wr => ∃ k : Nat, 1 ≤ k ∧ k ≤ n ∧ i = .int .i64 (k : Int) ∧ v = .string (strOf (joinU (canonP ((pieces s.data.toList).take k)))) ∧ Hid (Below w.heap.size w wr) ∧ Hid (SA wr (some ⟨b0, o0, none⟩) D)) (fun _ i _ => n - (intOf i).toNat)
              case atStart => exact ⟨1, Nat.le_refl _, hn1, rfl, by rw [HC1.out], HB2, HSA2⟩
              case round =>
                clear HB2 HSA2
                obtain ⟨k, hk1, hkn, rfl, rfl, HBr, HSr⟩ := hrel
                have HT : Hid ((joinU (canonP ((pieces s.data.toList).take k))).length ≤ 9 * k) := hid0 (by
                  have h1 := joinU_le (canonP ((pieces s.data.toList).take k)) (canonP_le (fun p hp => HGL.out p (List.mem_of_mem_take hp)))
                  rw [canonP_length, List.length_take] at h1
                  omega)
                by_cases hlt : k < n
                · have hltI : (k : Int) < (n : Int) := by omega
                  have hkI0 : (0 : Int) ≤ (k : Int) := by omega
                  have hkD : k < D.length := by rw [HLD.out]; exact hlt
                  have hkP : k < (pieces s.data.toList).length := by rw [← Hn.out]; exact hlt
                  have HDK : Hid (D[k].data.toList = (pieces s.data.toList)[k]) := hid0 (by
                    have h1 : (lists D)[k]? = some (pieces s.data.toList)[k] := by rw [HL.out]; exact List.getElem?_eq_getElem hkP
                    rw [lists, List.getElem?_map, List.getElem?_eq_getElem hkD] at h1
                    exact Option.some.inj h1)
                  obtain ⟨b1, o1, hab, hb1, hck⟩ := HSr.out.at' k hkD
                  cases hab
                  have HFO := hid0 (refForm_any D[k] (by have h1 := HDK.out; have h2 := HGL.out _ (List.getElem_mem hkP); rw [← h1] at h2; simp at h2; omega) wr)
                  obtain ⟨S, hS⟩ : ∃ S, S = strOf (joinU (canonP ((pieces s.data.toList).take k))) := ⟨_, rfl⟩
                  obtain ⟨F, hF⟩ : ∃ F, F = strOf (formP D[k].data.toList) := ⟨_, rfl⟩
                  have HN : Hid (S ++ ⟨#[95]⟩ ++ F = strOf (joinU (canonP ((pieces s.data.toList).take (k + 1))))) := hid0 (by
                    rw [canonP_take _ k hk1 hkP, joinU_snoc _ _ (canonP_ne (by intro h; have h9 := congrArg List.length h; rw [List.length_take, List.length_nil] at h9; omega)), hS, hF, HDK.out]
                    rw [show (⟨#[95]⟩ : ByteArray) = strOf [95] from rfl, strOf_app, strOf_app]
                    simp)
                  have hSs : S.size ≤ 9 * k := by rw [hS, strOf_size]; exact HT.out
                  have hFs : F.size ≤ 8 := by rw [hF, strOf_size, formP_len, HDK.out]; exact HGL.out _ (List.getElem_mem hkP)
                  have HFO2 : Hid (Calls Tryz.prog 84 #[.string D[k]] wr fun e w' => e = .returned (.string F) ∧ Below wr.heap.size wr w') := hid0 (by rw [hF]; exact HFO.out)
                  generalize hDk : D[k] = X at *
                  rw [← hS]
                  have ha1 : ¬ 9223372036854775807 < S.size + (⟨#[95]⟩ : ByteArray).size := by have : (⟨#[95]⟩ : ByteArray).size = 1 := rfl; omega
                  have ha2 : ¬ 9223372036854775807 < (S ++ ⟨#[95]⟩ : ByteArray).size + F.size := by rw [ByteArray.size_append]; have : (⟨#[95]⟩ : ByteArray).size = 1 := rfl; omega
                  clear HFO HT HDK hS hF
                  go_wp2_with (go_at_call 84; refine HFO2.out.mono ?_; rintro e w4 ⟨rfl, hb4⟩; have HB4 := hid0 (Below.later HBr.out hb4); have HS4 := hid0 (HSr.out.below hb4); clear hb4)
                  go_roundw
                  case rel => exact ⟨k + 1, by omega, by omega, by go_num, by rw [← HN.out], HB4, HS4⟩
                  case measure => simp [intOf]; omega
                · have hltI : ¬ (k : Int) < (n : Int) := by omega
                  have HE : Hid (tagV (tagF s.data.toList) = .tuple #[.string (strOf (joinU (canonP ((pieces s.data.toList).take k)))), .bool true]) := hid0 (by rw [HV.out, List.take_of_length_le (by have := Hn.out; omega)]; rfl)
                  generalize strOf (joinU (canonP ((pieces s.data.toList).take k))) = S at *
                  clear HT HV
                  go_wp2
                  go_returns
                  exact ⟨by rw [HE.out]; rfl, HBr.out⟩


end Go.Proofs.YtbdjnmbhphflbaaGreatDoor
