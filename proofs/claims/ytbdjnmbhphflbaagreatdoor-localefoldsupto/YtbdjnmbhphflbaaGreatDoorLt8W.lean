/-
  The walks of bundle's oneForm, isOneForm.
-/
import Derived.Test.YtbdjnmbhphflbaaGreatDoorLt7W
namespace Go.Proofs.YtbdjnmbhphflbaaGreatDoor
open Go.RowKit Go.Shelf Go.Lib
theorem owns_low {w : World} {base base' : Nat} {e : TypeId} {size : Nat} {v : Value} {n : Nat} {xs : List Value} (h : w.ownsRow base e size v n xs) (hb : base' ≤ base) : w.ownsRow base' e size v n xs :=
  ⟨h.1, h.2.imp id (fun ⟨g, cap, cur, h1, h2, h3⟩ => ⟨g, cap, cur, h1, Nat.le_trans hb h2, h3⟩)⟩
theorem canonP_at (l : List (List UInt8)) (k : Nat) (h : k < l.length) : (canonP l)[k]? = some (pf (decide (k = 0)) l[k]) := by
  cases l with
  | nil => simp at h
  | cons p r =>
    cases k with
    | zero => simp [canonP, pf]
    | succ k => simp [canonP, pf]; exact ⟨r[k]'(by simpa using h), List.getElem?_eq_getElem (by simpa using h), rfl⟩
/-- The first k pieces in their form. -/
def mid (ps : List (List UInt8)) (k : Nat) : List (List UInt8) := (canonP ps).take k ++ ps.drop k
theorem mid_len (ps : List (List UInt8)) (k : Nat) (h : k ≤ ps.length) : (mid ps k).length = ps.length := by
  simp [mid, canonP_length]; omega
theorem mid_zero (ps : List (List UInt8)) : mid ps 0 = ps := by simp [mid]
theorem mid_all (ps : List (List UInt8)) : mid ps ps.length = canonP ps := by
  simp [mid, List.take_of_length_le (Nat.le_of_eq (canonP_length ps))]
theorem mid_at (ps : List (List UInt8)) (k : Nat) (h : k < ps.length) : (mid ps k)[k]? = some ps[k] := by
  have hl : ((canonP ps).take k).length = k := by rw [List.length_take, canonP_length]; omega
  rw [mid, List.getElem?_append_right (by omega), hl, Nat.sub_self, List.getElem?_drop, Nat.add_zero, List.getElem?_eq_getElem h]
theorem mid_next (ps : List (List UInt8)) (k : Nat) (h : k < ps.length) : mid ps (k + 1) = (mid ps k).set k (pf (decide (k = 0)) ps[k]) := by
  have hl : ((canonP ps).take k).length = k := by rw [List.length_take, canonP_length]; omega
  rw [mid, mid, List.set_append_right _ _ (by omega), hl, Nat.sub_self, List.drop_eq_getElem_cons h, List.set_cons_zero, List.take_add_one, canonP_at ps k h, List.append_assoc]
  rfl
theorem pieces_len : ∀ (s : List UInt8), ∀ p ∈ pieces s, p.length ≤ s.length
  | [], p, hp => by simp [pieces] at hp; subst hp; simp
  | c :: r, p, hp => by
    have ih := pieces_len r
    unfold pieces at hp
    split at hp
    · rcases List.mem_cons.1 hp with rfl | hp
      · simp
      · have := ih p hp; simp; omega
    · cases hq : pieces r with
      | nil => exact absurd hq (pieces_ne r)
      | cons q qs =>
        rw [hq] at hp ih
        rcases List.mem_cons.1 hp with rfl | hp
        · have := ih q (by simp); simp; omega
        · have := ih p (by simp [hp]); simp; omega
theorem empty_beq (p : List UInt8) : ((strOf p).toList == []) = decide (p = []) := by
  rw [ByteArray.toList_eq, show (strOf p).data.toList = p from strOf_data p]
  cases p <;> simp
set_option maxRecDepth 10000 in
set_option maxHeartbeats 3200000 in
theorem oneForm_any (s : ByteArray) (w : World) (hm : Mx w) : Calls Tryz.prog 68 #[.string s] w fun e w' => e = .returned (tagV (tagF s.data.toList)) ∧ Below w.heap.size w w' := by
  have HTL : Hid (s.data.toList.length = s.size) := hid0 (by simp)
  by_cases h64 : (64 : Int) < (s.size : Int)
  · have HV : Hid (tagF s.data.toList = none) := hid0 (by
      unfold tagF
      rw [if_neg]
      rintro ⟨h1, _⟩
      have h4 := HTL.out
      omega)
    go_enter Tryz.func68, Tryz.ntmps68
    go_wp2
    go_returns
    exact ⟨by rw [HV.out]; rfl, Below.refl _ _⟩
  · have HLE : Hid (s.data.toList.length ≤ 64) := hid0 (by rw [HTL.out]; omega)
    have HM := hid0 hm
    obtain ⟨R, hR⟩ : ∃ R, R = strOf (s.data.toList.map rep) := ⟨_, rfl⟩
    have HRE : Hid (Calls Tryz.prog 56 #[.string s, .string ⟨#[45]⟩, .string ⟨#[95]⟩] w fun e w' => e = .returned (.string R) ∧ Below w.heap.size w w') := hid0 (by rw [hR]; exact repl_any s (by omega) w hm)
    obtain ⟨ps, hps⟩ : ∃ ps, ps = pieces s.data.toList := ⟨_, rfl⟩
    obtain ⟨n, hn⟩ : ∃ n, n = (pieces s.data.toList).length := ⟨_, rfl⟩
    obtain ⟨d0, hd0⟩ : ∃ d0, d0 = (pieces s.data.toList).headD [] := ⟨_, rfl⟩
    have hn1 : 1 ≤ n := by
      have := pieces_ne s.data.toList
      rw [hn]
      exact List.length_pos_iff.2 this
    have hn65 : n ≤ 65 := by have h1 := pieces_count s.data.toList; have h2 := HLE.out; omega
    have HSL : Hid (∀ W, Mx W → Calls Tryz.prog 55 #[.string R, .string ⟨#[95]⟩] W fun e w' => e = .returned (.slice (some ⟨W.heap.size, 0, none⟩) n n) ∧ w' = W.alloc (.cells (cellsS ((pieces s.data.toList).map strOf)).toArray 9)) := hid0 (fun W hW => by rw [hR, hn]; exact split_any s.data.toList (by have := HLE.out; omega) W hW)
    have HSW : Hid (∀ W w', w' = W.alloc (.cells (cellsS ((pieces s.data.toList).map strOf)).toArray 9) → Below W.heap.size W w' ∧ w'.cell? ⟨W.heap.size, 0, none⟩ = some (.string (strOf d0)) ∧ w'.ownsRow W.heap.size 9 1 (.slice (some ⟨W.heap.size, 0, none⟩) n n) n (cellsS ((mid (pieces s.data.toList) 0).map strOf))) := hid0 (fun W w' hw => by
      rw [hw]
      refine ⟨(Below.refl _ _).alloc (Nat.le_refl _) _, ?_, ?_⟩
      · rw [cell_of_row _ _ _ _ _ _ (heap_alloc_new W _), hd0]
        cases hq : pieces s.data.toList with
        | nil => exact absurd hq (pieces_ne _)
        | cons p r => simp [cellsS]
      · rw [mid_zero]
        have h := World.ownsRow_lit W (cellsS ((pieces s.data.toList).map strOf)).toArray n (Nat.le_refl _) (e := 9) (size := 1) (base := W.heap.size) (by unfold maxLen; omega) (by simp [cellsS, hn])
        simpa using h)
    have HAL : Hid (∀ W, Calls Tryz.prog 96 #[.string (strOf d0), .func (.func 97) #[] #[]] W fun e w' => e = .returned (.bool (d0.all isL)) ∧ w' = W) := hid0 (fun W => by
      have h := isAllL_any (strOf d0) (by rw [strOf_size, hd0]; have h1 := pieces_head_le s.data.toList; have h2 := HLE.out; omega) W
      rw [strOf_data] at h
      exact h)
    have hdz : (strOf d0).size = d0.length := strOf_size d0
    have Hn := hid0 hn
    have Hd0 := hid0 hd0
    have hnI : (0 : Int) < (n : Int) := by omega
    clear hm hR hn hd0 hps
    generalize strOf d0 = F0 at *
    have M0 : Hid True := trivial
    by_cases h2 : (d0.length : Int) < 2
    · skip
      have HV : Hid (tagF s.data.toList = none) := hid0 (by
        unfold tagF
        rw [if_neg]
        rintro ⟨_, hv⟩
        rw [validP, ← Hd0.out, ← Hn.out] at hv
        simp only [Bool.and_eq_true, decide_eq_true_eq] at hv
        have h5 := hv.1.2
        omega)
      go_enter Tryz.func68, Tryz.ntmps68
      go_wp2_with (first
        | (go_at_call 56; clear M0; refine HRE.out.mono ?_; rintro e w1 ⟨rfl, hb1⟩; have HB1 := hid0 hb1; have HSP := hid0 (HSL.out w1 (HM.out.below hb1)); have M1 : Hid True := trivial; clear hb1)
        | (go_at_call 55; clear M1; refine HSP.out.mono ?_; rintro e w2 ⟨rfl, hw2⟩; obtain ⟨hb2, hc0, ho2⟩ := HSW.out w1 w2 hw2; have HB2 := hid0 (Below.later HB1.out hb2); have HO2 := hid0 (owns_low ho2 HB1.out.size); clear hb2 ho2 hw2)
        | (go_at_call 96; refine (HAL.out _).mono ?_; rintro e w3 ⟨rfl, hw3⟩; have hw3' := hw3.symm; subst hw3'))
      go_returns
      exact ⟨by rw [HV.out]; rfl, HB2.out⟩

    · cases hq1 : d0.all isL with
      | false =>
        rw [hq1] at HAL
        have HV : Hid (tagF s.data.toList = none) := hid0 (by
          unfold tagF
          rw [if_neg]
          rintro ⟨_, hv⟩
          rw [validP, ← Hd0.out, ← Hn.out] at hv
          simp only [Bool.and_eq_true] at hv
          rw [hq1] at hv
          cases hv.1.1.2)
        go_enter Tryz.func68, Tryz.ntmps68
        go_wp2_with (first
          | (go_at_call 56; clear M0; refine HRE.out.mono ?_; rintro e w1 ⟨rfl, hb1⟩; have HB1 := hid0 hb1; have HSP := hid0 (HSL.out w1 (HM.out.below hb1)); have M1 : Hid True := trivial; clear hb1)
          | (go_at_call 55; clear M1; refine HSP.out.mono ?_; rintro e w2 ⟨rfl, hw2⟩; obtain ⟨hb2, hc0, ho2⟩ := HSW.out w1 w2 hw2; have HB2 := hid0 (Below.later HB1.out hb2); have HO2 := hid0 (owns_low ho2 HB1.out.size); clear hb2 ho2 hw2)
          | (go_at_call 96; refine (HAL.out _).mono ?_; rintro e w3 ⟨rfl, hw3⟩; have hw3' := hw3.symm; subst hw3'))
        go_returns
        exact ⟨by rw [HV.out]; rfl, HB2.out⟩

      | true =>
        rw [hq1] at HAL
        go_enter Tryz.func68, Tryz.ntmps68
        go_wp2_with (first
          | (go_at_call 56; clear M0; refine HRE.out.mono ?_; rintro e w1 ⟨rfl, hb1⟩; have HB1 := hid0 hb1; have HSP := hid0 (HSL.out w1 (HM.out.below hb1)); have M1 : Hid True := trivial; clear hb1)
          | (go_at_call 55; clear M1; refine HSP.out.mono ?_; rintro e w2 ⟨rfl, hw2⟩; obtain ⟨hb2, hc0, ho2⟩ := HSW.out w1 w2 hw2; have HB2 := hid0 (Below.later HB1.out hb2); have HO2 := hid0 (owns_low ho2 HB1.out.size); clear hb2 ho2 hw2)
          | (go_at_call 96; refine (HAL.out _).mono ?_; rintro e w3 ⟨rfl, hw3⟩; have hw3' := hw3.symm; subst hw3'))
        have HOm : Hid (w2.ownsRow w.heap.size 9 1 (.slice (some ⟨w1.heap.size, 0, none⟩) n n) n (cellsS ((mid (pieces s.data.toList) 0).map strOf))) := HO2
        go_loopw [27] (fun i wr => ∃ k : Nat, k ≤ n ∧ i = .int .i64 (k : Int) ∧ Hid (wr.ownsRow w.heap.size 9 1 (.slice (some ⟨w1.heap.size, 0, none⟩) n n) n (cellsS ((mid (pieces s.data.toList) k).map strOf))) ∧ Hid (∀ p ∈ (pieces s.data.toList).take k, goodP p = true) ∧ Hid (Below w.heap.size w wr)) (fun i _ => n - (intOf i).toNat)
        case atStart => exact ⟨0, Nat.zero_le _, rfl, HOm, hid0 (fun p hp => by simp at hp), HB2⟩
        case round =>
          clear HOm HO2 HB2
          obtain ⟨k, hk, rfl, HOr, HGr, HBr⟩ := hrel
          by_cases hlt : k < n
          · have hkI : (k : Int) < (n : Int) := by omega
            have hkI0 : (0 : Int) ≤ (k : Int) := by omega
            have hkP : k < (pieces s.data.toList).length := by rw [← Hn.out]; exact hlt
            obtain ⟨p, hp⟩ : ∃ p, (pieces s.data.toList)[k] = p := ⟨_, rfl⟩
            have Hp := hid0 hp
            have hc : wr.cell? ⟨w1.heap.size, k, none⟩ = some (.string (strOf p)) := by
              rw [World.ownsRow.cellAt HOr.out k (by omega), cellsS, List.getElem?_map, List.getElem?_map, mid_at _ k hkP, hp]
              rfl
            have hfz : wr.frozen? ⟨w1.heap.size, k, none⟩ = false := World.ownsRow.frozenAt HOr.out k
            have hpl : p.length ≤ 64 := by
              rw [← hp]
              have h1 := pieces_len s.data.toList _ (List.getElem_mem hkP)
              have h2 := HLE.out
              omega
            have HAN : Hid (∀ W, Calls Tryz.prog 96 #[.string (strOf p), .func (.func 98) #[] #[]] W fun e w' => e = .returned (.bool (p.all isN)) ∧ w' = W) := hid0 (fun W => by
              have h := isAllN_any (strOf p) (by rw [strOf_size]; omega) W
              rw [strOf_data] at h
              exact h)
            have hem := empty_beq p
            have hsz := strOf_size p
            clear hp
            by_cases hp0 : p = []
            · have hem' : ((strOf p).toList == []) = true := by rw [hem]; simpa using hp0
              have HV : Hid (tagF s.data.toList = none) := hid0 (by
                unfold tagF
                rw [if_neg]
                rintro ⟨_, hv⟩
                simp only [validP, Bool.and_eq_true] at hv
                have h5 := List.all_eq_true.1 hv.1.1.1 _ (List.getElem_mem hkP)
                rw [Hp.out, hp0] at h5
                simp [goodP] at h5)
              generalize strOf p = S at *
              clear HOr hem
              go_wp2
              go_returns
              exact ⟨by rw [HV.out]; rfl, HBr.out⟩
            · have hem' : ((strOf p).toList == []) = false := by rw [hem]; simpa using hp0
              have hp1 : 1 ≤ p.length := List.length_pos_iff.2 hp0
              by_cases h8 : (8 : Int) < (p.length : Int)
              · have HV : Hid (tagF s.data.toList = none) := hid0 (by
                  unfold tagF
                  rw [if_neg]
                  rintro ⟨_, hv⟩
                  simp only [validP, Bool.and_eq_true] at hv
                  have h5 := List.all_eq_true.1 hv.1.1.1 _ (List.getElem_mem hkP)
                  rw [Hp.out] at h5
                  simp only [goodP, Bool.and_eq_true, decide_eq_true_eq] at h5
                  omega)
                generalize strOf p = S at *
                clear HOr hem
                go_wp2
                go_returns
                exact ⟨by rw [HV.out]; rfl, HBr.out⟩
              · cases hqn : p.all isN with
                | false =>
                  rw [hqn] at HAN
                  have HV : Hid (tagF s.data.toList = none) := hid0 (by
                    unfold tagF
                    rw [if_neg]
                    rintro ⟨_, hv⟩
                    simp only [validP, Bool.and_eq_true] at hv
                    have h5 := List.all_eq_true.1 hv.1.1.1 _ (List.getElem_mem hkP)
                    rw [Hp.out] at h5
                    simp only [goodP, Bool.and_eq_true] at h5
                    rw [hqn] at h5
                    cases h5.2)
                  generalize strOf p = S at *
                  clear HOr hem
                  go_wp2_with (first | (go_at_call 96; refine (HAN.out _).mono ?_; rintro e w5 ⟨rfl, rfl⟩) | fail)
                  go_returns
                  exact ⟨by rw [HV.out]; rfl, HBr.out⟩
                | true =>
                  rw [hqn] at HAN
                  have HG2 : Hid (∀ q ∈ (pieces s.data.toList).take (k + 1), goodP q = true) := hid0 (fun q hq => by
                    rw [List.take_add_one, List.getElem?_eq_getElem hkP, Hp.out] at hq
                    rcases List.mem_append.1 hq with hq | hq
                    · exact HGr.out q hq
                    · simp at hq
                      subst hq
                      simp only [goodP, Bool.and_eq_true, decide_eq_true_eq]
                      exact ⟨⟨hp1, by omega⟩, hqn⟩)
                  obtain ⟨q0, hq0⟩ : ∃ q0, q0 = decide (k = 0) := ⟨_, rfl⟩
                  have hk0 : ((k : Int) == 0) = q0 := by rw [hq0, Bool.eq_iff_iff]; simp
                  obtain ⟨X, hX⟩ : ∃ X, X = strOf (pf q0 p) := ⟨_, rfl⟩
                  have HPF : Hid (Calls Tryz.prog 99 #[.string (strOf p), .bool q0] wr fun e w' => e = .returned (.string X) ∧ Below wr.heap.size wr w') := hid0 (by rw [hX]; exact partForm_any p q0 (by omega) hqn wr)
                  have HST : Hid (∀ W, Below wr.heap.size wr W → W.cell? ⟨w1.heap.size, k, none⟩ = some (.string (strOf p)) ∧ W.frozen? ⟨w1.heap.size, k, none⟩ = false ∧ Hid ((W.setCell ⟨w1.heap.size, k, none⟩ (.string X)).ownsRow w.heap.size 9 1 (.slice (some ⟨w1.heap.size, 0, none⟩) n n) n (cellsS ((mid (pieces s.data.toList) (k + 1)).map strOf))) ∧ Hid (Below w.heap.size w (W.setCell ⟨w1.heap.size, k, none⟩ (.string X)))) := hid0 (fun W hW => by
                    have h1 := World.ownsRow.kept HOr.out (row := none) (w' := W) ⟨hW.os, hW.tape, hW.output, hW.size, fun k hk _ => hW.block k hk⟩ (by simp [Value.ownBlock])
                    refine ⟨(hW.cell (World.block_lt_of_cell? _ _ hc)).trans hc, World.ownsRow.frozenAt h1 k, ?_, (Below.later HBr.out hW).setCell HB1.out.size _⟩
                    have h2 := (World.ownsRow.stored h1 k (.string X)).1
                    rw [mid_next _ k hkP, Hp.out, ← hq0, List.map_set, cellsS, List.map_set, ← hX]
                    exact h2)
                  clear hX hq0 HOr HGr hem Hp
                  generalize strOf p = S at *
                  go_wp2_with (first
                    | (go_at_call 96; refine (HAN.out _).mono ?_; rintro e w5 ⟨rfl, hw5⟩; have hw5' := hw5.symm; subst hw5')
                    | (go_at_call 99; refine HPF.out.mono ?_; rintro e w6 ⟨rfl, h6⟩; obtain ⟨hc6, hf6, HO6, HB6⟩ := HST.out w6 h6; clear h6))
                  go_roundw
                  case rel => exact ⟨k + 1, by omega, by go_num, HO6, HG2, HB6⟩
                  case measure => simp [intOf]; omega
          · have hkI : ¬ (k : Int) < (n : Int) := by omega
            have hkn : k = (pieces s.data.toList).length := by rw [← Hn.out]; omega
            have HGA : Hid ((pieces s.data.toList).all goodP = true) := hid0 (List.all_eq_true.2 (fun p hp => HGr.out p (by rw [hkn, List.take_of_length_le (Nat.le_refl _)]; exact hp)))
            have HOA : Hid (wr.ownsRow w.heap.size 9 1 (.slice (some ⟨w1.heap.size, 0, none⟩) n n) n (cellsS ((canonP (pieces s.data.toList)).map strOf))) := hid0 (by
              have h := HOr.out
              rw [hkn, mid_all] at h
              exact h)
            obtain ⟨C0, hC0⟩ : ∃ C0, C0 = strOf (d0.map lowerB) := ⟨_, rfl⟩
            have hcc : wr.cell? ⟨w1.heap.size, 0, none⟩ = some (.string C0) := by
              rw [World.ownsRow.cellAt HOA.out 0 (by omega), hC0]
              have h := Hd0.out
              cases hq : pieces s.data.toList with
              | nil => exact absurd hq (pieces_ne _)
              | cons p r =>
                rw [hq] at h
                simp only [List.headD_cons] at h
                rw [h]
                simp [canonP, cellsS]
            have hBr : (C0.toList == [114, 111, 111, 116]) = decide (d0.map lowerB = rootL) := by
              rw [hC0]
              exact root_beq _
            clear HOr HGr hC0 hkn
            cases hq2 : decide (d0.map lowerB = rootL) with
            | true =>
              rw [hq2] at hBr
              by_cases hn2 : (1 : Int) < (n : Int)
              · have HV : Hid (tagF s.data.toList = none) := hid0 (by
                  unfold tagF
                  rw [if_neg]
                  rintro ⟨_, hv⟩
                  rw [validP, ← Hd0.out, ← Hn.out] at hv
                  simp only [Bool.and_eq_true, Bool.not_eq_true', Bool.and_eq_false_iff, beq_eq_false_iff_ne, decide_eq_false_iff_not] at hv
                  have h5 := of_decide_eq_true hq2
                  rcases hv.2 with h6 | h6
                  · exact h6 h5
                  · omega)
                clear HOA
                go_wp2
                go_returns
                exact ⟨by rw [HV.out]; rfl, HBr.out⟩
              · skip
                have HV : Hid (tagF s.data.toList = some (joinU (canonP (pieces s.data.toList)))) := hid0 (by
                  have hv : validP (pieces s.data.toList) = true := by
                    rw [validP, ← Hd0.out, ← Hn.out, HGA.out, hq1]
                    simp only [Bool.true_and, Bool.and_eq_true, decide_eq_true_eq, Bool.not_eq_true', Bool.and_eq_false_iff, decide_eq_false_iff_not]
                    exact ⟨by omega, .inr (by omega)⟩
                  unfold tagF
                  rw [if_pos ⟨HLE.out, hv⟩])
                obtain ⟨J, hJ⟩ : ∃ J, J = strOf (joinU (canonP (pieces s.data.toList))) := ⟨_, rfl⟩
                have HJ : Hid (Calls Tryz.prog 100 #[.slice (some ⟨w1.heap.size, 0, none⟩) n n, .string ⟨#[95]⟩] wr fun e w' => e = .returned (.string J) ∧ Below wr.heap.size wr w') := hid0 (by
                  have hcl : (canonP (pieces s.data.toList)).length = n := by rw [canonP_length, ← Hn.out]
                  have hsa : SA wr (some ⟨w1.heap.size, 0, none⟩) ((canonP (pieces s.data.toList)).map strOf) := ⟨fun k hk => ⟨w1.heap.size, 0, rfl, (World.ownsRow.lt HOA.out _ rfl).2, by
                    have hk' : k < n := by rw [List.length_map, hcl] at hk; exact hk
                    rw [Nat.zero_add, World.ownsRow.cellAt HOA.out k (by omega), cellsS, List.getElem?_map, List.getElem?_eq_getElem hk]
                    rfl⟩⟩
                  have h := join_any (canonP (pieces s.data.toList)) w1.heap.size 0 n wr hsa (by omega) (by omega) (by omega) (by
                    have h1 := joinU_le (canonP (pieces s.data.toList)) (canonP_le (good_le HGA.out))
                    omega)
                  rw [hcl] at h
                  rw [hJ]
                  exact h)
                have HE : Hid (tagV (tagF s.data.toList) = .tuple #[.string J, .bool true]) := hid0 (by rw [HV.out, hJ]; rfl)
                clear HOA HV hJ
                go_wp2_with (go_at_call 100; refine HJ.out.mono ?_; rintro e w7 ⟨rfl, hb7⟩)
                go_returns
                exact ⟨by rw [HE.out]; rfl, Below.later HBr.out hb7⟩

            | false =>
              rw [hq2] at hBr
              have HV : Hid (tagF s.data.toList = some (joinU (canonP (pieces s.data.toList)))) := hid0 (by
                have hv : validP (pieces s.data.toList) = true := by
                  rw [validP, ← Hd0.out, ← Hn.out, HGA.out, hq1]
                  simp only [Bool.true_and, Bool.and_eq_true, decide_eq_true_eq, Bool.not_eq_true', Bool.and_eq_false_iff, beq_eq_false_iff_ne]
                  exact ⟨by omega, .inl (of_decide_eq_false hq2)⟩
                unfold tagF
                rw [if_pos ⟨HLE.out, hv⟩])
              obtain ⟨J, hJ⟩ : ∃ J, J = strOf (joinU (canonP (pieces s.data.toList))) := ⟨_, rfl⟩
              have HJ : Hid (Calls Tryz.prog 100 #[.slice (some ⟨w1.heap.size, 0, none⟩) n n, .string ⟨#[95]⟩] wr fun e w' => e = .returned (.string J) ∧ Below wr.heap.size wr w') := hid0 (by
                have hcl : (canonP (pieces s.data.toList)).length = n := by rw [canonP_length, ← Hn.out]
                have hsa : SA wr (some ⟨w1.heap.size, 0, none⟩) ((canonP (pieces s.data.toList)).map strOf) := ⟨fun k hk => ⟨w1.heap.size, 0, rfl, (World.ownsRow.lt HOA.out _ rfl).2, by
                  have hk' : k < n := by rw [List.length_map, hcl] at hk; exact hk
                  rw [Nat.zero_add, World.ownsRow.cellAt HOA.out k (by omega), cellsS, List.getElem?_map, List.getElem?_eq_getElem hk]
                  rfl⟩⟩
                have h := join_any (canonP (pieces s.data.toList)) w1.heap.size 0 n wr hsa (by omega) (by omega) (by omega) (by
                  have h1 := joinU_le (canonP (pieces s.data.toList)) (canonP_le (good_le HGA.out))
                  omega)
                rw [hcl] at h
                rw [hJ]
                exact h)
              have HE : Hid (tagV (tagF s.data.toList) = .tuple #[.string J, .bool true]) := hid0 (by rw [HV.out, hJ]; rfl)
              clear HOA HV hJ
              go_wp2_with (go_at_call 100; refine HJ.out.mono ?_; rintro e w7 ⟨rfl, hb7⟩)
              go_returns
              exact ⟨by rw [HE.out]; rfl, Below.later HBr.out hb7⟩

set_option maxRecDepth 10000 in
set_option maxHeartbeats 400000 in
theorem isOneForm_any (s : ByteArray) (w : World) (hm : Mx w) : Calls Tryz.prog 52 #[.string s] w fun e w' => e = .returned (.bool (decide (tagF s.data.toList = some s.data.toList))) ∧ Below w.heap.size w w' := by
  have HT := hid0 (oneForm_any s w hm)
  clear hm
  obtain ⟨q, hq⟩ : ∃ q, q = decide (tagF s.data.toList = some s.data.toList) := ⟨_, rfl⟩
  rw [← hq]
  cases ht : tagF s.data.toList with
  | none =>
    rw [ht] at HT
    have hq' : q = false := by rw [hq, ht]; rfl
    have HT2 : Hid (Calls Tryz.prog 68 #[.string s] w fun e w' => e = .returned (.tuple #[.string ⟨#[]⟩, .bool false]) ∧ Below w.heap.size w w') := HT
    rw [hq']
    clear HT hq hq' ht
    go_enter Tryz.func52, Tryz.ntmps52
    go_wp2_with (first | (go_at_call 68; refine HT2.out.mono ?_; rintro e w1 ⟨rfl, hb1⟩) | fail)
    go_ret
    exact ⟨rfl, hb1⟩
  | some c =>
    rw [ht] at HT
    have HT2 : Hid (Calls Tryz.prog 68 #[.string s] w fun e w' => e = .returned (.tuple #[.string (strOf c), .bool true]) ∧ Below w.heap.size w w') := HT
    have hb : ((strOf c).toList == s.toList) = q := by
      rw [str_eq, hq, ht]
      refine decide_eq_decide.2 ?_
      constructor
      · intro h; rw [← h, strOf_data]
      · intro h; rw [Option.some.inj h]; rfl
    generalize strOf c = C at *
    clear HT hq ht
    go_enter Tryz.func52, Tryz.ntmps52
    go_wp2_with (first | (go_at_call 68; refine HT2.out.mono ?_; rintro e w1 ⟨rfl, hb1⟩) | fail)
    go_ret
    exact ⟨by first | rfl | (rw [← hb]; rfl), hb1⟩
end Go.Proofs.YtbdjnmbhphflbaaGreatDoor
