/-
  The library's contracts in the words of tags; the walks of bundle's isLetter, isLetterOrDigit, isAll, partForm.
-/
import Derived.Test.YtbdjnmbhphflbaaGreatDoorLt5W
import Derived.Test.YtbdjnmbhphflbaaGreatDoorShelfL
namespace Go.Proofs.YtbdjnmbhphflbaaGreatDoor
open Go.RowKit Go.Shelf Go.Lib
theorem ext155 : Builder.Extra Tryz.prog Tryz.lays155_ren where
  sizeBuilder := by kernel_rfl
  liesBuilder := by kernel_rfl
  t5 := Tryz.underlying5
  a5 := Tryz.isAgg5
  z5 := Tryz.sizeOf5
  v5 := Tryz.zeroValue5
  infoByte := by kernel_rfl
  cellsByte := by kernel_rfl
  sizeByte := by kernel_rfl
  neB5 := by decide
theorem ext158 : Builder.Extra Tryz.prog Tryz.lays158_ren where
  sizeBuilder := by kernel_rfl
  liesBuilder := by kernel_rfl
  t5 := Tryz.underlying5
  a5 := Tryz.isAgg5
  z5 := Tryz.sizeOf5
  v5 := Tryz.zeroValue5
  infoByte := by kernel_rfl
  cellsByte := by kernel_rfl
  sizeByte := by kernel_rfl
  neB5 := by decide
theorem ext159 : Builder.Extra Tryz.prog Tryz.lays159_ren where
  sizeBuilder := by kernel_rfl
  liesBuilder := by kernel_rfl
  t5 := Tryz.underlying5
  a5 := Tryz.isAgg5
  z5 := Tryz.sizeOf5
  v5 := Tryz.zeroValue5
  infoByte := by kernel_rfl
  cellsByte := by kernel_rfl
  sizeByte := by kernel_rfl
  neB5 := by decide
theorem ext156 : Builder.Extra Tryz.prog Tryz.lays156_ren where
  sizeBuilder := by kernel_rfl
  liesBuilder := by kernel_rfl
  t5 := Tryz.underlying5
  a5 := Tryz.isAgg5
  z5 := Tryz.sizeOf5
  v5 := Tryz.zeroValue5
  infoByte := by kernel_rfl
  cellsByte := by kernel_rfl
  sizeByte := by kernel_rfl
  neB5 := by decide
theorem ext230 : Builder.Extra Tryz.prog Tryz.lays230_ren where
  sizeBuilder := by kernel_rfl
  liesBuilder := by kernel_rfl
  t5 := Tryz.underlying5
  a5 := Tryz.isAgg5
  z5 := Tryz.sizeOf5
  v5 := Tryz.zeroValue5
  infoByte := by kernel_rfl
  cellsByte := by kernel_rfl
  sizeByte := by kernel_rfl
  neB5 := by decide
/-- internal/bytealg.MaxLen holds some number. -/
def Mx (w : World) : Prop := ∃ m, w.cell? ⟨11, 0, none⟩ = some (.int .i64 m)
theorem Mx.below {w w' : World} (h : Mx w) (hb : Below w.heap.size w w') : Mx w' := by
  obtain ⟨m, h⟩ := h
  exact ⟨m, (hb.cell (World.block_lt_of_cell? _ _ h)).trans h⟩
theorem count_le (s : List UInt8) (c : UInt8) : Lib.count s [c] ≤ s.length := by rw [Lib.count_one]; exact List.count_le_length
theorem repl_any (s : ByteArray) (hs : s.size ≤ 1000000) (w : World) (hm : Mx w) : Calls Tryz.prog 56 #[.string s, .string ⟨#[45]⟩, .string ⟨#[95]⟩] w fun e w' => e = .returned (.string (strOf (s.data.toList.map rep))) ∧ Below w.heap.size w w' := by
  obtain ⟨m, hm⟩ := hm
  have h := Any.strings_ReplaceAll Tryz.lays155 ext155 s ⟨#[45]⟩ ⟨#[95]⟩ m w (by omega) hm (by show 1 ≤ 1; omega) (by
    have h1 : Lib.countB s ⟨#[45]⟩ ≤ s.size := by
      have := count_le s.data.toList 45
      simpa using this
    have h2 : (⟨#[95]⟩ : ByteArray).size = 1 := rfl
    rw [h2]
    omega)
  rw [show (⟨#[45]⟩ : ByteArray).data.toList = [45] from rfl, show (⟨#[95]⟩ : ByteArray).data.toList = [95] from rfl, replaceAll_rep] at h
  exact h
theorem strOf_self (s : ByteArray) : strOf s.data.toList = s := rfl
theorem lists_inj : ∀ (D E : List ByteArray), lists D = lists E → D = E
  | [], [], _ => rfl
  | [], _ :: _, h => by simp [lists] at h
  | _ :: _, [], h => by simp [lists] at h
  | a :: D, b :: E, h => by
    simp only [lists, List.map_cons, List.cons.injEq] at h
    rw [lists_inj D E h.2]
    congr 1
    rw [← strOf_self a, ← strOf_self b, h.1]
theorem split_any (t : List UInt8) (ht : t.length ≤ 1000000) (w : World) (hm : Mx w) : Calls Tryz.prog 55 #[.string (strOf (t.map rep)), .string ⟨#[95]⟩] w fun e w' => e = .returned (.slice (some ⟨w.heap.size, 0, none⟩) (pieces t).length (pieces t).length) ∧ w' = w.alloc (.cells (cellsS ((pieces t).map strOf)).toArray 9) := by
  obtain ⟨m, hm⟩ := hm
  have h := Any.strings_Split Tryz.lays146 (by kernel_rfl) (strOf (t.map rep)) ⟨#[95]⟩ m w (by rw [strOf_size, List.length_map]; omega) hm (by show 1 ≤ 1; omega)
  have hl : Lib.splitB ⟨#[95]⟩ 0 (Lib.countB (strOf (t.map rep)) ⟨#[95]⟩) (strOf (t.map rep)) = (pieces t).map strOf := by
    refine lists_inj _ _ ?_
    have h1 := Lib.splitB_data ⟨#[95]⟩ 0 (Lib.countB (strOf (t.map rep)) ⟨#[95]⟩) (strOf (t.map rep))
    have h2 : lists ((pieces t).map strOf) = pieces t := by
      simp [lists, Function.comp_def, strOf_data]
    rw [h2, lists, h1, strOf_data]
    have h3 := split_pieces t
    rw [replaceAll_rep] at h3
    rw [← h3]
    unfold Lib.split Lib.countB
    rw [strOf_data]
  have hn := Lib.splitB_all ⟨#[95]⟩ (by show 1 ≤ 1; omega) 0 _ (strOf (t.map rep)) rfl
  rw [hl, List.length_map] at hn
  rw [hl, ← hn] at h
  exact h
theorem lower_any (s : ByteArray) (hs : s.size ≤ 1000000) (ha : ∀ b ∈ s.data.toList, b.toNat < 128) (w : World) : Calls Tryz.prog 127 #[.string s] w fun e w' => e = .returned (.string (strOf (s.data.toList.map lowerB))) ∧ Below w.heap.size w w' :=
  Any.strings_ToLower_ascii Tryz.lays159 ext159 s w (by omega) (fun j b hb => ha b (List.mem_of_getElem? hb))
theorem upper_any (s : ByteArray) (hs : s.size ≤ 1000000) (ha : ∀ b ∈ s.data.toList, b.toNat < 128) (w : World) : Calls Tryz.prog 77 #[.string s] w fun e w' => e = .returned (.string (strOf (s.data.toList.map upperB))) ∧ Below w.heap.size w w' :=
  Any.strings_ToUpper_ascii Tryz.lays158 ext158 s w (by omega) (fun j b hb => ha b (List.mem_of_getElem? hb))
theorem join_any (ps : List (List UInt8)) (bk o c : Nat) (w : World) (hsa : SA w (some ⟨bk, o, none⟩) (ps.map strOf)) (h0 : 0 < ps.length) (hN : ps.length ≤ 1000000) (hc : ps.length ≤ c) (hl : (joinU ps).length ≤ 1000000) : Calls Tryz.prog 100 #[.slice (some ⟨bk, o, none⟩) ps.length c, .string ⟨#[95]⟩] w fun e w' => e = .returned (.string (strOf (joinU ps))) ∧ Below w.heap.size w w' := by
  have e1 : (ps.map strOf).map (·.data.toList) = ps := by simp [Function.comp_def, strOf_data]
  have hb : bk < w.heap.size := by
    obtain ⟨b, o', he, h1, _⟩ := hsa.at' 0 (by simpa using h0)
    cases he
    exact h1
  have h := Any.strings_Join Tryz.lays156 ext156 bk o c (ps.map strOf) ⟨#[95]⟩ w (fun j x hx => by
    obtain ⟨hj, hx2⟩ := List.getElem?_eq_some_iff.1 hx
    obtain ⟨b, o', he, h1, h2⟩ := hsa.at' j hj
    cases he
    rw [h2, hx2]) hb (by rw [List.length_map]; omega) (by rw [List.length_map]; exact hc) (by rw [e1]; unfold joinU at hl; exact Nat.le_trans hl (by omega))
  rw [e1, List.length_map] at h
  exact h
theorem isL_int (c : UInt8) : isL c = ((decide (65 ≤ (c.toNat : Int)) && decide ((c.toNat : Int) ≤ 90)) || (decide (97 ≤ (c.toNat : Int)) && decide ((c.toNat : Int) ≤ 122))) := by
  rw [isL, isUp_int, isLo_int]
set_option maxRecDepth 10000 in
set_option maxHeartbeats 400000 in
theorem isLetter_any (c : UInt8) (w : World) : Calls Tryz.prog 97 #[.int .u8 (c.toNat : Int)] w fun e w' => e = .returned (.bool (isL c)) ∧ w' = w := by
  rw [isL_int c]
  obtain ⟨h0, h1⟩ := byteI c
  generalize (c.toNat : Int) = x at *
  by_cases a0 : 65 ≤ x <;> by_cases a1 : x ≤ 90 <;> by_cases a2 : 97 ≤ x <;> by_cases a3 : x ≤ 122 <;> first
    | (exfalso; omega)
    | (have hb : ((decide (65 ≤ x) && decide (x ≤ 90)) || (decide (97 ≤ x) && decide (x ≤ 122))) = true := by
         simp only [Bool.or_eq_true, Bool.and_eq_true, decide_eq_true_eq]; omega
       rw [hb]
       clear hb
       go_enter Tryz.func97, Tryz.ntmps97
       go_wp2
       go_ret
       exact ⟨rfl, rfl⟩)
    | (have hb : ((decide (65 ≤ x) && decide (x ≤ 90)) || (decide (97 ≤ x) && decide (x ≤ 122))) = false := by
         rw [Bool.eq_false_iff]; simp only [ne_eq, Bool.or_eq_true, Bool.and_eq_true, decide_eq_true_eq]; omega
       rw [hb]
       clear hb
       go_enter Tryz.func97, Tryz.ntmps97
       go_wp2
       go_ret
       exact ⟨rfl, rfl⟩)
set_option maxRecDepth 10000 in
set_option maxHeartbeats 400000 in
theorem isLetDig_any (c : UInt8) (w : World) : Calls Tryz.prog 98 #[.int .u8 (c.toNat : Int)] w fun e w' => e = .returned (.bool (isN c)) ∧ w' = w := by
  have HL := hid0 (isLetter_any c)
  have e1 : isN c = (isL c || (decide (48 ≤ (c.toNat : Int)) && decide ((c.toNat : Int) ≤ 57))) := by rw [isN, isDi_int]
  rw [e1]
  obtain ⟨h0, h1⟩ := byteI c
  generalize isL c = q at *
  clear e1
  generalize (c.toNat : Int) = x at *
  cases q with
  | true =>
    go_enter Tryz.func98, Tryz.ntmps98
    go_wp2_with (first | (go_at_call 97; refine (HL.out _).mono ?_; rintro e w1 ⟨rfl, rfl⟩) | fail)
    go_ret
    exact ⟨rfl, rfl⟩
  | false =>
    by_cases a0 : 48 ≤ x
    · by_cases a1 : x ≤ 57
      · have hb : (false || (decide (48 ≤ x) && decide (x ≤ 57))) = true := by simp [a0, a1]
        rw [hb]
        go_enter Tryz.func98, Tryz.ntmps98
        go_wp2_with (first | (go_at_call 97; refine (HL.out _).mono ?_; rintro e w1 ⟨rfl, rfl⟩) | fail)
        go_ret
        exact ⟨rfl, rfl⟩
      · have hb : (false || (decide (48 ≤ x) && decide (x ≤ 57))) = false := by simp [a1]
        rw [hb]
        have hd : decide (x ≤ 57) = false := by simpa using a1
        go_enter Tryz.func98, Tryz.ntmps98
        go_wp2_with (first | (go_at_call 97; refine (HL.out _).mono ?_; rintro e w1 ⟨rfl, rfl⟩) | fail)
        go_ret
        exact ⟨rfl, rfl⟩
    · have hb : (false || (decide (48 ≤ x) && decide (x ≤ 57))) = false := by simp [a0]
      rw [hb]
      go_enter Tryz.func98, Tryz.ntmps98
      go_wp2_with (first | (go_at_call 97; refine (HL.out _).mono ?_; rintro e w1 ⟨rfl, rfl⟩) | fail)
      go_ret
      exact ⟨rfl, rfl⟩
set_option maxRecDepth 10000 in
set_option maxHeartbeats 800000 in
theorem isAllL_any (s : ByteArray) (hs : s.size ≤ 1000000) (w : World) : Calls Tryz.prog 96 #[.string s, .func (.func 97) #[] #[]] w fun e w' => e = .returned (.bool (s.data.toList.all isL)) ∧ w' = w := by
  obtain ⟨R, hR⟩ : ∃ R, R = s.data.toList.all isL := ⟨_, rfl⟩
  rw [← hR]
  have HR := hid0 hR
  clear hR
  go_enter Tryz.func96, Tryz.ntmps96
  go_wp2
  go_loopw [8] (fun i wr => ∃ k : Nat, k ≤ s.size ∧ i = .int .i64 (k : Int) ∧ Hid (s.data.toList.all isL = (s.data.toList.drop k).all isL) ∧ wr = w) (fun i _ => s.size - (intOf i).toNat)
  case atStart => exact ⟨0, Nat.zero_le _, rfl, hid0 rfl, rfl⟩
  case round =>
    obtain ⟨k, hk, rfl, HA, rfl⟩ := hrel
    by_cases hlt : k < s.size
    · have HN := hid0 (all_at (p := isL) s k hlt)
      have hkI : (k : Int) < (s.size : Int) := by omega
      have hkI0 : (0 : Int) ≤ (k : Int) := by omega
      have H1 := hid0 (isLetter_any s[k])
      obtain ⟨hx0, hx1⟩ := byteI s[k]
      cases hq1 : isL s[k] with
      | true =>
        rw [hq1] at H1
        have HV : Hid (s.data.toList.all isL = (s.data.toList.drop (k + 1)).all isL) := hid0 (by rw [HA.out, HN.out]; simp [hq1])
        clear HA HN hq1
        go_wp2_with (first | (go_at_call 97; refine (H1.out _).mono ?_; rintro e w1 ⟨rfl, rfl⟩) | fail)
        go_roundw
        case rel => exact ⟨k + 1, by omega, by go_num, HV, trivial⟩
        case measure => simp [intOf]; omega
      | false =>
        rw [hq1] at H1
        have HV : Hid (s.data.toList.all isL = false) := hid0 (by rw [HA.out, HN.out]; simp [hq1])
        clear HA HN hq1
        go_wp2_with (first | (go_at_call 97; refine (H1.out _).mono ?_; rintro e w1 ⟨rfl, rfl⟩) | fail)
        go_ret
        exact ⟨by rw [HR.out, HV.out]; rfl, rfl⟩
    · have hkI : ¬ (k : Int) < (s.size : Int) := by omega
      have HV : Hid (s.data.toList.all isL = true) := hid0 (by rw [HA.out, List.drop_of_length_le (by simp; omega)]; rfl)
      go_wp2
      go_ret
      exact ⟨by rw [HR.out, HV.out]; rfl, rfl⟩
set_option maxRecDepth 10000 in
set_option maxHeartbeats 800000 in
theorem isAllN_any (s : ByteArray) (hs : s.size ≤ 1000000) (w : World) : Calls Tryz.prog 96 #[.string s, .func (.func 98) #[] #[]] w fun e w' => e = .returned (.bool (s.data.toList.all isN)) ∧ w' = w := by
  obtain ⟨R, hR⟩ : ∃ R, R = s.data.toList.all isN := ⟨_, rfl⟩
  rw [← hR]
  have HR := hid0 hR
  clear hR
  go_enter Tryz.func96, Tryz.ntmps96
  go_wp2
  go_loopw [8] (fun i wr => ∃ k : Nat, k ≤ s.size ∧ i = .int .i64 (k : Int) ∧ Hid (s.data.toList.all isN = (s.data.toList.drop k).all isN) ∧ wr = w) (fun i _ => s.size - (intOf i).toNat)
  case atStart => exact ⟨0, Nat.zero_le _, rfl, hid0 rfl, rfl⟩
  case round =>
    obtain ⟨k, hk, rfl, HA, rfl⟩ := hrel
    by_cases hlt : k < s.size
    · have HN := hid0 (all_at (p := isN) s k hlt)
      have hkI : (k : Int) < (s.size : Int) := by omega
      have hkI0 : (0 : Int) ≤ (k : Int) := by omega
      have H1 := hid0 (isLetDig_any s[k])
      obtain ⟨hx0, hx1⟩ := byteI s[k]
      cases hq1 : isN s[k] with
      | true =>
        rw [hq1] at H1
        have HV : Hid (s.data.toList.all isN = (s.data.toList.drop (k + 1)).all isN) := hid0 (by rw [HA.out, HN.out]; simp [hq1])
        clear HA HN hq1
        go_wp2_with (first | (go_at_call 98; refine (H1.out _).mono ?_; rintro e w1 ⟨rfl, rfl⟩) | fail)
        go_roundw
        case rel => exact ⟨k + 1, by omega, by go_num, HV, trivial⟩
        case measure => simp [intOf]; omega
      | false =>
        rw [hq1] at H1
        have HV : Hid (s.data.toList.all isN = false) := hid0 (by rw [HA.out, HN.out]; simp [hq1])
        clear HA HN hq1
        go_wp2_with (first | (go_at_call 98; refine (H1.out _).mono ?_; rintro e w1 ⟨rfl, rfl⟩) | fail)
        go_ret
        exact ⟨by rw [HR.out, HV.out]; rfl, rfl⟩
    · have hkI : ¬ (k : Int) < (s.size : Int) := by omega
      have HV : Hid (s.data.toList.all isN = true) := hid0 (by rw [HA.out, List.drop_of_length_le (by simp; omega)]; rfl)
      go_wp2
      go_ret
      exact ⟨by rw [HR.out, HV.out]; rfl, rfl⟩
end Go.Proofs.YtbdjnmbhphflbaaGreatDoor
