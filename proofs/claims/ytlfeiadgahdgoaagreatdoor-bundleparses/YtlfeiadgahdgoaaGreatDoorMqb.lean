/-
  Lt6W, Lt7W, Lt8W, Lt9W, Lc1W, Lc2W, Lc3W, SeqW, BegunW, CutW, RGoodW.
-/
import Derived.Test.YtlfeiadgahdgoaaGreatDoorMqa
import Derived.Deep.RegionHeld3
import Derived.Test.YtlfeiadgahdgoaaGreatDoorProg
import Derived.WalkKit
import Derived.WalkSpells
import Derived.WalkLawsBesides
import Derived.Handy
import Derived.Laws.ResultCell
import Derived.Laws.Rows
import Derived.Laws.CopyRow
import Derived.Laws.IdiomStrings
import Derived.Laws.BytesString
namespace Go.Proofs.YtlfeiadgahdgoaaGreatDoor
open Go.RowKit Go.Shelf Go.Lib
theorem ext155 : Builder.Extra Tryz.prog Tryz.lays155_ren where
  sizeBuilder := by kernel_rfl
  liesBuilder := by kernel_rfl
  t5 := Tryz.underlying5
  a5 := Tryz.isAgg5
  z5 := Tryz.sizeOf5
  v5 := Tryz.zeroValue5
  infoByte := by kernel_rfl
  cellsByte := by kernel_rfl
  sizeByte := by kernel_rfl
  neB5 := by decide
theorem ext158 : Builder.Extra Tryz.prog Tryz.lays158_ren where
  sizeBuilder := by kernel_rfl
  liesBuilder := by kernel_rfl
  t5 := Tryz.underlying5
  a5 := Tryz.isAgg5
  z5 := Tryz.sizeOf5
  v5 := Tryz.zeroValue5
  infoByte := by kernel_rfl
  cellsByte := by kernel_rfl
  sizeByte := by kernel_rfl
  neB5 := by decide
theorem ext159 : Builder.Extra Tryz.prog Tryz.lays159_ren where
  sizeBuilder := by kernel_rfl
  liesBuilder := by kernel_rfl
  t5 := Tryz.underlying5
  a5 := Tryz.isAgg5
  z5 := Tryz.sizeOf5
  v5 := Tryz.zeroValue5
  infoByte := by kernel_rfl
  cellsByte := by kernel_rfl
  sizeByte := by kernel_rfl
  neB5 := by decide
theorem ext156 : Builder.Extra Tryz.prog Tryz.lays156_ren where
  sizeBuilder := by kernel_rfl
  liesBuilder := by kernel_rfl
  t5 := Tryz.underlying5
  a5 := Tryz.isAgg5
  z5 := Tryz.sizeOf5
  v5 := Tryz.zeroValue5
  infoByte := by kernel_rfl
  cellsByte := by kernel_rfl
  sizeByte := by kernel_rfl
  neB5 := by decide
theorem ext230 : Builder.Extra Tryz.prog Tryz.lays230_ren where
  sizeBuilder := by kernel_rfl
  liesBuilder := by kernel_rfl
  t5 := Tryz.underlying5
  a5 := Tryz.isAgg5
  z5 := Tryz.sizeOf5
  v5 := Tryz.zeroValue5
  infoByte := by kernel_rfl
  cellsByte := by kernel_rfl
  sizeByte := by kernel_rfl
  neB5 := by decide
/-- internal/bytealg.MaxLen holds some number. -/
def Mx (w : World) : Prop := ∃ m, w.cell? ⟨11, 0, none⟩ = some (.int .i64 m)
theorem Mx.below {w w' : World} (h : Mx w) (hb : Below w.heap.size w w') : Mx w' := by
  obtain ⟨m, h⟩ := h
  exact ⟨m, (hb.cell (World.block_lt_of_cell? _ _ h)).trans h⟩
theorem count_le (s : List UInt8) (c : UInt8) : Lib.count s [c] ≤ s.length := by rw [Lib.count_one]; exact List.count_le_length
theorem repl_any (s : ByteArray) (hs : s.size ≤ 1000000) (w : World) (hm : Mx w) : Calls Tryz.prog 99 #[.string s, .string ⟨#[45]⟩, .string ⟨#[95]⟩] w fun e w' => e = .returned (.string (strOf (s.data.toList.map rep))) ∧ Below w.heap.size w w' := by
  obtain ⟨m, hm⟩ := hm
  have h := Any.strings_ReplaceAll Tryz.lays155 ext155 s ⟨#[45]⟩ ⟨#[95]⟩ m w (by omega) hm (by show 1 ≤ 1; omega) (by
    have h1 : Lib.countB s ⟨#[45]⟩ ≤ s.size := by
      have := count_le s.data.toList 45
      simpa using this
    have h2 : (⟨#[95]⟩ : ByteArray).size = 1 := rfl
    rw [h2]
    omega)
  rw [show (⟨#[45]⟩ : ByteArray).data.toList = [45] from rfl, show (⟨#[95]⟩ : ByteArray).data.toList = [95] from rfl, replaceAll_rep] at h
  exact h
theorem strOf_self (s : ByteArray) : strOf s.data.toList = s := rfl
theorem lists_inj : ∀ (D E : List ByteArray), lists D = lists E → D = E
  | [], [], _ => rfl
  | [], _ :: _, h => by simp [lists] at h
  | _ :: _, [], h => by simp [lists] at h
  | a :: D, b :: E, h => by
    simp only [lists, List.map_cons, List.cons.injEq] at h
    rw [lists_inj D E h.2]
    congr 1
    rw [← strOf_self a, ← strOf_self b, h.1]
theorem split_any (t : List UInt8) (ht : t.length ≤ 1000000) (w : World) (hm : Mx w) : Calls Tryz.prog 98 #[.string (strOf (t.map rep)), .string ⟨#[95]⟩] w fun e w' => e = .returned (.slice (some ⟨w.heap.size, 0, none⟩) (pieces t).length (pieces t).length) ∧ w' = w.alloc (.cells (cellsS ((pieces t).map strOf)).toArray 9) := by
  obtain ⟨m, hm⟩ := hm
  have h := Any.strings_Split Tryz.lays146 (by kernel_rfl) (strOf (t.map rep)) ⟨#[95]⟩ m w (by rw [strOf_size, List.length_map]; omega) hm (by show 1 ≤ 1; omega)
  have hl : Lib.splitB ⟨#[95]⟩ 0 (Lib.countB (strOf (t.map rep)) ⟨#[95]⟩) (strOf (t.map rep)) = (pieces t).map strOf := by
    refine lists_inj _ _ ?_
    have h1 := Lib.splitB_data ⟨#[95]⟩ 0 (Lib.countB (strOf (t.map rep)) ⟨#[95]⟩) (strOf (t.map rep))
    have h2 : lists ((pieces t).map strOf) = pieces t := by
      simp [lists, Function.comp_def, strOf_data]
    rw [h2, lists, h1, strOf_data]
    have h3 := split_pieces t
    rw [replaceAll_rep] at h3
    rw [← h3]
    unfold Lib.split Lib.countB
    rw [strOf_data]
  have hn := Lib.splitB_all ⟨#[95]⟩ (by show 1 ≤ 1; omega) 0 _ (strOf (t.map rep)) rfl
  rw [hl, List.length_map] at hn
  rw [hl, ← hn] at h
  exact h
theorem lower_any (s : ByteArray) (hs : s.size ≤ 1000000) (ha : ∀ b ∈ s.data.toList, b.toNat < 128) (w : World) : Calls Tryz.prog 137 #[.string s] w fun e w' => e = .returned (.string (strOf (s.data.toList.map lowerB))) ∧ Below w.heap.size w w' :=
  Any.strings_ToLower_ascii Tryz.lays159 ext159 s w (by omega) (fun j b hb => ha b (List.mem_of_getElem? hb))
theorem upper_any (s : ByteArray) (hs : s.size ≤ 1000000) (ha : ∀ b ∈ s.data.toList, b.toNat < 128) (w : World) : Calls Tryz.prog 138 #[.string s] w fun e w' => e = .returned (.string (strOf (s.data.toList.map upperB))) ∧ Below w.heap.size w w' :=
  Any.strings_ToUpper_ascii Tryz.lays158 ext158 s w (by omega) (fun j b hb => ha b (List.mem_of_getElem? hb))
theorem join_any (ps : List (List UInt8)) (bk o c : Nat) (w : World) (hsa : SA w (some ⟨bk, o, none⟩) (ps.map strOf)) (h0 : 0 < ps.length) (hN : ps.length ≤ 1000000) (hc : ps.length ≤ c) (hl : (joinU ps).length ≤ 1000000) : Calls Tryz.prog 104 #[.slice (some ⟨bk, o, none⟩) ps.length c, .string ⟨#[95]⟩] w fun e w' => e = .returned (.string (strOf (joinU ps))) ∧ Below w.heap.size w w' := by
  have e1 : (ps.map strOf).map (·.data.toList) = ps := by simp [Function.comp_def, strOf_data]
  have hb : bk < w.heap.size := by
    obtain ⟨b, o', he, h1, _⟩ := hsa.at' 0 (by simpa using h0)
    cases he
    exact h1
  have h := Any.strings_Join Tryz.lays156 ext156 bk o c (ps.map strOf) ⟨#[95]⟩ w (fun j x hx => by
    obtain ⟨hj, hx2⟩ := List.getElem?_eq_some_iff.1 hx
    obtain ⟨b, o', he, h1, h2⟩ := hsa.at' j hj
    cases he
    rw [h2, hx2]) hb (by rw [List.length_map]; omega) (by rw [List.length_map]; exact hc) (by rw [e1]; unfold joinU at hl; exact Nat.le_trans hl (by omega))
  rw [e1, List.length_map] at h
  exact h
theorem isL_int (c : UInt8) : isL c = ((decide (65 ≤ (c.toNat : Int)) && decide ((c.toNat : Int) ≤ 90)) || (decide (97 ≤ (c.toNat : Int)) && decide ((c.toNat : Int) ≤ 122))) := by
  rw [isL, isUp_int, isLo_int]
set_option maxRecDepth 10000 in
set_option maxHeartbeats 400000 in
theorem isLetter_any (c : UInt8) (w : World) : Calls Tryz.prog 101 #[.int .u8 (c.toNat : Int)] w fun e w' => e = .returned (.bool (isL c)) ∧ w' = w := by
  rw [isL_int c]
  obtain ⟨h0, h1⟩ := byteI c
  generalize (c.toNat : Int) = x at *
  by_cases a0 : 65 ≤ x <;> by_cases a1 : x ≤ 90 <;> by_cases a2 : 97 ≤ x <;> by_cases a3 : x ≤ 122 <;> first
    | (exfalso; omega)
    | (have hb : ((decide (65 ≤ x) && decide (x ≤ 90)) || (decide (97 ≤ x) && decide (x ≤ 122))) = true := by
         simp only [Bool.or_eq_true, Bool.and_eq_true, decide_eq_true_eq]; omega
       rw [hb]
       clear hb
       go_enter Tryz.func101, Tryz.ntmps101
       go_wp2
       go_ret
       exact ⟨rfl, rfl⟩)
    | (have hb : ((decide (65 ≤ x) && decide (x ≤ 90)) || (decide (97 ≤ x) && decide (x ≤ 122))) = false := by
         rw [Bool.eq_false_iff]; simp only [ne_eq, Bool.or_eq_true, Bool.and_eq_true, decide_eq_true_eq]; omega
       rw [hb]
       clear hb
       go_enter Tryz.func101, Tryz.ntmps101
       go_wp2
       go_ret
       exact ⟨rfl, rfl⟩)
set_option maxRecDepth 10000 in
set_option maxHeartbeats 400000 in
theorem isLetDig_any (c : UInt8) (w : World) : Calls Tryz.prog 102 #[.int .u8 (c.toNat : Int)] w fun e w' => e = .returned (.bool (isN c)) ∧ w' = w := by
  have HL := hid0 (isLetter_any c)
  have e1 : isN c = (isL c || (decide (48 ≤ (c.toNat : Int)) && decide ((c.toNat : Int) ≤ 57))) := by rw [isN, isDi_int]
  rw [e1]
  obtain ⟨h0, h1⟩ := byteI c
  generalize isL c = q at *
  clear e1
  generalize (c.toNat : Int) = x at *
  cases q with
  | true =>
    go_enter Tryz.func102, Tryz.ntmps102
    go_wp2_with (first | (go_at_call 101; refine (HL.out _).mono ?_; rintro e w1 ⟨rfl, rfl⟩) | fail)
    go_ret
    exact ⟨rfl, rfl⟩
  | false =>
    by_cases a0 : 48 ≤ x
    · by_cases a1 : x ≤ 57
      · have hb : (false || (decide (48 ≤ x) && decide (x ≤ 57))) = true := by simp [a0, a1]
        rw [hb]
        go_enter Tryz.func102, Tryz.ntmps102
        go_wp2_with (first | (go_at_call 101; refine (HL.out _).mono ?_; rintro e w1 ⟨rfl, rfl⟩) | fail)
        go_ret
        exact ⟨rfl, rfl⟩
      · have hb : (false || (decide (48 ≤ x) && decide (x ≤ 57))) = false := by simp [a1]
        rw [hb]
        have hd : decide (x ≤ 57) = false := by simpa using a1
        go_enter Tryz.func102, Tryz.ntmps102
        go_wp2_with (first | (go_at_call 101; refine (HL.out _).mono ?_; rintro e w1 ⟨rfl, rfl⟩) | fail)
        go_ret
        exact ⟨rfl, rfl⟩
    · have hb : (false || (decide (48 ≤ x) && decide (x ≤ 57))) = false := by simp [a0]
      rw [hb]
      go_enter Tryz.func102, Tryz.ntmps102
      go_wp2_with (first | (go_at_call 101; refine (HL.out _).mono ?_; rintro e w1 ⟨rfl, rfl⟩) | fail)
      go_ret
      exact ⟨rfl, rfl⟩
set_option maxRecDepth 10000 in
set_option maxHeartbeats 800000 in
theorem isAllL_any (s : ByteArray) (hs : s.size ≤ 1000000) (w : World) : Calls Tryz.prog 100 #[.string s, .func (.func 101) #[] #[]] w fun e w' => e = .returned (.bool (s.data.toList.all isL)) ∧ w' = w := by
  obtain ⟨R, hR⟩ : ∃ R, R = s.data.toList.all isL := ⟨_, rfl⟩
  rw [← hR]
  have HR := hid0 hR
  clear hR
  go_enter Tryz.func100, Tryz.ntmps100
  go_wp2
  go_loopw [8] (fun i wr => ∃ k : Nat, k ≤ s.size ∧ i = .int .i64 (k : Int) ∧ Hid (s.data.toList.all isL = (s.data.toList.drop k).all isL) ∧ wr = w) (fun i _ => s.size - (intOf i).toNat)
  case atStart => exact ⟨0, Nat.zero_le _, rfl, hid0 rfl, rfl⟩
  case round =>
    obtain ⟨k, hk, rfl, HA, rfl⟩ := hrel
    by_cases hlt : k < s.size
    · have HN := hid0 (all_at (p := isL) s k hlt)
      have hkI : (k : Int) < (s.size : Int) := by omega
      have hkI0 : (0 : Int) ≤ (k : Int) := by omega
      have H1 := hid0 (isLetter_any s[k])
      obtain ⟨hx0, hx1⟩ := byteI s[k]
      cases hq1 : isL s[k] with
      | true =>
        rw [hq1] at H1
        have HV : Hid (s.data.toList.all isL = (s.data.toList.drop (k + 1)).all isL) := hid0 (by rw [HA.out, HN.out]; simp [hq1])
        clear HA HN hq1
        go_wp2_with (first | (go_at_call 101; refine (H1.out _).mono ?_; rintro e w1 ⟨rfl, rfl⟩) | fail)
        go_roundw
        case rel => exact ⟨k + 1, by omega, by go_num, HV, trivial⟩
        case measure => simp [intOf]; omega
      | false =>
        rw [hq1] at H1
        have HV : Hid (s.data.toList.all isL = false) := hid0 (by rw [HA.out, HN.out]; simp [hq1])
        clear HA HN hq1
        go_wp2_with (first | (go_at_call 101; refine (H1.out _).mono ?_; rintro e w1 ⟨rfl, rfl⟩) | fail)
        go_ret
        exact ⟨by rw [HR.out, HV.out]; rfl, rfl⟩
    · have hkI : ¬ (k : Int) < (s.size : Int) := by omega
      have HV : Hid (s.data.toList.all isL = true) := hid0 (by rw [HA.out, List.drop_of_length_le (by simp; omega)]; rfl)
      go_wp2
      go_ret
      exact ⟨by rw [HR.out, HV.out]; rfl, rfl⟩
set_option maxRecDepth 10000 in
set_option maxHeartbeats 800000 in
theorem isAllN_any (s : ByteArray) (hs : s.size ≤ 1000000) (w : World) : Calls Tryz.prog 100 #[.string s, .func (.func 102) #[] #[]] w fun e w' => e = .returned (.bool (s.data.toList.all isN)) ∧ w' = w := by
  obtain ⟨R, hR⟩ : ∃ R, R = s.data.toList.all isN := ⟨_, rfl⟩
  rw [← hR]
  have HR := hid0 hR
  clear hR
  go_enter Tryz.func100, Tryz.ntmps100
  go_wp2
  go_loopw [8] (fun i wr => ∃ k : Nat, k ≤ s.size ∧ i = .int .i64 (k : Int) ∧ Hid (s.data.toList.all isN = (s.data.toList.drop k).all isN) ∧ wr = w) (fun i _ => s.size - (intOf i).toNat)
  case atStart => exact ⟨0, Nat.zero_le _, rfl, hid0 rfl, rfl⟩
  case round =>
    obtain ⟨k, hk, rfl, HA, rfl⟩ := hrel
    by_cases hlt : k < s.size
    · have HN := hid0 (all_at (p := isN) s k hlt)
      have hkI : (k : Int) < (s.size : Int) := by omega
      have hkI0 : (0 : Int) ≤ (k : Int) := by omega
      have H1 := hid0 (isLetDig_any s[k])
      obtain ⟨hx0, hx1⟩ := byteI s[k]
      cases hq1 : isN s[k] with
      | true =>
        rw [hq1] at H1
        have HV : Hid (s.data.toList.all isN = (s.data.toList.drop (k + 1)).all isN) := hid0 (by rw [HA.out, HN.out]; simp [hq1])
        clear HA HN hq1
        go_wp2_with (first | (go_at_call 102; refine (H1.out _).mono ?_; rintro e w1 ⟨rfl, rfl⟩) | fail)
        go_roundw
        case rel => exact ⟨k + 1, by omega, by go_num, HV, trivial⟩
        case measure => simp [intOf]; omega
      | false =>
        rw [hq1] at H1
        have HV : Hid (s.data.toList.all isN = false) := hid0 (by rw [HA.out, HN.out]; simp [hq1])
        clear HA HN hq1
        go_wp2_with (first | (go_at_call 102; refine (H1.out _).mono ?_; rintro e w1 ⟨rfl, rfl⟩) | fail)
        go_ret
        exact ⟨by rw [HR.out, HV.out]; rfl, rfl⟩
    · have hkI : ¬ (k : Int) < (s.size : Int) := by omega
      have HV : Hid (s.data.toList.all isN = true) := hid0 (by rw [HA.out, List.drop_of_length_le (by simp; omega)]; rfl)
      go_wp2
      go_ret
      exact ⟨by rw [HR.out, HV.out]; rfl, rfl⟩
end Go.Proofs.YtlfeiadgahdgoaaGreatDoor
namespace Go.Proofs.YtlfeiadgahdgoaaGreatDoor
open Go.RowKit Go.Shelf Go.Lib
/-- The form of a piece, the first or not. -/
def pf (first : Bool) (p : List UInt8) : List UInt8 := if first then p.map lowerB else formP p
theorem N_ascii {p : List UInt8} (h : p.all isN = true) : ∀ b ∈ p, b.toNat < 128 := fun b hb => fine_ascii b (by simp [fine, List.all_eq_true.1 h b hb])
set_option maxRecDepth 10000 in
set_option maxHeartbeats 800000 in
theorem partForm_any (p : List UInt8) (first : Bool) (hp : p.length ≤ 8) (hN : p.all isN = true) (w : World) : Calls Tryz.prog 103 #[.string (strOf p), .bool first] w fun e w' => e = .returned (.string (strOf (pf first p))) ∧ Below w.heap.size w w' := by
  have ha : ∀ b ∈ (strOf p).data.toList, b.toNat < 128 := by rw [strOf_data]; exact N_ascii hN
  have hz : (strOf p).size ≤ 1000000 := by rw [strOf_size]; omega
  obtain ⟨lo, hlo⟩ : ∃ lo, lo = strOf (p.map lowerB) := ⟨_, rfl⟩
  obtain ⟨up, hup⟩ : ∃ up, up = strOf (p.map upperB) := ⟨_, rfl⟩
  have HL : Hid (∀ W, Calls Tryz.prog 137 #[.string (strOf p)] W fun e w' => e = .returned (.string lo) ∧ Below W.heap.size W w') := hid0 (fun W => by have h := lower_any (strOf p) hz ha W; rw [strOf_data] at h; rw [hlo]; exact h)
  have HU : Hid (∀ W, Calls Tryz.prog 138 #[.string (strOf p)] W fun e w' => e = .returned (.string up) ∧ Below W.heap.size W w') := hid0 (fun W => by have h := upper_any (strOf p) hz ha W; rw [strOf_data] at h; rw [hup]; exact h)
  have HA : Hid (∀ W, Calls Tryz.prog 100 #[.string (strOf p), .func (.func 101) #[] #[]] W fun e w' => e = .returned (.bool (p.all isL)) ∧ w' = W) := hid0 (fun W => by have h := isAllL_any (strOf p) hz W; rw [strOf_data] at h; exact h)
  have hsz : (strOf p).size = p.length := strOf_size p
  have hlz : lo.size = p.length := by rw [hlo, strOf_size, List.length_map]
  have huz : up.size = p.length := by rw [hup, strOf_size, List.length_map]
  have HLO := hid0 hlo
  have HUP := hid0 hup
  clear ha hz hlo hup
  obtain ⟨Y, hY⟩ : ∃ Y, Y = strOf (pf first p) := ⟨_, rfl⟩
  rw [← hY]
  have HY := hid0 hY
  clear hY
  generalize strOf p = S at *
  cases first with
  | true =>
    have HV : Hid (Y = lo) := hid0 (by rw [HY.out, HLO.out]; rfl)
    go_enter Tryz.func103, Tryz.ntmps103
    go_wp2_with (first
      | (go_at_call 137; refine (HL.out _).mono ?_; rintro e w1 ⟨rfl, hb1⟩; have HB1 := hid0 hb1; clear hb1)
      | (go_at_call 138; refine (HU.out _).mono ?_; rintro e w2 ⟨rfl, hb2⟩; have HB2 := hid0 (Below.later HB1.out hb2); clear hb2))
    go_ret
    exact ⟨by rw [HV.out]; rfl, HB2.out⟩
  | false =>
    have HYF : Hid (Y = strOf (formP p)) := hid0 (by rw [HY.out]; rfl)
    clear HY
    cases hq : p.all isL with
    | false =>
      rw [hq] at HA
      have HV : Hid (Y = lo) := hid0 (by rw [HYF.out, HLO.out, formP, if_neg (fun h => by rw [hq] at h; cases h.1), if_neg (fun h => by rw [hq] at h; cases h.1)])
      clear hq
      go_enter Tryz.func103, Tryz.ntmps103
      go_wp2_with (first
        | (go_at_call 137; refine (HL.out _).mono ?_; rintro e w1 ⟨rfl, hb1⟩; have HB1 := hid0 hb1; clear hb1)
        | (go_at_call 138; refine (HU.out _).mono ?_; rintro e w2 ⟨rfl, hb2⟩; have HB2 := hid0 (Below.later HB1.out hb2); clear hb2)
        | (go_at_call 100; refine (HA.out _).mono ?_; rintro e w3 ⟨rfl, rfl⟩))
      go_ret
      exact ⟨by rw [HV.out]; rfl, HB2.out⟩
    | true =>
      rw [hq] at HA
      by_cases h2 : (p.length : Int) = 2
      · have hb2' : ((p.length : Int) == 2) = true := by simpa using h2
        have HV : Hid (Y = up) := hid0 (by rw [HYF.out, HUP.out, formP, if_neg (fun h => by omega), if_pos ⟨hq, by omega⟩])
        clear hq
        go_enter Tryz.func103, Tryz.ntmps103
        go_wp2_with (first
          | (go_at_call 137; refine (HL.out _).mono ?_; rintro e w1 ⟨rfl, hb1⟩; have HB1 := hid0 hb1; clear hb1)
          | (go_at_call 138; refine (HU.out _).mono ?_; rintro e w2 ⟨rfl, hb2⟩; have HB2 := hid0 (Below.later HB1.out hb2); clear hb2)
          | (go_at_call 100; refine (HA.out _).mono ?_; rintro e w3 ⟨rfl, rfl⟩))
        go_ret
        exact ⟨by rw [HV.out]; rfl, HB2.out⟩
      · have hb2' : ((p.length : Int) == 2) = false := by simpa using h2
        by_cases h4 : (p.length : Int) = 4
        · have hb4' : ((p.length : Int) == 4) = true := by simpa using h4
          have HV : Hid (up.extract 0 1 ++ lo.extract 1 p.length = Y) := hid0 (by
            rw [HYF.out, formP, if_pos ⟨hq, by omega⟩]
            rw [← strOf_self (up.extract 0 1), ← strOf_self (lo.extract 1 p.length), ext_head]
            have e2 : (lo.extract 1 p.length).data.toList = lo.data.toList.drop 1 := by rw [← hlz]; exact ext_tail lo 1
            rw [e2, HUP.out, HLO.out, strOf_data, strOf_data, strOf_app, List.map_take, List.map_drop])
          have hadd : ¬ 9223372036854775807 < (up.extract 0 1).size + (lo.extract 1 p.length).size := by
            have e1 : (up.extract 0 1).size ≤ up.size := by simp; omega
            have e2 : (lo.extract 1 p.length).size ≤ lo.size := by simp; omega
            omega
          have hg1 : (1 : Int) ≤ (p.length : Int) := by omega
          clear hq h2 h4
          generalize p.length = n at *
          go_enter Tryz.func103, Tryz.ntmps103
          go_wp2_with (first
            | (go_at_call 137; refine (HL.out _).mono ?_; rintro e w1 ⟨rfl, hb1⟩; have HB1 := hid0 hb1; clear hb1)
            | (go_at_call 138; refine (HU.out _).mono ?_; rintro e w2 ⟨rfl, hb2⟩; have HB2 := hid0 (Below.later HB1.out hb2); clear hb2)
            | (go_at_call 100; refine (HA.out _).mono ?_; rintro e w3 ⟨rfl, rfl⟩))
          go_quiet ((fail))
          go_wp2
          go_ret
          exact ⟨by rw [← HV.out]; rfl, ⟨HB2.out.os, HB2.out.tape, HB2.out.output, HB2.out.size, HB2.out.block⟩⟩
        · have hb4' : ((p.length : Int) == 4) = false := by simpa using h4
          have HV : Hid (Y = lo) := hid0 (by rw [HYF.out, HLO.out, formP, if_neg (fun h => by omega), if_neg (fun h => by omega)])
          clear hq
          go_enter Tryz.func103, Tryz.ntmps103
          go_wp2_with (first
            | (go_at_call 137; refine (HL.out _).mono ?_; rintro e w1 ⟨rfl, hb1⟩; have HB1 := hid0 hb1; clear hb1)
            | (go_at_call 138; refine (HU.out _).mono ?_; rintro e w2 ⟨rfl, hb2⟩; have HB2 := hid0 (Below.later HB1.out hb2); clear hb2)
            | (go_at_call 100; refine (HA.out _).mono ?_; rintro e w3 ⟨rfl, rfl⟩))
          go_ret
          exact ⟨by rw [HV.out]; rfl, HB2.out⟩
end Go.Proofs.YtlfeiadgahdgoaaGreatDoor
namespace Go.Proofs.YtlfeiadgahdgoaaGreatDoor
open Go.RowKit Go.Shelf Go.Lib
theorem owns_low {w : World} {base base' : Nat} {e : TypeId} {size : Nat} {v : Value} {n : Nat} {xs : List Value} (h : w.ownsRow base e size v n xs) (hb : base' ≤ base) : w.ownsRow base' e size v n xs :=
  ⟨h.1, h.2.imp id (fun ⟨g, cap, cur, h1, h2, h3⟩ => ⟨g, cap, cur, h1, Nat.le_trans hb h2, h3⟩)⟩
theorem canonP_at (l : List (List UInt8)) (k : Nat) (h : k < l.length) : (canonP l)[k]? = some (pf (decide (k = 0)) l[k]) := by
  cases l with
  | nil => simp at h
  | cons p r =>
    cases k with
    | zero => simp [canonP, pf]
    | succ k => simp [canonP, pf]; exact ⟨r[k]'(by simpa using h), List.getElem?_eq_getElem (by simpa using h), rfl⟩
/-- The first k pieces in their form. -/
def mid (ps : List (List UInt8)) (k : Nat) : List (List UInt8) := (canonP ps).take k ++ ps.drop k
theorem mid_len (ps : List (List UInt8)) (k : Nat) (h : k ≤ ps.length) : (mid ps k).length = ps.length := by
  simp [mid, canonP_length]; omega
theorem mid_zero (ps : List (List UInt8)) : mid ps 0 = ps := by simp [mid]
theorem mid_all (ps : List (List UInt8)) : mid ps ps.length = canonP ps := by
  simp [mid, List.take_of_length_le (Nat.le_of_eq (canonP_length ps))]
theorem mid_at (ps : List (List UInt8)) (k : Nat) (h : k < ps.length) : (mid ps k)[k]? = some ps[k] := by
  have hl : ((canonP ps).take k).length = k := by rw [List.length_take, canonP_length]; omega
  rw [mid, List.getElem?_append_right (by omega), hl, Nat.sub_self, List.getElem?_drop, Nat.add_zero, List.getElem?_eq_getElem h]
theorem mid_next (ps : List (List UInt8)) (k : Nat) (h : k < ps.length) : mid ps (k + 1) = (mid ps k).set k (pf (decide (k = 0)) ps[k]) := by
  have hl : ((canonP ps).take k).length = k := by rw [List.length_take, canonP_length]; omega
  rw [mid, mid, List.set_append_right _ _ (by omega), hl, Nat.sub_self, List.drop_eq_getElem_cons h, List.set_cons_zero, List.take_add_one, canonP_at ps k h, List.append_assoc]
  rfl
theorem pieces_len : ∀ (s : List UInt8), ∀ p ∈ pieces s, p.length ≤ s.length
  | [], p, hp => by simp [pieces] at hp; subst hp; simp
  | c :: r, p, hp => by
    have ih := pieces_len r
    unfold pieces at hp
    split at hp
    · rcases List.mem_cons.1 hp with rfl | hp
      · simp
      · have := ih p hp; simp; omega
    · cases hq : pieces r with
      | nil => exact absurd hq (pieces_ne r)
      | cons q qs =>
        rw [hq] at hp ih
        rcases List.mem_cons.1 hp with rfl | hp
        · have := ih q (by simp); simp; omega
        · have := ih p (by simp [hp]); simp; omega
theorem empty_beq (p : List UInt8) : ((strOf p).toList == []) = decide (p = []) := by
  rw [ByteArray.toList_eq, show (strOf p).data.toList = p from strOf_data p]
  cases p <;> simp
set_option maxRecDepth 10000 in
set_option maxHeartbeats 3200000 in
theorem oneForm_any (s : ByteArray) (w : World) (hm : Mx w) : Calls Tryz.prog 74 #[.string s] w fun e w' => e = .returned (tagV (tagF s.data.toList)) ∧ Below w.heap.size w w' := by
  have HTL : Hid (s.data.toList.length = s.size) := hid0 (by simp)
  by_cases h64 : (64 : Int) < (s.size : Int)
  · have HV : Hid (tagF s.data.toList = none) := hid0 (by
      unfold tagF
      rw [if_neg]
      rintro ⟨h1, _⟩
      have h4 := HTL.out
      omega)
    go_enter Tryz.func74, Tryz.ntmps74
    go_wp2
    go_returns
    exact ⟨by rw [HV.out]; rfl, Below.refl _ _⟩
  · have HLE : Hid (s.data.toList.length ≤ 64) := hid0 (by rw [HTL.out]; omega)
    have HM := hid0 hm
    obtain ⟨R, hR⟩ : ∃ R, R = strOf (s.data.toList.map rep) := ⟨_, rfl⟩
    have HRE : Hid (Calls Tryz.prog 99 #[.string s, .string ⟨#[45]⟩, .string ⟨#[95]⟩] w fun e w' => e = .returned (.string R) ∧ Below w.heap.size w w') := hid0 (by rw [hR]; exact repl_any s (by omega) w hm)
    obtain ⟨ps, hps⟩ : ∃ ps, ps = pieces s.data.toList := ⟨_, rfl⟩
    obtain ⟨n, hn⟩ : ∃ n, n = (pieces s.data.toList).length := ⟨_, rfl⟩
    obtain ⟨d0, hd0⟩ : ∃ d0, d0 = (pieces s.data.toList).headD [] := ⟨_, rfl⟩
    have hn1 : 1 ≤ n := by
      have := pieces_ne s.data.toList
      rw [hn]
      exact List.length_pos_iff.2 this
    have hn65 : n ≤ 65 := by have h1 := pieces_count s.data.toList; have h2 := HLE.out; omega
    have HSL : Hid (∀ W, Mx W → Calls Tryz.prog 98 #[.string R, .string ⟨#[95]⟩] W fun e w' => e = .returned (.slice (some ⟨W.heap.size, 0, none⟩) n n) ∧ w' = W.alloc (.cells (cellsS ((pieces s.data.toList).map strOf)).toArray 9)) := hid0 (fun W hW => by rw [hR, hn]; exact split_any s.data.toList (by have := HLE.out; omega) W hW)
    have HSW : Hid (∀ W w', w' = W.alloc (.cells (cellsS ((pieces s.data.toList).map strOf)).toArray 9) → Below W.heap.size W w' ∧ w'.cell? ⟨W.heap.size, 0, none⟩ = some (.string (strOf d0)) ∧ w'.ownsRow W.heap.size 9 1 (.slice (some ⟨W.heap.size, 0, none⟩) n n) n (cellsS ((mid (pieces s.data.toList) 0).map strOf))) := hid0 (fun W w' hw => by
      rw [hw]
      refine ⟨(Below.refl _ _).alloc (Nat.le_refl _) _, ?_, ?_⟩
      · rw [cell_of_row _ _ _ _ _ _ (heap_alloc_new W _), hd0]
        cases hq : pieces s.data.toList with
        | nil => exact absurd hq (pieces_ne _)
        | cons p r => simp [cellsS]
      · rw [mid_zero]
        have h := World.ownsRow_lit W (cellsS ((pieces s.data.toList).map strOf)).toArray n (Nat.le_refl _) (e := 9) (size := 1) (base := W.heap.size) (by unfold maxLen; omega) (by simp [cellsS, hn])
        simpa using h)
    have HAL : Hid (∀ W, Calls Tryz.prog 100 #[.string (strOf d0), .func (.func 101) #[] #[]] W fun e w' => e = .returned (.bool (d0.all isL)) ∧ w' = W) := hid0 (fun W => by
      have h := isAllL_any (strOf d0) (by rw [strOf_size, hd0]; have h1 := pieces_head_le s.data.toList; have h2 := HLE.out; omega) W
      rw [strOf_data] at h
      exact h)
    have hdz : (strOf d0).size = d0.length := strOf_size d0
    have Hn := hid0 hn
    have Hd0 := hid0 hd0
    have hnI : (0 : Int) < (n : Int) := by omega
    clear hm hR hn hd0 hps
    generalize strOf d0 = F0 at *
    have M0 : Hid True := trivial
    by_cases h2 : (d0.length : Int) < 2
    · skip
      have HV : Hid (tagF s.data.toList = none) := hid0 (by
        unfold tagF
        rw [if_neg]
        rintro ⟨_, hv⟩
        rw [validP, ← Hd0.out, ← Hn.out] at hv
        simp only [Bool.and_eq_true, decide_eq_true_eq] at hv
        have h5 := hv.1.2
        omega)
      go_enter Tryz.func74, Tryz.ntmps74
      go_wp2_with (first
        | (go_at_call 99; clear M0; refine HRE.out.mono ?_; rintro e w1 ⟨rfl, hb1⟩; have HB1 := hid0 hb1; have HSP := hid0 (HSL.out w1 (HM.out.below hb1)); have M1 : Hid True := trivial; clear hb1)
        | (go_at_call 98; clear M1; refine HSP.out.mono ?_; rintro e w2 ⟨rfl, hw2⟩; obtain ⟨hb2, hc0, ho2⟩ := HSW.out w1 w2 hw2; have HB2 := hid0 (Below.later HB1.out hb2); have HO2 := hid0 (owns_low ho2 HB1.out.size); clear hb2 ho2 hw2)
        | (go_at_call 100; refine (HAL.out _).mono ?_; rintro e w3 ⟨rfl, hw3⟩; have hw3' := hw3.symm; subst hw3'))
      go_returns
      exact ⟨by rw [HV.out]; rfl, HB2.out⟩

    · cases hq1 : d0.all isL with
      | false =>
        rw [hq1] at HAL
        have HV : Hid (tagF s.data.toList = none) := hid0 (by
          unfold tagF
          rw [if_neg]
          rintro ⟨_, hv⟩
          rw [validP, ← Hd0.out, ← Hn.out] at hv
          simp only [Bool.and_eq_true] at hv
          rw [hq1] at hv
          cases hv.1.1.2)
        go_enter Tryz.func74, Tryz.ntmps74
        go_wp2_with (first
          | (go_at_call 99; clear M0; refine HRE.out.mono ?_; rintro e w1 ⟨rfl, hb1⟩; have HB1 := hid0 hb1; have HSP := hid0 (HSL.out w1 (HM.out.below hb1)); have M1 : Hid True := trivial; clear hb1)
          | (go_at_call 98; clear M1; refine HSP.out.mono ?_; rintro e w2 ⟨rfl, hw2⟩; obtain ⟨hb2, hc0, ho2⟩ := HSW.out w1 w2 hw2; have HB2 := hid0 (Below.later HB1.out hb2); have HO2 := hid0 (owns_low ho2 HB1.out.size); clear hb2 ho2 hw2)
          | (go_at_call 100; refine (HAL.out _).mono ?_; rintro e w3 ⟨rfl, hw3⟩; have hw3' := hw3.symm; subst hw3'))
        go_returns
        exact ⟨by rw [HV.out]; rfl, HB2.out⟩

      | true =>
        rw [hq1] at HAL
        go_enter Tryz.func74, Tryz.ntmps74
        go_wp2_with (first
          | (go_at_call 99; clear M0; refine HRE.out.mono ?_; rintro e w1 ⟨rfl, hb1⟩; have HB1 := hid0 hb1; have HSP := hid0 (HSL.out w1 (HM.out.below hb1)); have M1 : Hid True := trivial; clear hb1)
          | (go_at_call 98; clear M1; refine HSP.out.mono ?_; rintro e w2 ⟨rfl, hw2⟩; obtain ⟨hb2, hc0, ho2⟩ := HSW.out w1 w2 hw2; have HB2 := hid0 (Below.later HB1.out hb2); have HO2 := hid0 (owns_low ho2 HB1.out.size); clear hb2 ho2 hw2)
          | (go_at_call 100; refine (HAL.out _).mono ?_; rintro e w3 ⟨rfl, hw3⟩; have hw3' := hw3.symm; subst hw3'))
        have HOm : Hid (w2.ownsRow w.heap.size 9 1 (.slice (some ⟨w1.heap.size, 0, none⟩) n n) n (cellsS ((mid (pieces s.data.toList) 0).map strOf))) := HO2
        go_loopw [27] (fun i wr => ∃ k : Nat, k ≤ n ∧ i = .int .i64 (k : Int) ∧ Hid (wr.ownsRow w.heap.size 9 1 (.slice (some ⟨w1.heap.size, 0, none⟩) n n) n (cellsS ((mid (pieces s.data.toList) k).map strOf))) ∧ Hid (∀ p ∈ (pieces s.data.toList).take k, goodP p = true) ∧ Hid (Below w.heap.size w wr)) (fun i _ => n - (intOf i).toNat)
        case atStart => exact ⟨0, Nat.zero_le _, rfl, HOm, hid0 (fun p hp => by simp at hp), HB2⟩
        case round =>
          clear HOm HO2 HB2
          obtain ⟨k, hk, rfl, HOr, HGr, HBr⟩ := hrel
          by_cases hlt : k < n
          · have hkI : (k : Int) < (n : Int) := by omega
            have hkI0 : (0 : Int) ≤ (k : Int) := by omega
            have hkP : k < (pieces s.data.toList).length := by rw [← Hn.out]; exact hlt
            obtain ⟨p, hp⟩ : ∃ p, (pieces s.data.toList)[k] = p := ⟨_, rfl⟩
            have Hp := hid0 hp
            have hc : wr.cell? ⟨w1.heap.size, k, none⟩ = some (.string (strOf p)) := by
              rw [World.ownsRow.cellAt HOr.out k (by omega), cellsS, List.getElem?_map, List.getElem?_map, mid_at _ k hkP, hp]
              rfl
            have hfz : wr.frozen? ⟨w1.heap.size, k, none⟩ = false := World.ownsRow.frozenAt HOr.out k
            have hpl : p.length ≤ 64 := by
              rw [← hp]
              have h1 := pieces_len s.data.toList _ (List.getElem_mem hkP)
              have h2 := HLE.out
              omega
            have HAN : Hid (∀ W, Calls Tryz.prog 100 #[.string (strOf p), .func (.func 102) #[] #[]] W fun e w' => e = .returned (.bool (p.all isN)) ∧ w' = W) := hid0 (fun W => by
              have h := isAllN_any (strOf p) (by rw [strOf_size]; omega) W
              rw [strOf_data] at h
              exact h)
            have hem := empty_beq p
            have hsz := strOf_size p
            clear hp
            by_cases hp0 : p = []
            · have hem' : ((strOf p).toList == []) = true := by rw [hem]; simpa using hp0
              have HV : Hid (tagF s.data.toList = none) := hid0 (by
                unfold tagF
                rw [if_neg]
                rintro ⟨_, hv⟩
                simp only [validP, Bool.and_eq_true] at hv
                have h5 := List.all_eq_true.1 hv.1.1.1 _ (List.getElem_mem hkP)
                rw [Hp.out, hp0] at h5
                simp [goodP] at h5)
              generalize strOf p = S at *
              clear HOr hem
              go_wp2
              go_returns
              exact ⟨by rw [HV.out]; rfl, HBr.out⟩
            · have hem' : ((strOf p).toList == []) = false := by rw [hem]; simpa using hp0
              have hp1 : 1 ≤ p.length := List.length_pos_iff.2 hp0
              by_cases h8 : (8 : Int) < (p.length : Int)
              · have HV : Hid (tagF s.data.toList = none) := hid0 (by
                  unfold tagF
                  rw [if_neg]
                  rintro ⟨_, hv⟩
                  simp only [validP, Bool.and_eq_true] at hv
                  have h5 := List.all_eq_true.1 hv.1.1.1 _ (List.getElem_mem hkP)
                  rw [Hp.out] at h5
                  simp only [goodP, Bool.and_eq_true, decide_eq_true_eq] at h5
                  omega)
                generalize strOf p = S at *
                clear HOr hem
                go_wp2
                go_returns
                exact ⟨by rw [HV.out]; rfl, HBr.out⟩
              · cases hqn : p.all isN with
                | false =>
                  rw [hqn] at HAN
                  have HV : Hid (tagF s.data.toList = none) := hid0 (by
                    unfold tagF
                    rw [if_neg]
                    rintro ⟨_, hv⟩
                    simp only [validP, Bool.and_eq_true] at hv
                    have h5 := List.all_eq_true.1 hv.1.1.1 _ (List.getElem_mem hkP)
                    rw [Hp.out] at h5
                    simp only [goodP, Bool.and_eq_true] at h5
                    rw [hqn] at h5
                    cases h5.2)
                  generalize strOf p = S at *
                  clear HOr hem
                  go_wp2_with (first | (go_at_call 100; refine (HAN.out _).mono ?_; rintro e w5 ⟨rfl, rfl⟩) | fail)
                  go_returns
                  exact ⟨by rw [HV.out]; rfl, HBr.out⟩
                | true =>
                  rw [hqn] at HAN
                  have HG2 : Hid (∀ q ∈ (pieces s.data.toList).take (k + 1), goodP q = true) := hid0 (fun q hq => by
                    rw [List.take_add_one, List.getElem?_eq_getElem hkP, Hp.out] at hq
                    rcases List.mem_append.1 hq with hq | hq
                    · exact HGr.out q hq
                    · simp at hq
                      subst hq
                      simp only [goodP, Bool.and_eq_true, decide_eq_true_eq]
                      exact ⟨⟨hp1, by omega⟩, hqn⟩)
                  obtain ⟨q0, hq0⟩ : ∃ q0, q0 = decide (k = 0) := ⟨_, rfl⟩
                  have hk0 : ((k : Int) == 0) = q0 := by rw [hq0, Bool.eq_iff_iff]; simp
                  obtain ⟨X, hX⟩ : ∃ X, X = strOf (pf q0 p) := ⟨_, rfl⟩
                  have HPF : Hid (Calls Tryz.prog 103 #[.string (strOf p), .bool q0] wr fun e w' => e = .returned (.string X) ∧ Below wr.heap.size wr w') := hid0 (by rw [hX]; exact partForm_any p q0 (by omega) hqn wr)
                  have HST : Hid (∀ W, Below wr.heap.size wr W → W.cell? ⟨w1.heap.size, k, none⟩ = some (.string (strOf p)) ∧ W.frozen? ⟨w1.heap.size, k, none⟩ = false ∧ Hid ((W.setCell ⟨w1.heap.size, k, none⟩ (.string X)).ownsRow w.heap.size 9 1 (.slice (some ⟨w1.heap.size, 0, none⟩) n n) n (cellsS ((mid (pieces s.data.toList) (k + 1)).map strOf))) ∧ Hid (Below w.heap.size w (W.setCell ⟨w1.heap.size, k, none⟩ (.string X)))) := hid0 (fun W hW => by
                    have h1 := World.ownsRow.kept HOr.out (row := none) (w' := W) ⟨hW.os, hW.tape, hW.output, hW.size, fun k hk _ => hW.block k hk⟩ (by simp [Value.ownBlock])
                    refine ⟨(hW.cell (World.block_lt_of_cell? _ _ hc)).trans hc, World.ownsRow.frozenAt h1 k, ?_, (Below.later HBr.out hW).setCell HB1.out.size _⟩
                    have h2 := (World.ownsRow.stored h1 k (.string X)).1
                    rw [mid_next _ k hkP, Hp.out, ← hq0, List.map_set, cellsS, List.map_set, ← hX]
                    exact h2)
                  clear hX hq0 HOr HGr hem Hp
                  generalize strOf p = S at *
                  go_wp2_with (first
                    | (go_at_call 100; refine (HAN.out _).mono ?_; rintro e w5 ⟨rfl, hw5⟩; have hw5' := hw5.symm; subst hw5')
                    | (go_at_call 103; refine HPF.out.mono ?_; rintro e w6 ⟨rfl, h6⟩; obtain ⟨hc6, hf6, HO6, HB6⟩ := HST.out w6 h6; clear h6))
                  go_roundw
                  case rel => exact ⟨k + 1, by omega, by go_num, HO6, HG2, HB6⟩
                  case measure => simp [intOf]; omega
          · have hkI : ¬ (k : Int) < (n : Int) := by omega
            have hkn : k = (pieces s.data.toList).length := by rw [← Hn.out]; omega
            have HGA : Hid ((pieces s.data.toList).all goodP = true) := hid0 (List.all_eq_true.2 (fun p hp => HGr.out p (by rw [hkn, List.take_of_length_le (Nat.le_refl _)]; exact hp)))
            have HOA : Hid (wr.ownsRow w.heap.size 9 1 (.slice (some ⟨w1.heap.size, 0, none⟩) n n) n (cellsS ((canonP (pieces s.data.toList)).map strOf))) := hid0 (by
              have h := HOr.out
              rw [hkn, mid_all] at h
              exact h)
            obtain ⟨C0, hC0⟩ : ∃ C0, C0 = strOf (d0.map lowerB) := ⟨_, rfl⟩
            have hcc : wr.cell? ⟨w1.heap.size, 0, none⟩ = some (.string C0) := by
              rw [World.ownsRow.cellAt HOA.out 0 (by omega), hC0]
              have h := Hd0.out
              cases hq : pieces s.data.toList with
              | nil => exact absurd hq (pieces_ne _)
              | cons p r =>
                rw [hq] at h
                simp only [List.headD_cons] at h
                rw [h]
                simp [canonP, cellsS]
            have hBr : (C0.toList == [114, 111, 111, 116]) = decide (d0.map lowerB = rootL) := by
              rw [hC0]
              exact root_beq _
            clear HOr HGr hC0 hkn
            cases hq2 : decide (d0.map lowerB = rootL) with
            | true =>
              rw [hq2] at hBr
              by_cases hn2 : (1 : Int) < (n : Int)
              · have HV : Hid (tagF s.data.toList = none) := hid0 (by
                  unfold tagF
                  rw [if_neg]
                  rintro ⟨_, hv⟩
                  rw [validP, ← Hd0.out, ← Hn.out] at hv
                  simp only [Bool.and_eq_true, Bool.not_eq_true', Bool.and_eq_false_iff, beq_eq_false_iff_ne, decide_eq_false_iff_not] at hv
                  have h5 := of_decide_eq_true hq2
                  rcases hv.2 with h6 | h6
                  · exact h6 h5
                  · omega)
                clear HOA
                go_wp2
                go_returns
                exact ⟨by rw [HV.out]; rfl, HBr.out⟩
              · skip
                have HV : Hid (tagF s.data.toList = some (joinU (canonP (pieces s.data.toList)))) := hid0 (by
                  have hv : validP (pieces s.data.toList) = true := by
                    rw [validP, ← Hd0.out, ← Hn.out, HGA.out, hq1]
                    simp only [Bool.true_and, Bool.and_eq_true, decide_eq_true_eq, Bool.not_eq_true', Bool.and_eq_false_iff, decide_eq_false_iff_not]
                    exact ⟨by omega, .inr (by omega)⟩
                  unfold tagF
                  rw [if_pos ⟨HLE.out, hv⟩])
                obtain ⟨J, hJ⟩ : ∃ J, J = strOf (joinU (canonP (pieces s.data.toList))) := ⟨_, rfl⟩
                have HJ : Hid (Calls Tryz.prog 104 #[.slice (some ⟨w1.heap.size, 0, none⟩) n n, .string ⟨#[95]⟩] wr fun e w' => e = .returned (.string J) ∧ Below wr.heap.size wr w') := hid0 (by
                  have hcl : (canonP (pieces s.data.toList)).length = n := by rw [canonP_length, ← Hn.out]
                  have hsa : SA wr (some ⟨w1.heap.size, 0, none⟩) ((canonP (pieces s.data.toList)).map strOf) := ⟨fun k hk => ⟨w1.heap.size, 0, rfl, (World.ownsRow.lt HOA.out _ rfl).2, by
                    have hk' : k < n := by rw [List.length_map, hcl] at hk; exact hk
                    rw [Nat.zero_add, World.ownsRow.cellAt HOA.out k (by omega), cellsS, List.getElem?_map, List.getElem?_eq_getElem hk]
                    rfl⟩⟩
                  have h := join_any (canonP (pieces s.data.toList)) w1.heap.size 0 n wr hsa (by omega) (by omega) (by omega) (by
                    have h1 := joinU_le (canonP (pieces s.data.toList)) (canonP_le (good_le HGA.out))
                    omega)
                  rw [hcl] at h
                  rw [hJ]
                  exact h)
                have HE : Hid (tagV (tagF s.data.toList) = .tuple #[.string J, .bool true]) := hid0 (by rw [HV.out, hJ]; rfl)
                clear HOA HV hJ
                go_wp2_with (go_at_call 104; refine HJ.out.mono ?_; rintro e w7 ⟨rfl, hb7⟩)
                go_returns
                exact ⟨by rw [HE.out]; rfl, Below.later HBr.out hb7⟩

            | false =>
              rw [hq2] at hBr
              have HV : Hid (tagF s.data.toList = some (joinU (canonP (pieces s.data.toList)))) := hid0 (by
                have hv : validP (pieces s.data.toList) = true := by
                  rw [validP, ← Hd0.out, ← Hn.out, HGA.out, hq1]
                  simp only [Bool.true_and, Bool.and_eq_true, decide_eq_true_eq, Bool.not_eq_true', Bool.and_eq_false_iff, beq_eq_false_iff_ne]
                  exact ⟨by omega, .inl (of_decide_eq_false hq2)⟩
                unfold tagF
                rw [if_pos ⟨HLE.out, hv⟩])
              obtain ⟨J, hJ⟩ : ∃ J, J = strOf (joinU (canonP (pieces s.data.toList))) := ⟨_, rfl⟩
              have HJ : Hid (Calls Tryz.prog 104 #[.slice (some ⟨w1.heap.size, 0, none⟩) n n, .string ⟨#[95]⟩] wr fun e w' => e = .returned (.string J) ∧ Below wr.heap.size wr w') := hid0 (by
                have hcl : (canonP (pieces s.data.toList)).length = n := by rw [canonP_length, ← Hn.out]
                have hsa : SA wr (some ⟨w1.heap.size, 0, none⟩) ((canonP (pieces s.data.toList)).map strOf) := ⟨fun k hk => ⟨w1.heap.size, 0, rfl, (World.ownsRow.lt HOA.out _ rfl).2, by
                  have hk' : k < n := by rw [List.length_map, hcl] at hk; exact hk
                  rw [Nat.zero_add, World.ownsRow.cellAt HOA.out k (by omega), cellsS, List.getElem?_map, List.getElem?_eq_getElem hk]
                  rfl⟩⟩
                have h := join_any (canonP (pieces s.data.toList)) w1.heap.size 0 n wr hsa (by omega) (by omega) (by omega) (by
                  have h1 := joinU_le (canonP (pieces s.data.toList)) (canonP_le (good_le HGA.out))
                  omega)
                rw [hcl] at h
                rw [hJ]
                exact h)
              have HE : Hid (tagV (tagF s.data.toList) = .tuple #[.string J, .bool true]) := hid0 (by rw [HV.out, hJ]; rfl)
              clear HOA HV hJ
              go_wp2_with (go_at_call 104; refine HJ.out.mono ?_; rintro e w7 ⟨rfl, hb7⟩)
              go_returns
              exact ⟨by rw [HE.out]; rfl, Below.later HBr.out hb7⟩

set_option maxRecDepth 10000 in
set_option maxHeartbeats 400000 in
theorem isOneForm_any (s : ByteArray) (w : World) (hm : Mx w) : Calls Tryz.prog 42 #[.string s] w fun e w' => e = .returned (.bool (decide (tagF s.data.toList = some s.data.toList))) ∧ Below w.heap.size w w' := by
  have HT := hid0 (oneForm_any s w hm)
  clear hm
  obtain ⟨q, hq⟩ : ∃ q, q = decide (tagF s.data.toList = some s.data.toList) := ⟨_, rfl⟩
  rw [← hq]
  cases ht : tagF s.data.toList with
  | none =>
    rw [ht] at HT
    have hq' : q = false := by rw [hq, ht]; rfl
    have HT2 : Hid (Calls Tryz.prog 74 #[.string s] w fun e w' => e = .returned (.tuple #[.string ⟨#[]⟩, .bool false]) ∧ Below w.heap.size w w') := HT
    rw [hq']
    clear HT hq hq' ht
    go_enter Tryz.func42, Tryz.ntmps42
    go_wp2_with (first | (go_at_call 74; refine HT2.out.mono ?_; rintro e w1 ⟨rfl, hb1⟩) | fail)
    go_ret
    exact ⟨rfl, hb1⟩
  | some c =>
    rw [ht] at HT
    have HT2 : Hid (Calls Tryz.prog 74 #[.string s] w fun e w' => e = .returned (.tuple #[.string (strOf c), .bool true]) ∧ Below w.heap.size w w') := HT
    have hb : ((strOf c).toList == s.toList) = q := by
      rw [str_eq, hq, ht]
      refine decide_eq_decide.2 ?_
      constructor
      · intro h; rw [← h, strOf_data]
      · intro h; rw [Option.some.inj h]; rfl
    generalize strOf c = C at *
    clear HT hq ht
    go_enter Tryz.func42, Tryz.ntmps42
    go_wp2_with (first | (go_at_call 74; refine HT2.out.mono ?_; rintro e w1 ⟨rfl, hb1⟩) | fail)
    go_ret
    exact ⟨by first | rfl | (rw [← hb]; rfl), hb1⟩
end Go.Proofs.YtlfeiadgahdgoaaGreatDoor
namespace Go.Proofs.YtlfeiadgahdgoaaGreatDoor
open Go.RowKit Go.Shelf Go.Lib
set_option maxRecDepth 10000 in
set_option maxHeartbeats 400000 in
theorem indexNone (a : Option Addr) (c : Nat) (f : Value) (w : World) : Calls Tryz.prog 105 #[.slice a 0 c, f] w fun e w' => e = .returned (.int .i64 (-1)) ∧ w' = w := by
  go_enter Tryz.func105, Tryz.ntmps105
  go_wp2
  go_loopw [8] (fun i wr => i = .int .i64 0 ∧ wr = w) (fun _ _ => 0)
  case atStart => exact ⟨rfl, rfl⟩
  case round =>
    obtain ⟨rfl, rfl⟩ := hrel
    go_wp2
    go_ret
    exact ⟨rfl, rfl⟩
set_option maxRecDepth 10000 in
set_option maxHeartbeats 400000 in
theorem containsNone (a : Option Addr) (c : Nat) (f : Value) (w : World) : Calls Tryz.prog 75 #[.slice a 0 c, f] w fun e w' => e = .returned (.bool false) ∧ w' = w := by
  have H := hid0 (indexNone a c f w)
  go_enter Tryz.func75, Tryz.ntmps75
  go_wp2_with (go_at_call 105; refine H.out.mono ?_; rintro e w1 ⟨rfl, rfl⟩)
  go_ret
  exact ⟨rfl, rfl⟩
set_option maxRecDepth 10000 in
set_option maxHeartbeats 400000 in
theorem hasNone (a : Option Addr) (c : Nat) (s : ByteArray) (w : World) : Calls Tryz.prog 43 #[.slice a 0 c, .string s] w fun e w' => e = .returned (.bool false) ∧ Below w.heap.size w w' := by
  have H := hid0 (containsNone a c)
  have HB : Hid (Below w.heap.size w (w.alloc (.cells #[.string s] 9))) := hid0 ((Below.refl _ _).alloc (Nat.le_refl _) _)
  go_enter Tryz.func43, Tryz.ntmps43
  go_wp2_with (go_at_call 75; refine (H.out _ _).mono ?_; rintro e w1 ⟨rfl, rfl⟩)
  go_ret
  exact ⟨rfl, HB.out⟩
set_option maxRecDepth 10000 in
set_option maxHeartbeats 800000 in
theorem countNone (g c : Nat) (s : ByteArray) (w : World) (c0 : w.cell? ⟨g, 0, none⟩ = some (.string s)) (c1 : w.cell? ⟨g, 1, none⟩ = some (.string ⟨#[]⟩)) (c2 : w.cell? ⟨g, 2, none⟩ = some (.slice none 0 0)) :
    Calls Tryz.prog 24 #[.slice (some ⟨g, 0, none⟩) 1 c] w fun e w' => e = .returned (.int .i64 0) ∧ Below w.heap.size w w' := by
  have HB : Hid (Below w.heap.size w (w.alloc (.cells #[.string s, .string ⟨#[]⟩, .slice none 0 0] 38))) := hid0 ((Below.refl _ _).alloc (Nat.le_refl _) _)
  go_enter Tryz.func24, Tryz.ntmps24
  go_wp2
  refine wp_loop_rounds 2 ?_
  rw [rounds_succ]
  go_wp2
  rw [rounds_succ]
  go_wp2
  go_ret
  exact ⟨rfl, HB.out⟩
def errT (A : Nat → Addr) (i : Nat) : Value := .iface 216 (.pointer (some (A i)))
def isTagB (s : ByteArray) : Bool := decide (tagF s.data.toList = some s.data.toList)
set_option maxRecDepth 10000 in
set_option maxHeartbeats 800000 in
theorem checkSec_one (A : Nat → Addr) (s : ByteArray) (a : Option Addr) (c : Nat) (w : World) (hm : Mx w) (he : Sents w A) :
    Calls Tryz.prog 25 #[.agg #[.string s, .string ⟨#[]⟩, .slice none 0 0], .slice a 0 c] w fun e w' => e = .returned (if isTagB s then .nilIface else .iface 216 (.pointer (some (A 1)))) ∧ Below w.heap.size w w' := by
  obtain ⟨w0, hw0⟩ : ∃ w0, w0 = w.alloc (.cells #[.string s, .string ⟨#[]⟩, .slice none 0 0] 38) := ⟨_, rfl⟩
  have hB0 : Below w.heap.size w w0 := by rw [hw0]; exact (Below.refl _ _).alloc (Nat.le_refl _) _
  have hX0 : w0.heap[w.heap.size]? = some (.cells #[.string s, .string ⟨#[]⟩, .slice none 0 0] 38 (0, 0)) := by rw [hw0]; exact heap_alloc_new w _
  have hs0 : w0.heap.size = w.heap.size + 1 := by rw [hw0]; simp
  have HXW : Hid (∀ W, Below w0.heap.size w0 W → W.cell? ⟨w.heap.size, 0, none⟩ = some (.string s) ∧ W.cell? ⟨w.heap.size, 1, none⟩ = some (.string ⟨#[]⟩) ∧ W.cell? ⟨w.heap.size, 2, none⟩ = some (.slice none 0 0) ∧ W.cell? ⟨1, 0, none⟩ = some (.iface 216 (.pointer (some (A 1))))) := hid0 (fun W hW => by
    have hr := (hW.block w.heap.size (by omega)).trans hX0
    exact ⟨by rw [cell_of_row _ _ _ _ _ _ hr]; rfl, by rw [cell_of_row _ _ _ _ _ _ hr]; rfl, by rw [cell_of_row _ _ _ _ _ _ hr]; rfl, ((he.below hB0).below hW).c1⟩)
  have HO := hid0 (isOneForm_any s w0 (hm.below hB0))
  have HH := hid0 (hasNone a c s)
  have HB0 := hid0 hB0
  obtain ⟨x0, x1, x2, x3⟩ := HXW.out w0 (Below.refl _ _)
  have hfold := hw0.symm
  clear hw0 hB0 hX0 hs0 hm he
  unfold isTagB
  cases hq : decide (tagF s.data.toList = some s.data.toList) with
  | false =>
    rw [hq] at HO
    simp only [Bool.false_eq_true, if_false]
    clear hq
    go_enter Tryz.func25, Tryz.ntmps25
    go_wp2_with (first | (go_at_call 42; refine HO.out.mono ?_; rintro e w1 ⟨rfl, hb1⟩; obtain ⟨x0, x1, x2, x3⟩ := HXW.out w1 hb1; have HB1 := hid0 (Below.later HB0.out hb1); clear hb1) | fail)
    go_ret
    exact ⟨rfl, HB1.out⟩
  | true =>
    rw [hq] at HO
    simp only [if_true]
    clear hq
    have hem : ((⟨#[]⟩ : ByteArray).toList == []) = true := (empty_beq []).trans (by simp)
    go_enter Tryz.func25, Tryz.ntmps25
    go_wp2_with (first
      | (go_at_call 42; refine HO.out.mono ?_; rintro e w1 ⟨rfl, hb1⟩; obtain ⟨x0, x1, x2, x3⟩ := HXW.out w1 hb1; have HB1 := hid0 hb1; clear hb1)
      | (go_at_call 43; refine (HH.out w1).mono ?_; rintro e w2 ⟨rfl, hb2⟩; obtain ⟨y0, y1, y2, y3⟩ := HXW.out w2 (Below.later HB1.out hb2); have HB2 := hid0 (Below.later HB1.out hb2); clear hb2))
    refine wp_loop_rounds 1 ?_
    rw [rounds_succ]
    go_wp2
    go_ret
    exact ⟨rfl, Below.later HB0.out HB2.out⟩
set_option maxRecDepth 10000 in
set_option maxHeartbeats 1600000 in
theorem check_one (A : Nat → Addr) (s : ByteArray) (g c : Nat) (w : World) (hc : 1 ≤ c) (hm : Mx w) (he : Sents w A) (c0 : w.cell? ⟨g, 0, none⟩ = some (.string s)) (c1 : w.cell? ⟨g, 1, none⟩ = some (.string ⟨#[]⟩)) (c2 : w.cell? ⟨g, 2, none⟩ = some (.slice none 0 0)) :
    Calls Tryz.prog 11 #[.agg #[.slice (some ⟨g, 0, none⟩) 1 c]] w fun e w' => e = .returned (if isTagB s then .nilIface else .iface 216 (.pointer (some (A 1)))) ∧ Below w.heap.size w w' := by
  obtain ⟨w0, hw0⟩ : ∃ w0, w0 = w.alloc (.cells #[.slice (some ⟨g, 0, none⟩) 1 c] 24) := ⟨_, rfl⟩
  have hB0 : Below w.heap.size w w0 := by rw [hw0]; exact (Below.refl _ _).alloc (Nat.le_refl _) _
  have hX0 : w0.heap[w.heap.size]? = some (.cells #[.slice (some ⟨g, 0, none⟩) 1 c] 24 (0, 0)) := by rw [hw0]; exact heap_alloc_new w _
  have hs0 : w0.heap.size = w.heap.size + 1 := by rw [hw0]; simp
  have HXW : Hid (∀ W, Below w0.heap.size w0 W → W.cell? ⟨w.heap.size, 0, none⟩ = some (.slice (some ⟨g, 0, none⟩) 1 c) ∧ W.cell? ⟨g, 0, none⟩ = some (.string s) ∧ W.cell? ⟨g, 1, none⟩ = some (.string ⟨#[]⟩) ∧ W.cell? ⟨g, 2, none⟩ = some (.slice none 0 0)) := hid0 (fun W hW => by
    have hr := (hW.block w.heap.size (by omega)).trans hX0
    have hb := Below.later hB0 hW
    exact ⟨by rw [cell_of_row _ _ _ _ _ _ hr]; rfl, (hb.cell (World.block_lt_of_cell? _ _ c0)).trans c0, (hb.cell (World.block_lt_of_cell? _ _ c1)).trans c1, (hb.cell (World.block_lt_of_cell? _ _ c2)).trans c2⟩)
  obtain ⟨x0, x1, x2, x3⟩ := HXW.out w0 (Below.refl _ _)
  have HN := hid0 (countNone g c s w0 x1 x2 x3)
  have HCS : Hid (∀ W, Below w0.heap.size w0 W → Calls Tryz.prog 25 #[.agg #[.string s, .string ⟨#[]⟩, .slice none 0 0], .slice (some ⟨g, 0, none⟩) 0 c] W fun e w' => e = .returned (if isTagB s then .nilIface else .iface 216 (.pointer (some (A 1)))) ∧ Below W.heap.size W w') := hid0 (fun W hW => checkSec_one A s (some ⟨g, 0, none⟩) c W ((hm.below hB0).below hW) ((he.below hB0).below hW))
  have HB0 := hid0 hB0
  have hfold := hw0.symm
  have hcI : (0 : Int) ≤ (c : Int) := by omega
  clear hw0 hB0 hX0 hs0 hm he c0 c1 c2
  cases hq : isTagB s with
  | false =>
    rw [hq] at HCS
    simp only [Bool.false_eq_true, if_false] at HCS ⊢
    clear hq
    go_enter Tryz.func11, Tryz.ntmps11
    go_wp2_with (first | (go_at_call 24; refine HN.out.mono ?_; rintro e w1 ⟨rfl, hb1⟩; obtain ⟨x0, x1, x2, x3⟩ := HXW.out w1 hb1; have HB1 := hid0 hb1; clear hb1) | fail)
    obtain ⟨w2, hw2⟩ : ∃ w2, w2 = w1.alloc (.cells #[.string s, .string ⟨#[]⟩, .slice none 0 0] 38) := ⟨_, rfl⟩
    have hb12 : Below w1.heap.size w1 w2 := by rw [hw2]; exact (Below.refl _ _).alloc (Nat.le_refl _) _
    have hs2 : w2.heap.size = w1.heap.size + 1 := by rw [hw2]; simp
    have hr2 : w2.heap[w1.heap.size]? = some (.cells #[.string s, .string ⟨#[]⟩, .slice none 0 0] 38 (0, 0)) := by rw [hw2]; exact heap_alloc_new w1 _
    have HB02 : Hid (Below w0.heap.size w0 w2) := hid0 (Below.later HB1.out hb12)
    have HSo : Hid (∀ W, Below w2.heap.size w2 W → W.cell? ⟨w.heap.size, 0, none⟩ = some (.slice (some ⟨g, 0, none⟩) 1 c) ∧ W.cell? ⟨w1.heap.size, 0, none⟩ = some (.string s) ∧ W.cell? ⟨w1.heap.size, 1, none⟩ = some (.string ⟨#[]⟩) ∧ W.cell? ⟨w1.heap.size, 2, none⟩ = some (.slice none 0 0) ∧ Below w2.heap.size w2 W) := hid0 (fun W hW => by
      have hr := (hW.block w1.heap.size (by omega)).trans hr2
      exact ⟨(HXW.out W (Below.later HB02.out hW)).1, by rw [cell_of_row _ _ _ _ _ _ hr]; rfl, by rw [cell_of_row _ _ _ _ _ _ hr]; rfl, by rw [cell_of_row _ _ _ _ _ _ hr]; rfl, hW⟩)
    have HCS2 : Hid (∀ W, Below w2.heap.size w2 W → Calls Tryz.prog 25 #[.agg #[.string s, .string ⟨#[]⟩, .slice none 0 0], .slice (some ⟨g, 0, none⟩) 0 c] W fun e w' => e = .returned (.iface 216 (.pointer (some (A 1)))) ∧ Below w2.heap.size w2 w') := hid0 (fun W hW => (HCS.out W (Below.later HB02.out hW)).mono (fun e w' h => ⟨h.1, Below.later hW h.2⟩))
    have HEND : Hid (∀ W, Below w2.heap.size w2 W → Below w.heap.size w W) := hid0 (fun W hW => Below.later HB0.out (Below.later HB02.out hW))
    have HX3 : Hid (∀ W, Below w2.heap.size w2 W → W.cell? ⟨w.heap.size, 0, none⟩ = some (.slice (some ⟨g, 0, none⟩) 1 c)) := hid0 (fun W hW => (HSo.out W hW).1)
    have HF2 := hid0 hw2
    clear hw2 hb12 hs2 hr2 HCS HN
    refine wp_loop_rounds 2 ?_
    rw [rounds_succ]
    go_wp2
    rw [← HF2.out]
    obtain ⟨z0, z1, z2, z3, hBB⟩ := HSo.out w2 (Below.refl _ _)
    go_region_held3 (fun W => W.cell? ⟨w.heap.size, 0, none⟩ = some (.slice (some ⟨g, 0, none⟩) 1 c) ∧ W.cell? ⟨w1.heap.size, 0, none⟩ = some (.string s) ∧ W.cell? ⟨w1.heap.size, 1, none⟩ = some (.string ⟨#[]⟩) ∧ W.cell? ⟨w1.heap.size, 2, none⟩ = some (.slice none 0 0) ∧ Below w2.heap.size w2 W) (first | exact HSo.out _ (by go_grown) | (go_split_ands; exact HSo.out _ (by go_grown)))
      (first | (go_at_call 25; go_split_ands; refine (HCS2.out _ (by go_grown)).mono ?_; rintro e w3 ⟨rfl, hb3⟩))
    go_wp2
    go_ret
    exact ⟨rfl, HEND.out _ (by assumption)⟩

  | true =>
    rw [hq] at HCS
    simp only [if_true] at HCS ⊢
    clear hq
    go_enter Tryz.func11, Tryz.ntmps11
    go_wp2_with (first | (go_at_call 24; refine HN.out.mono ?_; rintro e w1 ⟨rfl, hb1⟩; obtain ⟨x0, x1, x2, x3⟩ := HXW.out w1 hb1; have HB1 := hid0 hb1; clear hb1) | fail)
    obtain ⟨w2, hw2⟩ : ∃ w2, w2 = w1.alloc (.cells #[.string s, .string ⟨#[]⟩, .slice none 0 0] 38) := ⟨_, rfl⟩
    have hb12 : Below w1.heap.size w1 w2 := by rw [hw2]; exact (Below.refl _ _).alloc (Nat.le_refl _) _
    have hs2 : w2.heap.size = w1.heap.size + 1 := by rw [hw2]; simp
    have hr2 : w2.heap[w1.heap.size]? = some (.cells #[.string s, .string ⟨#[]⟩, .slice none 0 0] 38 (0, 0)) := by rw [hw2]; exact heap_alloc_new w1 _
    have HB02 : Hid (Below w0.heap.size w0 w2) := hid0 (Below.later HB1.out hb12)
    have HSo : Hid (∀ W, Below w2.heap.size w2 W → W.cell? ⟨w.heap.size, 0, none⟩ = some (.slice (some ⟨g, 0, none⟩) 1 c) ∧ W.cell? ⟨w1.heap.size, 0, none⟩ = some (.string s) ∧ W.cell? ⟨w1.heap.size, 1, none⟩ = some (.string ⟨#[]⟩) ∧ W.cell? ⟨w1.heap.size, 2, none⟩ = some (.slice none 0 0) ∧ Below w2.heap.size w2 W) := hid0 (fun W hW => by
      have hr := (hW.block w1.heap.size (by omega)).trans hr2
      exact ⟨(HXW.out W (Below.later HB02.out hW)).1, by rw [cell_of_row _ _ _ _ _ _ hr]; rfl, by rw [cell_of_row _ _ _ _ _ _ hr]; rfl, by rw [cell_of_row _ _ _ _ _ _ hr]; rfl, hW⟩)
    have HCS2 : Hid (∀ W, Below w2.heap.size w2 W → Calls Tryz.prog 25 #[.agg #[.string s, .string ⟨#[]⟩, .slice none 0 0], .slice (some ⟨g, 0, none⟩) 0 c] W fun e w' => e = .returned .nilIface ∧ Below w2.heap.size w2 w') := hid0 (fun W hW => (HCS.out W (Below.later HB02.out hW)).mono (fun e w' h => ⟨h.1, Below.later hW h.2⟩))
    have HEND : Hid (∀ W, Below w2.heap.size w2 W → Below w.heap.size w W) := hid0 (fun W hW => Below.later HB0.out (Below.later HB02.out hW))
    have HX3 : Hid (∀ W, Below w2.heap.size w2 W → W.cell? ⟨w.heap.size, 0, none⟩ = some (.slice (some ⟨g, 0, none⟩) 1 c)) := hid0 (fun W hW => (HSo.out W hW).1)
    have HF2 := hid0 hw2
    clear hw2 hb12 hs2 hr2 HCS HN
    refine wp_loop_rounds 2 ?_
    rw [rounds_succ]
    go_wp2
    rw [← HF2.out]
    obtain ⟨z0, z1, z2, z3, hBB⟩ := HSo.out w2 (Below.refl _ _)
    go_region_held3 (fun W => W.cell? ⟨w.heap.size, 0, none⟩ = some (.slice (some ⟨g, 0, none⟩) 1 c) ∧ W.cell? ⟨w1.heap.size, 0, none⟩ = some (.string s) ∧ W.cell? ⟨w1.heap.size, 1, none⟩ = some (.string ⟨#[]⟩) ∧ W.cell? ⟨w1.heap.size, 2, none⟩ = some (.slice none 0 0) ∧ Below w2.heap.size w2 W) (first | exact HSo.out _ (by go_grown) | (go_split_ands; exact HSo.out _ (by go_grown)))
      (first | (go_at_call 25; go_split_ands; refine (HCS2.out _ (by go_grown)).mono ?_; rintro e w3 ⟨rfl, hb3⟩))
    go_wp2
    rw [rounds_succ]
    go_wp2
    go_ret
    exact ⟨rfl, HEND.out _ (by assumption)⟩
end Go.Proofs.YtlfeiadgahdgoaaGreatDoor
namespace Go.Proofs.YtlfeiadgahdgoaaGreatDoor
open Go.RowKit Go.Shelf Go.Lib
/-- A section as it is given. -/
structure Sec where
  loc : ByteArray
  par : ByteArray
  ed : List (Bool × ByteArray)
/-- Edits in memory. -/
structure EA (w : World) (a : Option Addr) (L : List (Bool × ByteArray)) : Prop where
  at' : ∀ k (h : k < L.length), ∃ b off, a = some ⟨b, off, none⟩ ∧ b < w.heap.size ∧ w.cell? ⟨b, off + k * 2, none⟩ = some (.bool L[k].1) ∧ w.cell? ⟨b, off + k * 2 + 1, none⟩ = some (.string L[k].2)
theorem EA.later {w w' : World} {a : Option Addr} {L : List (Bool × ByteArray)} (h : EA w a L) (hb : Below w.heap.size w w') : EA w' a L := ⟨fun k hk => by
  obtain ⟨b, off, rfl, hl, h0, h1⟩ := h.at' k hk
  exact ⟨b, off, rfl, Nat.lt_of_lt_of_le hl hb.size, (hb.cell (p := ⟨b, off + k * 2, none⟩) hl).trans h0, (hb.cell (p := ⟨b, off + k * 2 + 1, none⟩) hl).trans h1⟩⟩
/-- Sections in memory. -/
structure XA (w : World) (a : Option Addr) (L : List Sec) : Prop where
  at' : ∀ k (h : k < L.length), ∃ b off ae ce, a = some ⟨b, off, none⟩ ∧ b < w.heap.size ∧ w.cell? ⟨b, off + k * 3, none⟩ = some (.string L[k].loc) ∧ w.cell? ⟨b, off + k * 3 + 1, none⟩ = some (.string L[k].par) ∧ w.cell? ⟨b, off + k * 3 + 2, none⟩ = some (.slice ae L[k].ed.length ce) ∧ EA w ae L[k].ed
theorem XA.later {w w' : World} {a : Option Addr} {L : List Sec} (h : XA w a L) (hb : Below w.heap.size w w') : XA w' a L := ⟨fun k hk => by
  obtain ⟨b, off, ae, ce, rfl, hl, h0, h1, h2, h3⟩ := h.at' k hk
  exact ⟨b, off, ae, ce, rfl, Nat.lt_of_lt_of_le hl hb.size, (hb.cell (p := ⟨b, off + k * 3, none⟩) hl).trans h0, (hb.cell (p := ⟨b, off + k * 3 + 1, none⟩) hl).trans h1, (hb.cell (p := ⟨b, off + k * 3 + 2, none⟩) hl).trans h2, h3.later hb⟩⟩
theorem XA.take {w : World} {a : Option Addr} {L : List Sec} (h : XA w a L) (n : Nat) : XA w a (L.take n) := ⟨fun k hk => by
  have hk2 : k < L.length := by rw [List.length_take] at hk; omega
  rw [List.getElem_take]
  exact h.at' k hk2⟩
set_option maxRecDepth 10000 in
set_option maxHeartbeats 400000 in
theorem same_loc (l p t : ByteArray) (v : Value) (g : Nat) (w : World) (hg : w.cell? ⟨g, 0, none⟩ = some (.string t)) :
    Calls Tryz.prog 76 #[.agg #[.string l, .string p, v], .pointer (some ⟨g, 0, none⟩)] w fun e w' => e = .returned (.bool (decide (l = t))) ∧ Below w.heap.size w w' := by
  have hgl := World.block_lt_of_cell? w _ hg
  have HB : Hid (Below w.heap.size w (w.alloc (.cells #[.string l, .string p, v] 38))) := hid0 ((Below.refl _ _).alloc (Nat.le_refl _) _)
  have y0 : (w.alloc (.cells #[.string l, .string p, v] 38)).cell? ⟨g, 0, none⟩ = some (.string t) := (HB.out.cell hgl).trans hg
  go_enter Tryz.func76, Tryz.ntmps76
  have hse := str_eq l t
  generalize decide (l = t) = d at *
  go_wp2
  go_ret
  exact ⟨by simp, HB.out⟩
/-- Does one of them have that locale? -/
def hasL (L : List Sec) (t : ByteArray) : Bool := L.any fun s => decide (s.loc = t)
theorem hasL_iff (L : List Sec) (t : ByteArray) : hasL L t = true ↔ ∃ k, ∃ h : k < L.length, L[k].loc = t := by
  unfold hasL
  rw [List.any_eq_true]
  constructor
  · rintro ⟨s, hs, h⟩
    obtain ⟨k, hk, rfl⟩ := List.getElem_of_mem hs
    exact ⟨k, hk, of_decide_eq_true h⟩
  · rintro ⟨k, hk, h⟩
    exact ⟨L[k], List.getElem_mem hk, decide_eq_true h⟩
set_option maxRecDepth 10000 in
set_option maxHeartbeats 800000 in
theorem index_loc (L : List Sec) (a : Option Addr) (ca : Nat) (t : ByteArray) (g : Nat) (w : World) (hl : L.length ≤ 1000000) (ha : XA w a L) (hg : w.cell? ⟨g, 0, none⟩ = some (.string t)) :
    Calls Tryz.prog 105 #[.slice a L.length ca, .func (.func 76) #[] #[.pointer (some ⟨g, 0, none⟩)]] w fun e w' => (∃ r : Int, e = .returned (.int .i64 r) ∧ (0 ≤ r ↔ hasL L t = true)) ∧ Below w.heap.size w w' := by
  have hgl := World.block_lt_of_cell? w _ hg
  have HG : Hid (∀ W, Below w.heap.size w W → W.cell? ⟨g, 0, none⟩ = some (.string t)) := hid0 (fun W hW => (hW.cell (p := ⟨g, 0, none⟩) hgl).trans hg)
  have HA := hid0 ha
  have HB0 := hid0 (Below.refl w.heap.size w)
  clear ha hg hgl
  go_enter Tryz.func105, Tryz.ntmps105
  go_wp2
  go_loopw [8] (fun v wr => ∃ i : Nat, i ≤ L.length ∧ v = .int .i64 (i : Int) ∧ Hid (∀ k (h : k < L.length), k < i → L[k].loc ≠ t) ∧ Hid (Below w.heap.size w wr)) (fun v _ => L.length - (intOf v).toNat)
  case atStart => exact ⟨0, Nat.zero_le _, rfl, hid0 (fun k _ h => absurd h (Nat.not_lt_zero _)), HB0⟩
  case round =>
    obtain ⟨i, hi, rfl, HN, HB⟩ := hrel
    by_cases hlt : i < L.length
    · have hiI : (i : Int) < (L.length : Int) := by omega
      have hi0 : (0 : Int) ≤ (i : Int) := by omega
      obtain ⟨b, off, ae, ce, rfl, hbl, c0, c1, c2, _⟩ := (HA.out.later HB.out).at' i hlt
      have HS := hid0 (same_loc L[i].loc L[i].par t (.slice ae L[i].ed.length ce) g wr (HG.out _ HB.out))
      have HD : Hid (L[i].loc = t → hasL L t = true) := hid0 (fun h => (hasL_iff L t).2 ⟨i, hlt, h⟩)
      have HN2 : Hid (L[i].loc ≠ t → ∀ k (h : k < L.length), k < i + 1 → L[k].loc ≠ t) := hid0 (fun hne k h hk => by
        by_cases e : k = i
        · subst e; exact hne
        · exact HN.out k h (by omega))
      generalize L[i].loc = l at *
      generalize L[i].par = p at *
      generalize L[i].ed.length = n at *
      cases hd : decide (l = t) with
      | true =>
        rw [hd] at HS
        have HV := hid0 (HD.out (of_decide_eq_true hd))
        clear HD HN2 HN hd
        go_wp2_with (go_at_call 76; refine HS.out.mono ?_; rintro e w1 ⟨rfl, hb1⟩; have HB1 := hid0 (HB.out.trans (hb1.mono HB.out.size)); clear hb1)
        go_ret
        exact ⟨⟨_, rfl, by simp [HV.out]⟩, HB1.out⟩
      | false =>
        rw [hd] at HS
        have HV := hid0 (HN2.out (of_decide_eq_false hd))
        clear HD HN2 HN hd
        go_wp2_with (go_at_call 76; refine HS.out.mono ?_; rintro e w1 ⟨rfl, hb1⟩; have HB1 := hid0 (HB.out.trans (hb1.mono HB.out.size)); clear hb1)
        go_roundw
        case rel => exact ⟨i + 1, by omega, by go_num, HV, HB1⟩
        case measure => simp [intOf]; omega
    · have hiI : ¬ (i : Int) < (L.length : Int) := by omega
      have HV : Hid (hasL L t = false) := hid0 (by
        rw [Bool.eq_false_iff]
        intro h
        obtain ⟨k, hk, e⟩ := (hasL_iff L t).1 h
        exact HN.out k hk (by omega) e)
      clear HN HA
      go_wp2
      go_ret
      exact ⟨⟨-1, rfl, by simp [HV.out]⟩, HB.out⟩
set_option maxRecDepth 10000 in
set_option maxHeartbeats 400000 in
theorem contains_loc (L : List Sec) (a : Option Addr) (ca : Nat) (t : ByteArray) (g : Nat) (w : World) (hl : L.length ≤ 1000000) (ha : XA w a L) (hg : w.cell? ⟨g, 0, none⟩ = some (.string t)) :
    Calls Tryz.prog 75 #[.slice a L.length ca, .func (.func 76) #[] #[.pointer (some ⟨g, 0, none⟩)]] w fun e w' => e = .returned (.bool (hasL L t)) ∧ Below w.heap.size w w' := by
  have H := hid0 (index_loc L a ca t g w hl ha hg)
  go_enter Tryz.func75, Tryz.ntmps75
  go_wp2_with (go_at_call 105; refine H.out.mono ?_; rintro e w1 ⟨⟨r, rfl, hr⟩, hb⟩)
  go_ret
  refine ⟨?_, hb⟩
  cases hq : hasL L t <;> simp [hq] at hr ⊢ <;> omega
set_option maxRecDepth 10000 in
set_option maxHeartbeats 400000 in
theorem has_any (L : List Sec) (a : Option Addr) (ca : Nat) (t : ByteArray) (w : World) (hl : L.length ≤ 1000000) (ha : XA w a L) :
    Calls Tryz.prog 43 #[.slice a L.length ca, .string t] w fun e w' => e = .returned (.bool (hasL L t)) ∧ Below w.heap.size w w' := by
  have HB : Hid (Below w.heap.size w (w.alloc (.cells #[.string t] 9))) := hid0 ((Below.refl _ _).alloc (Nat.le_refl _) _)
  have H := hid0 (contains_loc L a ca t w.heap.size (w.alloc (.cells #[.string t] 9)) hl (ha.later HB.out) (by rw [cell_of_row _ _ _ _ _ _ (heap_alloc_new w (.cells #[.string t] 9))]; rfl))
  clear ha
  go_enter Tryz.func43, Tryz.ntmps43
  go_wp2_with (go_at_call 75; refine H.out.mono ?_; rintro e w1 ⟨rfl, hb⟩; have HB1 := hid0 (HB.out.trans (hb.mono HB.out.size)))
  go_ret
  exact ⟨rfl, HB1.out⟩
/-- How many edits. -/
def nEd (L : List Sec) : Nat := (L.map fun s => s.ed.length).sum
theorem nEd_more (L : List Sec) (k : Nat) (h : k < L.length) : nEd (L.take (k + 1)) = nEd (L.take k) + L[k].ed.length := by
  have e : L.take (k + 1) = L.take k ++ [L[k]] := by rw [List.take_add_one, List.getElem?_eq_getElem h]; rfl
  unfold nEd
  rw [e, List.map_append, List.sum_append]
  simp
theorem nEd_le (c : Nat) (L : List Sec) (hb : ∀ s ∈ L, s.ed.length ≤ c) : ∀ k, nEd (L.take k) ≤ k * c
  | 0 => by simp [nEd]
  | k + 1 => by
    have ih := nEd_le c L hb k
    rw [Nat.succ_mul]
    by_cases h : k < L.length
    · rw [nEd_more L k h]
      have := hb L[k] (List.getElem_mem h)
      omega
    · rw [List.take_of_length_le (by omega)] at ih ⊢
      omega
set_option maxRecDepth 10000 in
set_option maxHeartbeats 800000 in
theorem count_any (L : List Sec) (a : Option Addr) (ca : Nat) (w : World) (hl : L.length ≤ 500) (hb : ∀ s ∈ L, s.ed.length ≤ 140737488355328) (ha : XA w a L) :
    Calls Tryz.prog 24 #[.slice a L.length ca] w fun e w' => e = .returned (.int .i64 (nEd L : Nat)) ∧ Below w.heap.size w w' := by
  have HA := hid0 ha
  have HN := hid0 (nEd_le 140737488355328 L hb)
  have HB0 := hid0 (Below.refl w.heap.size w)
  have HL : Hid (∀ k (h : k < L.length), L[k].ed.length ≤ 140737488355328) := hid0 (fun k h => hb _ (List.getElem_mem h))
  clear ha hb
  go_enter Tryz.func24, Tryz.ntmps24
  go_wp2
  go_loopw [3, 8] (fun v t wr => ∃ i : Nat, i ≤ L.length ∧ v = .int .i64 (nEd (L.take i) : Nat) ∧ t = .int .i64 (i : Int) ∧ Hid (Below w.heap.size w wr)) (fun _ t _ => L.length - (intOf t).toNat)
  case atStart => exact ⟨0, Nat.zero_le _, rfl, rfl, HB0⟩
  case round =>
    obtain ⟨i, hi, rfl, rfl, HB⟩ := hrel
    by_cases hlt : i < L.length
    · have hiI : (i : Int) < (L.length : Int) := by omega
      have hi0 : (0 : Int) ≤ (i : Int) := by omega
      obtain ⟨b, off, ae, ce, rfl, hbl, c0, c1, c2, _⟩ := (HA.out.later HB.out).at' i hlt
      have HM := hid0 (nEd_more L i hlt)
      have z1 := HN.out i
      have z2 := HL.out i hlt
      have hsum : IntKind.i64.wrap ((nEd (L.take i) : Int) + (L[i].ed.length : Int)) = (nEd (L.take i) : Int) + (L[i].ed.length : Int) := IntWalk.i64_in _ (by omega)
      have HBo := hid0 (fun o => HB.out.alloc HB.out.size o)
      generalize nEd (L.take i) = x at *
      generalize L[i].loc = l at *
      generalize L[i].par = p at *
      generalize L[i].ed.length = n at *
      go_wp2
      go_roundw
      case rel => exact ⟨i + 1, by omega, by rw [HM.out]; go_num, by go_num, HBo.out _⟩
      case measure => simp [intOf]; omega
    · have hiI : ¬ (i : Int) < (L.length : Int) := by omega
      have HE : Hid (nEd (L.take i) = nEd L) := hid0 (by rw [List.take_of_length_le (by omega)])
      go_wp2
      go_ret
      exact ⟨congrArg (fun n : Nat => Ending.returned (.int .i64 (n : Int))) HE.out, HB.out⟩
end Go.Proofs.YtlfeiadgahdgoaaGreatDoor
namespace Go.Proofs.YtlfeiadgahdgoaaGreatDoor
open Go.RowKit Go.Shelf Go.Lib
/-- The first that answers, from i on, of m. -/
def firstN (f : Nat → Option Nat) : Nat → Nat → Option Nat
  | _, 0 => none
  | i, m + 1 => match f i with
    | some x => some x
    | none => firstN f (i + 1) m
theorem firstN_none (f : Nat → Option Nat) : ∀ (m i : Nat), (∀ j, i ≤ j → j < i + m → f j = none) → firstN f i m = none
  | 0, _, _ => rfl
  | m + 1, i, h => by
    rw [firstN, h i (Nat.le_refl _) (by omega)]
    exact firstN_none f m (i + 1) (fun j h1 h2 => h j (by omega) (by omega))
theorem firstN_at (f : Nat → Option Nat) (k x : Nat) (hx : f k = some x) : ∀ (m i : Nat), i ≤ k → k < i + m → (∀ j, i ≤ j → j < k → f j = none) → firstN f i m = some x
  | 0, i, h1, h2, _ => by omega
  | m + 1, i, h1, h2, h => by
    by_cases e : i = k
    · subst e; rw [firstN, hx]
    · rw [firstN, h i (Nat.le_refl _) (by omega)]
      exact firstN_at f k x hx m (i + 1) (by omega) (by omega) (fun j a b => h j (by omega) b)
def fE (E : ByteArray → Option Nat) (L : List (Bool × ByteArray)) (k : Nat) : Option Nat := match L[k]? with
  | some x => E x.2
  | none => none
theorem fE_at (E : ByteArray → Option Nat) (L : List (Bool × ByteArray)) (k : Nat) (h : k < L.length) : fE E L k = E L[k].2 := by
  unfold fE
  rw [List.getElem?_eq_getElem h]
/-- What checkSection answers: the number of the refusal. -/
def secE (E : ByteArray → Option Nat) (s : Sec) (ahead : List Sec) : Option Nat :=
  if isTagB s.loc = false then some 1 else if hasL ahead s.loc = true then some 4 else if (s.par.toList == []) = false ∧ isTagB s.par = false then some 1
  else if (s.par.toList == []) = false ∧ (s.loc.toList == [114, 111, 111, 116]) = true then some 0 else firstN (fE E s.ed) 0 s.ed.length
def errO (A : Nat → Addr) : Option Nat → Value
  | none => .nilIface
  | some i => .iface 216 (.pointer (some (A i)))
set_option maxRecDepth 10000 in
set_option maxHeartbeats 3200000 in
theorem checkSec_any (E : ByteArray → Option Nat) (A : Nat → Addr) (s : Sec) (ae : Option Addr) (ce : Nat) (Ah : List Sec) (a : Option Addr) (c : Nat) (w : World) (hl : Ah.length ≤ 1000000) (hn : s.ed.length ≤ 140737488355328) (hm : Mx w) (he : Sents w A) (ha : XA w a Ah) (hed : EA w ae s.ed) (hz : ∀ e ∈ s.ed, e.2.size ≤ 140737488355328)
    (hE : ∀ x W, x.size ≤ 140737488355328 → Below w.heap.size w W → Calls Tryz.prog 44 #[.string x] W fun e w' => e = .returned (errO A (E x)) ∧ Below W.heap.size W w') :
    Calls Tryz.prog 25 #[.agg #[.string s.loc, .string s.par, .slice ae s.ed.length ce], .slice a Ah.length c] w fun e w' => e = .returned (errO A (secE E s Ah)) ∧ Below w.heap.size w w' := by
  obtain ⟨w0, hw0⟩ : ∃ w0, w0 = w.alloc (.cells #[.string s.loc, .string s.par, .slice ae s.ed.length ce] 38) := ⟨_, rfl⟩
  have hB0 : Below w.heap.size w w0 := by rw [hw0]; exact (Below.refl _ _).alloc (Nat.le_refl _) _
  have hX0 : w0.heap[w.heap.size]? = some (.cells #[.string s.loc, .string s.par, .slice ae s.ed.length ce] 38 (0, 0)) := by rw [hw0]; exact heap_alloc_new w _
  have hs0 : w0.heap.size = w.heap.size + 1 := by rw [hw0]; simp
  have HXW : Hid (∀ W, Below w0.heap.size w0 W → W.cell? ⟨w.heap.size, 0, none⟩ = some (.string s.loc) ∧ W.cell? ⟨w.heap.size, 1, none⟩ = some (.string s.par) ∧ W.cell? ⟨w.heap.size, 2, none⟩ = some (.slice ae s.ed.length ce) ∧ W.cell? ⟨1, 0, none⟩ = some (.iface 216 (.pointer (some (A 1)))) ∧ W.cell? ⟨4, 0, none⟩ = some (.iface 216 (.pointer (some (A 4)))) ∧ W.cell? ⟨2, 0, none⟩ = some (.iface 216 (.pointer (some (A 0))))) := hid0 (fun W hW => by
    have hr := (hW.block w.heap.size (by omega)).trans hX0
    have h2 := (he.below hB0).below hW
    exact ⟨by rw [cell_of_row _ _ _ _ _ _ hr]; rfl, by rw [cell_of_row _ _ _ _ _ _ hr]; rfl, by rw [cell_of_row _ _ _ _ _ _ hr]; rfl, h2.c1, h2.c4, h2.c0⟩)
  have HO1 : Hid (∀ W, Below w0.heap.size w0 W → Calls Tryz.prog 42 #[.string s.loc] W fun e w' => e = .returned (.bool (isTagB s.loc)) ∧ Below w0.heap.size w0 w') := hid0 (fun W hW => (isOneForm_any s.loc W ((hm.below hB0).below hW)).mono (fun e w' h => ⟨h.1, Below.later hW h.2⟩))
  have HO2 : Hid (∀ W, Below w0.heap.size w0 W → Calls Tryz.prog 42 #[.string s.par] W fun e w' => e = .returned (.bool (isTagB s.par)) ∧ Below w0.heap.size w0 w') := hid0 (fun W hW => (isOneForm_any s.par W ((hm.below hB0).below hW)).mono (fun e w' h => ⟨h.1, Below.later hW h.2⟩))
  have HH : Hid (∀ W, Below w0.heap.size w0 W → Calls Tryz.prog 43 #[.slice a Ah.length c, .string s.loc] W fun e w' => e = .returned (.bool (hasL Ah s.loc)) ∧ Below w0.heap.size w0 w') := hid0 (fun W hW => (has_any Ah a c s.loc W hl ((ha.later hB0).later hW)).mono (fun e w' h => ⟨h.1, Below.later hW h.2⟩))
  have HEn : Hid (∀ x W, x.size ≤ 140737488355328 → Below w0.heap.size w0 W → Calls Tryz.prog 44 #[.string x] W fun e w' => e = .returned (errO A (E x)) ∧ Below w0.heap.size w0 w') := hid0 (fun x W hx hW => (hE x W hx (Below.later hB0 hW)).mono (fun e w' h => ⟨h.1, Below.later hW h.2⟩))
  have HED : Hid (∀ W, Below w0.heap.size w0 W → EA W ae s.ed) := hid0 (fun W hW => (hed.later hB0).later hW)
  have HB0 := hid0 hB0
  obtain ⟨x0, x1, x2, x3, x4, x5⟩ := HXW.out w0 (Below.refl _ _)
  have HBr := hid0 (Below.refl w0.heap.size w0)
  have hfold := hw0.symm
  clear hw0 hB0 hX0 hs0 hm he hE ha hed
  obtain ⟨R, hR⟩ : ∃ R, R = secE E s Ah := ⟨_, rfl⟩
  have HR := hid0 hR
  unfold secE at hR
  rw [← HR.out]
  obtain ⟨l, p, ed⟩ := s
  simp only at *
  have HZ := hid0 hz
  clear hz
  obtain ⟨q1, h1⟩ : ∃ q1, isTagB l = q1 := ⟨_, rfl⟩
  obtain ⟨q2, h2⟩ : ∃ q2, hasL Ah l = q2 := ⟨_, rfl⟩
  obtain ⟨q3, h3⟩ : ∃ q3, isTagB p = q3 := ⟨_, rfl⟩
  obtain ⟨q4, h4⟩ : ∃ q4, (p.toList == []) = q4 := ⟨_, rfl⟩
  obtain ⟨q5, h5⟩ : ∃ q5, (l.toList == [114, 111, 111, 116]) = q5 := ⟨_, rfl⟩
  rw [h1] at HO1 hR
  rw [h2] at HH hR
  rw [h3] at HO2 hR
  rw [h4, h5] at hR
  clear h1 h2 h3 HR
  cases q1 with
  | false =>
    simp only [if_true] at hR
    clear h4 h5
    go_enter Tryz.func25, Tryz.ntmps25
    have mk := hid0 True.intro
    go_wp2_with (first
      | (clear mk; go_at_call 42; refine (HO1.out _ HBr.out).mono ?_; rintro e w1 ⟨rfl, hb1⟩; obtain ⟨x0, x1, x2, x3, x4, x5⟩ := HXW.out w1 hb1; have HB1 := hid0 hb1; clear hb1)
      | fail)
    go_ret
    exact ⟨by rw [hR]; rfl, Below.later HB0.out HB1.out⟩
  | true =>
    simp only [Bool.true_eq_false, if_false] at hR
    cases q2 with
    | true =>
      simp only [if_true] at hR
      clear h4 h5
      go_enter Tryz.func25, Tryz.ntmps25
      have mk := hid0 True.intro
      go_wp2_with (first
        | (clear mk; go_at_call 42; refine (HO1.out _ HBr.out).mono ?_; rintro e w1 ⟨rfl, hb1⟩; obtain ⟨x0, x1, x2, x3, x4, x5⟩ := HXW.out w1 hb1; have HB1 := hid0 hb1; clear hb1)
        | (go_at_call 43; refine (HH.out _ HB1.out).mono ?_; rintro e w2 ⟨rfl, hb2⟩; obtain ⟨y0, y1, y2, y3, y4, y5⟩ := HXW.out w2 hb2; have HB2 := hid0 hb2; clear hb2)
        | fail)
      go_ret
      exact ⟨by rw [hR]; rfl, Below.later HB0.out HB2.out⟩
    | false =>
      simp only [Bool.false_eq_true, if_false] at hR
      cases q4 with
      | true =>
        simp only [Bool.true_eq_false, false_and, if_false] at hR
        clear h5
        go_enter Tryz.func25, Tryz.ntmps25
        have mk := hid0 True.intro
        go_wp2_with (first
          | (clear mk; go_at_call 42; refine (HO1.out _ HBr.out).mono ?_; rintro e w1 ⟨rfl, hb1⟩; obtain ⟨x0, x1, x2, x3, x4, x5⟩ := HXW.out w1 hb1; have HB1 := hid0 hb1; clear hb1)
          | (go_at_call 43; refine (HH.out _ HB1.out).mono ?_; rintro e w2 ⟨rfl, hb2⟩; obtain ⟨y0, y1, y2, y3, y4, y5⟩ := HXW.out w2 hb2; have HB2 := hid0 hb2; clear hb2)
          | fail)
        go_loopw [44] (fun v wr => ∃ k : Nat, k ≤ ed.length ∧ v = .int .i64 (k : Int) ∧ Hid (∀ j, j < k → fE E ed j = none) ∧ Hid (Below w0.heap.size w0 wr)) (fun v _ => ed.length - (intOf v).toNat)
        case atStart => exact ⟨0, Nat.zero_le _, rfl, hid0 (fun j h => absurd h (Nat.not_lt_zero _)), HB2⟩
        case round =>
          obtain ⟨k, hk, rfl, HN, HB⟩ := hrel
          by_cases hlt : k < ed.length
          · have hkI : (k : Int) < (ed.length : Int) := by omega
            have hk0 : (0 : Int) ≤ (k : Int) := by omega
            obtain ⟨b, off, rfl, hbl, c0, c1⟩ := (HED.out wr HB.out).at' k hlt
            have HBo := hid0 (fun o => HB.out.alloc HB.out.size o)
            have hzk := HZ.out _ (List.getElem_mem hlt)
            have HCk := hid0 (fun o => HEn.out ed[k].2 _ hzk (HBo.out o))
            clear hzk
            have hfe := fE_at E ed k hlt
            generalize ed[k].1 = ad at *
            generalize ed[k].2 = x at *
            cases hx : E x with
            | some i =>
              have HV : Hid (R = some i) := hid0 (by rw [hR]; exact firstN_at _ k i (by rw [hfe, hx]) _ 0 (Nat.zero_le _) (by omega) (fun j _ h => HN.out j h))
              rw [hx] at HCk
              simp only [errO] at HCk
              clear hfe hx hR HN HEn
              go_wp2_with (first
                | (go_at_call 44; refine (HCk.out _).mono ?_; rintro e w5 ⟨rfl, hb5⟩; have HB5 := hid0 hb5; clear hb5)
                | fail)
              go_ret
              exact ⟨by rw [HV.out]; rfl, Below.later HB0.out HB5.out⟩
            | none =>
              have HV : Hid (∀ j, j < k + 1 → fE E ed j = none) := hid0 (fun j hj => by
                by_cases e : j = k
                · rw [e, hfe, hx]
                · exact HN.out j (by omega))
              rw [hx] at HCk
              simp only [errO] at HCk
              clear hfe hx HN
              go_wp2_with (first
                | (go_at_call 44; refine (HCk.out _).mono ?_; rintro e w5 ⟨rfl, hb5⟩; have HB5 := hid0 hb5; clear hb5)
                | fail)
              go_roundw
              case rel => exact ⟨k + 1, by omega, by go_num, HV, HB5⟩
              case measure => simp [intOf]; omega
          · have hkI : ¬ (k : Int) < (ed.length : Int) := by omega
            have HV : Hid (R = none) := hid0 (by rw [hR]; exact firstN_none _ _ 0 (fun j _ h => HN.out j (by omega)))
            clear hR HN HEn HED
            go_wp2
            go_ret
            exact ⟨by rw [HV.out]; rfl, Below.later HB0.out HB.out⟩
      | false =>
        simp only [true_and] at hR
        cases q3 with
        | false =>
          simp only [if_true] at hR
          clear h5
          go_enter Tryz.func25, Tryz.ntmps25
          have mk := hid0 True.intro
          go_wp2_with (first
            | (clear mk; go_at_call 42; refine (HO1.out _ HBr.out).mono ?_; rintro e w1 ⟨rfl, hb1⟩; obtain ⟨x0, x1, x2, x3, x4, x5⟩ := HXW.out w1 hb1; have HB1 := hid0 hb1; clear hb1)
            | (go_at_call 43; refine (HH.out _ HB1.out).mono ?_; rintro e w2 ⟨rfl, hb2⟩; obtain ⟨y0, y1, y2, y3, y4, y5⟩ := HXW.out w2 hb2; have HB2 := hid0 hb2; clear hb2)
            | (go_at_call 42; refine (HO2.out _ HB2.out).mono ?_; rintro e w3 ⟨rfl, hb3⟩; obtain ⟨z0, z1, z2, z3, z4, z5⟩ := HXW.out w3 hb3; have HB3 := hid0 hb3; clear hb3)
            | fail)
          go_ret
          exact ⟨by rw [hR]; rfl, Below.later HB0.out HB3.out⟩
        | true =>
          simp only [Bool.true_eq_false, if_false] at hR
          cases q5 with
          | true =>
            simp only [if_true] at hR
            go_enter Tryz.func25, Tryz.ntmps25
            have mk := hid0 True.intro
            go_wp2_with (first
              | (clear mk; go_at_call 42; refine (HO1.out _ HBr.out).mono ?_; rintro e w1 ⟨rfl, hb1⟩; obtain ⟨x0, x1, x2, x3, x4, x5⟩ := HXW.out w1 hb1; have HB1 := hid0 hb1; clear hb1)
              | (go_at_call 43; refine (HH.out _ HB1.out).mono ?_; rintro e w2 ⟨rfl, hb2⟩; obtain ⟨y0, y1, y2, y3, y4, y5⟩ := HXW.out w2 hb2; have HB2 := hid0 hb2; clear hb2)
              | (go_at_call 42; refine (HO2.out _ HB2.out).mono ?_; rintro e w3 ⟨rfl, hb3⟩; obtain ⟨z0, z1, z2, z3, z4, z5⟩ := HXW.out w3 hb3; have HB3 := hid0 hb3; clear hb3)
              | fail)
            go_ret
            exact ⟨by rw [hR]; rfl, Below.later HB0.out HB3.out⟩
          | false =>
            simp only [Bool.false_eq_true, if_false] at hR
            go_enter Tryz.func25, Tryz.ntmps25
            have mk := hid0 True.intro
            go_wp2_with (first
              | (clear mk; go_at_call 42; refine (HO1.out _ HBr.out).mono ?_; rintro e w1 ⟨rfl, hb1⟩; obtain ⟨x0, x1, x2, x3, x4, x5⟩ := HXW.out w1 hb1; have HB1 := hid0 hb1; clear hb1)
              | (go_at_call 43; refine (HH.out _ HB1.out).mono ?_; rintro e w2 ⟨rfl, hb2⟩; obtain ⟨y0, y1, y2, y3, y4, y5⟩ := HXW.out w2 hb2; have HB2 := hid0 hb2; clear hb2)
              | (go_at_call 42; refine (HO2.out _ HB2.out).mono ?_; rintro e w3 ⟨rfl, hb3⟩; obtain ⟨z0, z1, z2, z3, z4, z5⟩ := HXW.out w3 hb3; have HB3 := hid0 hb3; clear hb3)
              | fail)
            go_loopw [44] (fun v wr => ∃ k : Nat, k ≤ ed.length ∧ v = .int .i64 (k : Int) ∧ Hid (∀ j, j < k → fE E ed j = none) ∧ Hid (Below w0.heap.size w0 wr)) (fun v _ => ed.length - (intOf v).toNat)
            case atStart => exact ⟨0, Nat.zero_le _, rfl, hid0 (fun j h => absurd h (Nat.not_lt_zero _)), HB3⟩
            case round =>
              obtain ⟨k, hk, rfl, HN, HB⟩ := hrel
              by_cases hlt : k < ed.length
              · have hkI : (k : Int) < (ed.length : Int) := by omega
                have hk0 : (0 : Int) ≤ (k : Int) := by omega
                obtain ⟨b, off, rfl, hbl, c0, c1⟩ := (HED.out wr HB.out).at' k hlt
                have HBo := hid0 (fun o => HB.out.alloc HB.out.size o)
                have hzk := HZ.out _ (List.getElem_mem hlt)
                have HCk := hid0 (fun o => HEn.out ed[k].2 _ hzk (HBo.out o))
                clear hzk
                have hfe := fE_at E ed k hlt
                generalize ed[k].1 = ad at *
                generalize ed[k].2 = x at *
                cases hx : E x with
                | some i =>
                  have HV : Hid (R = some i) := hid0 (by rw [hR]; exact firstN_at _ k i (by rw [hfe, hx]) _ 0 (Nat.zero_le _) (by omega) (fun j _ h => HN.out j h))
                  rw [hx] at HCk
                  simp only [errO] at HCk
                  clear hfe hx hR HN HEn
                  go_wp2_with (first
                    | (go_at_call 44; refine (HCk.out _).mono ?_; rintro e w5 ⟨rfl, hb5⟩; have HB5 := hid0 hb5; clear hb5)
                    | fail)
                  go_ret
                  exact ⟨by rw [HV.out]; rfl, Below.later HB0.out HB5.out⟩
                | none =>
                  have HV : Hid (∀ j, j < k + 1 → fE E ed j = none) := hid0 (fun j hj => by
                    by_cases e : j = k
                    · rw [e, hfe, hx]
                    · exact HN.out j (by omega))
                  rw [hx] at HCk
                  simp only [errO] at HCk
                  clear hfe hx HN
                  go_wp2_with (first
                    | (go_at_call 44; refine (HCk.out _).mono ?_; rintro e w5 ⟨rfl, hb5⟩; have HB5 := hid0 hb5; clear hb5)
                    | fail)
                  go_roundw
                  case rel => exact ⟨k + 1, by omega, by go_num, HV, HB5⟩
                  case measure => simp [intOf]; omega
              · have hkI : ¬ (k : Int) < (ed.length : Int) := by omega
                have HV : Hid (R = none) := hid0 (by rw [hR]; exact firstN_none _ _ 0 (fun j _ h => HN.out j (by omega)))
                clear hR HN HEn HED
                go_wp2
                go_ret
                exact ⟨by rw [HV.out]; rfl, Below.later HB0.out HB.out⟩
end Go.Proofs.YtlfeiadgahdgoaaGreatDoor
namespace Go.Proofs.YtlfeiadgahdgoaaGreatDoor
open Go.RowKit Go.Shelf Go.Lib
def fSec (E : ByteArray → Option Nat) (L : List Sec) (k : Nat) : Option Nat := match L[k]? with
  | some s => secE E s (L.take k)
  | none => none
theorem fSec_at (E : ByteArray → Option Nat) (L : List Sec) (k : Nat) (h : k < L.length) : fSec E L k = secE E L[k] (L.take k) := by
  unfold fSec
  rw [List.getElem?_eq_getElem h]
/-- What Check answers: the number of the refusal. -/
def chkE (E : ByteArray → Option Nat) (L : List Sec) : Option Nat := if 500 < L.length ∨ 20000 < nEd L then some 2 else firstN (fSec E L) 0 L.length
set_option maxRecDepth 10000 in
set_option maxHeartbeats 3200000 in
theorem check_any (E : ByteArray → Option Nat) (A : Nat → Addr) (L : List Sec) (a : Option Addr) (c : Nat) (w : World) (hc : L.length ≤ c) (hb : ∀ s ∈ L, s.ed.length ≤ 140737488355328) (hm : Mx w) (he : Sents w A) (ha : XA w a L) (hz : ∀ s ∈ L, ∀ e ∈ s.ed, e.2.size ≤ 140737488355328)
    (hE : ∀ x W, x.size ≤ 140737488355328 → Below w.heap.size w W → Calls Tryz.prog 44 #[.string x] W fun e w' => e = .returned (errO A (E x)) ∧ Below W.heap.size W w') :
    Calls Tryz.prog 11 #[.agg #[.slice a L.length c]] w fun e w' => e = .returned (errO A (chkE E L)) ∧ Below w.heap.size w w' := by
  obtain ⟨w0, hw0⟩ : ∃ w0, w0 = w.alloc (.cells #[.slice a L.length c] 24) := ⟨_, rfl⟩
  have hB0 : Below w.heap.size w w0 := by rw [hw0]; exact (Below.refl _ _).alloc (Nat.le_refl _) _
  have hX0 : w0.heap[w.heap.size]? = some (.cells #[.slice a L.length c] 24 (0, 0)) := by rw [hw0]; exact heap_alloc_new w _
  have hs0 : w0.heap.size = w.heap.size + 1 := by rw [hw0]; simp
  have HXW : Hid (∀ W, Below w0.heap.size w0 W → W.cell? ⟨w.heap.size, 0, none⟩ = some (.slice a L.length c) ∧ W.cell? ⟨0, 0, none⟩ = some (.iface 216 (.pointer (some (A 2))))) := hid0 (fun W hW => by
    have hr := (hW.block w.heap.size (by omega)).trans hX0
    exact ⟨by rw [cell_of_row _ _ _ _ _ _ hr]; rfl, ((he.below hB0).below hW).c2⟩)
  have HXA : Hid (∀ W, Below w0.heap.size w0 W → XA W a L) := hid0 (fun W hW => (ha.later hB0).later hW)
  have HCS : Hid (∀ (k : Nat) (hk : k < L.length) (ae : Option Addr) (ce : Nat) W, k ≤ 500 → Below w0.heap.size w0 W → EA W ae L[k].ed → Calls Tryz.prog 25 #[.agg #[.string L[k].loc, .string L[k].par, .slice ae L[k].ed.length ce], .slice a k c] W fun e w' => e = .returned (errO A (fSec E L k)) ∧ Below W.heap.size W w') := hid0 (fun k hk ae ce W h5 hW hed => by
    have hlt : (L.take k).length = k := by rw [List.length_take]; omega
    have h0 := checkSec_any E A L[k] ae ce (L.take k) a c W (by omega) (hb _ (List.getElem_mem hk)) ((hm.below hB0).below hW) ((he.below hB0).below hW) (((ha.later hB0).later hW).take k) hed (hz _ (List.getElem_mem hk)) (fun x W' hx hW' => hE x W' hx (Below.later (Below.later hB0 hW) hW'))
    rw [hlt, ← fSec_at E L k hk] at h0
    exact h0)
  have HCt : Hid (L.length ≤ 500 → Calls Tryz.prog 24 #[.slice a L.length c] w0 fun e w' => e = .returned (.int .i64 (nEd L : Nat)) ∧ Below w0.heap.size w0 w') := hid0 (fun h5 => count_any L a c w0 h5 hb (ha.later hB0))
  have HB0 := hid0 hB0
  obtain ⟨x0, x1⟩ := HXW.out w0 (Below.refl _ _)
  have HBr := hid0 (Below.refl w0.heap.size w0)
  have hfold := hw0.symm
  clear hw0 hB0 hX0 hs0 hm he hE ha hb hz
  obtain ⟨R, hR⟩ : ∃ R, R = chkE E L := ⟨_, rfl⟩
  rw [← hR]
  unfold chkE at hR
  by_cases h5 : 500 < L.length
  · have h5I : (500 : Int) < (L.length : Int) := by omega
    have HV : Hid (R = some 2) := hid0 (by rw [hR, if_pos (.inl h5)])
    clear hR HCS HXA HCt
    go_enter Tryz.func11, Tryz.ntmps11
    go_wp2
    go_ret
    exact ⟨by rw [HV.out]; rfl, Below.later HB0.out HBr.out⟩
  · have h5I : ¬ (500 : Int) < (L.length : Int) := by omega
    have HCn := hid0 (HCt.out (by omega))
    by_cases h6 : 20000 < nEd L
    · have h6I : (20000 : Int) < (nEd L : Int) := by omega
      have HV : Hid (R = some 2) := hid0 (by rw [hR, if_pos (.inr h6)])
      clear hR HCS HXA HCt
      generalize nEd L = ne at *
      go_enter Tryz.func11, Tryz.ntmps11
      go_wp2_with (first | (go_at_call 24; refine HCn.out.mono ?_; rintro e w1 ⟨rfl, hb1⟩; obtain ⟨y0, y1⟩ := HXW.out w1 hb1; have HB1 := hid0 hb1; clear hb1) | fail)
      go_ret
      exact ⟨by rw [HV.out]; rfl, Below.later HB0.out HB1.out⟩
    · have h6I : ¬ (20000 : Int) < (nEd L : Int) := by omega
      rw [if_neg (by omega)] at hR
      have HR := hid0 hR
      clear hR HCt
      generalize nEd L = ne at *
      go_enter Tryz.func11, Tryz.ntmps11
      go_wp2_with (first | (go_at_call 24; refine HCn.out.mono ?_; rintro e w1 ⟨rfl, hb1⟩; obtain ⟨y0, y1⟩ := HXW.out w1 hb1; have HB1 := hid0 hb1; clear hb1) | fail)
      go_loopw [20] (fun v wr => ∃ k : Nat, k ≤ L.length ∧ v = .int .i64 (k : Int) ∧ Hid (∀ j, j < k → fSec E L j = none) ∧ Hid (Below w0.heap.size w0 wr)) (fun v _ => L.length - (intOf v).toNat)
      case atStart => exact ⟨0, Nat.zero_le _, rfl, hid0 (fun j h => absurd h (Nat.not_lt_zero _)), HB1⟩
      case round =>
        clear y0 y1 HB1
        obtain ⟨k, hk, rfl, HN, HB⟩ := hrel
        by_cases hlt : k < L.length
        · have hkI : (k : Int) < (L.length : Int) := by omega
          have hk0 : (0 : Int) ≤ (k : Int) := by omega
          have hkc : (k : Int) ≤ (c : Int) := by omega
          obtain ⟨b, off, ae, ce, rfl, hbl, c0, c1, c2, hed⟩ := (HXA.out wr HB.out).at' k hlt
          obtain ⟨w2, hw2⟩ : ∃ w2, w2 = wr.alloc (.cells #[.string L[k].loc, .string L[k].par, .slice ae L[k].ed.length ce] 38) := ⟨_, rfl⟩
          have hb12 : Below wr.heap.size wr w2 := by rw [hw2]; exact (Below.refl _ _).alloc (Nat.le_refl _) _
          have hs2 : w2.heap.size = wr.heap.size + 1 := by rw [hw2]; simp
          have hr2 : w2.heap[wr.heap.size]? = some (.cells #[.string L[k].loc, .string L[k].par, .slice ae L[k].ed.length ce] 38 (0, 0)) := by rw [hw2]; exact heap_alloc_new wr _
          have HB02 : Hid (Below w0.heap.size w0 w2) := hid0 (Below.later HB.out hb12)
          have HSo : Hid (∀ W, Below w2.heap.size w2 W → W.cell? ⟨w.heap.size, 0, none⟩ = some (.slice (some ⟨b, off, none⟩) L.length c) ∧ W.cell? ⟨wr.heap.size, 0, none⟩ = some (.string L[k].loc) ∧ W.cell? ⟨wr.heap.size, 1, none⟩ = some (.string L[k].par) ∧ W.cell? ⟨wr.heap.size, 2, none⟩ = some (.slice ae L[k].ed.length ce) ∧ Below w2.heap.size w2 W) := hid0 (fun W hW => by
            have hr := (hW.block wr.heap.size (by omega)).trans hr2
            exact ⟨(HXW.out W (Below.later HB02.out hW)).1, by rw [cell_of_row _ _ _ _ _ _ hr]; rfl, by rw [cell_of_row _ _ _ _ _ _ hr]; rfl, by rw [cell_of_row _ _ _ _ _ _ hr]; rfl, hW⟩)
          have HC2 : Hid (∀ W, Below w2.heap.size w2 W → Calls Tryz.prog 25 #[.agg #[.string L[k].loc, .string L[k].par, .slice ae L[k].ed.length ce], .slice (some ⟨b, off, none⟩) k c] W fun e w' => e = .returned (errO A (fSec E L k)) ∧ Below w2.heap.size w2 w') := hid0 (fun W hW => (HCS.out k hlt ae ce W (by omega) (Below.later HB02.out hW) ((hed.later hb12).later hW)).mono (fun e w' h => ⟨h.1, Below.later hW h.2⟩))
          have HEND : Hid (∀ W, Below w2.heap.size w2 W → Below w0.heap.size w0 W) := hid0 (fun W hW => Below.later HB02.out hW)
          have HF2 := hid0 hw2
          obtain ⟨z0, z1, z2, z3, hBB⟩ := HSo.out w2 (Below.refl _ _)
          have HX1 := hid0 (HXW.out wr HB.out).1
          clear hw2 hb12 hs2 hr2 hed
          generalize L[k].loc = l at *
          generalize L[k].par = p at *
          generalize L[k].ed.length = n at *
          cases hx : fSec E L k with
          | some i =>
            have HV : Hid (R = some i) := hid0 (by rw [HR.out]; exact firstN_at _ k i hx _ 0 (Nat.zero_le _) (by omega) (fun j _ h => HN.out j h))
            rw [hx] at HC2
            simp only [errO] at HC2
            clear hx HN HCS HXA HR
            go_wp2
            rw [← HF2.out]
            go_region_held3 (fun W => W.cell? ⟨w.heap.size, 0, none⟩ = some (.slice (some ⟨b, off, none⟩) L.length c) ∧ W.cell? ⟨wr.heap.size, 0, none⟩ = some (.string l) ∧ W.cell? ⟨wr.heap.size, 1, none⟩ = some (.string p) ∧ W.cell? ⟨wr.heap.size, 2, none⟩ = some (.slice ae n ce) ∧ Below w2.heap.size w2 W) (first | exact HSo.out _ (by go_grown) | (go_split_ands; exact HSo.out _ (by go_grown)))
              (first | (go_at_call 25; go_split_ands; refine (HC2.out _ (by go_grown)).mono ?_; rintro e w3 ⟨rfl, hb3⟩))
            go_wp2
            go_ret
            exact ⟨by rw [HV.out]; rfl, Below.later HB0.out (HEND.out _ (by assumption))⟩
          | none =>
            have HV : Hid (∀ j, j < k + 1 → fSec E L j = none) := hid0 (fun j hj => by
              by_cases e : j = k
              · rw [e, hx]
              · exact HN.out j (by omega))
            rw [hx] at HC2
            simp only [errO] at HC2
            clear hx HN
            go_wp2
            rw [← HF2.out]
            go_region_held3 (fun W => W.cell? ⟨w.heap.size, 0, none⟩ = some (.slice (some ⟨b, off, none⟩) L.length c) ∧ W.cell? ⟨wr.heap.size, 0, none⟩ = some (.string l) ∧ W.cell? ⟨wr.heap.size, 1, none⟩ = some (.string p) ∧ W.cell? ⟨wr.heap.size, 2, none⟩ = some (.slice ae n ce) ∧ Below w2.heap.size w2 W) (first | exact HSo.out _ (by go_grown) | (go_split_ands; exact HSo.out _ (by go_grown)))
              (first | (go_at_call 25; go_split_ands; refine (HC2.out _ (by go_grown)).mono ?_; rintro e w3 ⟨rfl, hb3⟩))
            go_wp2
            go_split_ands
            have HB7 := hid0 (HEND.out _ (by assumption))
            go_roundw
            case rel => exact ⟨k + 1, by omega, by go_num, HV, HB7⟩
            case measure => simp [intOf]; omega
        · have hkI : ¬ (k : Int) < (L.length : Int) := by omega
          have HV : Hid (R = none) := hid0 (by rw [HR.out]; exact firstN_none _ _ 0 (fun j _ h => HN.out j (by omega)))
          clear HN HCS HXA HR
          go_wp2
          go_ret
          exact ⟨by rw [HV.out]; rfl, Below.later HB0.out HB.out⟩
end Go.Proofs.YtlfeiadgahdgoaaGreatDoor
namespace Go.Proofs.YtlfeiadgahdgoaaGreatDoor
open Go.RowKit
/-- The table's columns. -/
def tLo (i : Nat) : Nat := [0, 194, 224, 225, 237, 238, 240, 241, 244].getD i 0
def tHi (i : Nat) : Nat := [127, 223, 224, 236, 237, 239, 240, 243, 244].getD i 0
def tLo2 (i : Nat) : Nat := [0, 128, 160, 128, 128, 128, 144, 128, 128].getD i 0
def tHi2 (i : Nat) : Nat := [0, 191, 191, 191, 159, 191, 191, 191, 143].getD i 0
def tSz (i : Nat) : Nat := [1, 2, 3, 3, 3, 3, 4, 4, 4].getD i 0
def tMk (i : Nat) : Nat := [0, 192, 224, 224, 224, 224, 240, 240, 240].getD i 0
/-- A row as cells. -/
def rowCells (i : Nat) : List Value := [.int .u8 (tLo i), .int .u8 (tHi i), .int .u8 (tLo2 i), .int .u8 (tHi2 i), .int .i64 (tSz i), .int .u8 (tMk i)]
def rowVal (i : Nat) : Value := .agg #[.int .u8 (tLo i), .int .u8 (tHi i), .int .u8 (tLo2 i), .int .u8 (tHi2 i), .int .i64 (tSz i), .int .u8 (tMk i)]
def noRow : Value := .agg #[.int .u8 0, .int .u8 0, .int .u8 0, .int .u8 0, .int .i64 0, .int .u8 0]
/-- The table in memory. -/
def SeqAt (w : World) : Prop := ∀ i < 9, ∀ k < 6, w.cell? ⟨15, i * 6 + k, none⟩ = (rowCells i)[k]?
theorem SeqAt.row {w : World} (h : SeqAt w) (i : Nat) (hi : i < 9) :
    w.cell? ⟨15, i * 6, none⟩ = some (.int .u8 (tLo i)) ∧ w.cell? ⟨15, i * 6 + 1, none⟩ = some (.int .u8 (tHi i)) ∧ w.cell? ⟨15, i * 6 + 2, none⟩ = some (.int .u8 (tLo2 i)) ∧ w.cell? ⟨15, i * 6 + 3, none⟩ = some (.int .u8 (tHi2 i)) ∧ w.cell? ⟨15, i * 6 + 4, none⟩ = some (.int .i64 (tSz i)) ∧ w.cell? ⟨15, i * 6 + 5, none⟩ = some (.int .u8 (tMk i)) :=
  ⟨h i hi 0 (by omega), h i hi 1 (by omega), h i hi 2 (by omega), h i hi 3 (by omega), h i hi 4 (by omega), h i hi 5 (by omega)⟩
/-- Which row a lead byte has, from the i-th on. -/
def fitsRow (c i : Nat) : Bool := decide (tLo i ≤ c) && decide (c ≤ tHi i)
def rowFrom (c : Nat) : Nat → Nat → Option Nat
  | 0, _ => none
  | n + 1, i => if fitsRow c i then some i else rowFrom c n (i + 1)
def rowOf (c : Nat) : Option Nat := rowFrom c 9 0
def seqRes (c : Nat) : Value := match rowOf c with
  | some i => .tuple #[rowVal i, .bool true]
  | none => .tuple #[noRow, .bool false]
theorem SeqAt.below {w w' : World} {B : Nat} (h : SeqAt w) (hb : Below B w w') (h0 : 15 < B) : SeqAt w' := fun i hi k hk => (hb.cell (p := ⟨15, _, none⟩) h0).trans (h i hi k hk)
theorem SeqAt.pos {w : World} (h : SeqAt w) : 15 < w.heap.size := World.block_lt_of_cell? w _ (h.row 0 (by omega)).1
theorem alloc_below (w : World) (o : Obj) : Below w.heap.size w (w.alloc o) := (Below.refl _ _).alloc (Nat.le_refl _) o
theorem SeqAt.later {w w' : World} (h : SeqAt w) (hb : Below w.heap.size w w') : SeqAt w' := h.below hb h.pos
theorem tab_lt : ∀ k < 9, tLo k < 256 ∧ tHi k < 256 ∧ tLo2 k < 256 ∧ tHi2 k < 256 ∧ tSz k < 5 ∧ tMk k < 256 := by decide
set_option maxRecDepth 10000 in
set_option maxHeartbeats 400000 in
theorem seqOf_any (c : UInt8) (w : World) (hT : SeqAt w) :
    Calls Tryz.prog 141 #[.int .u8 (c.toNat : Int)] w fun e w' => e = .returned (seqRes c.toNat) ∧ Below w.heap.size w w' := by
  have hc := c.toNat_lt
  have HT : Hid (SeqAt (w.alloc (.cells #[.int .u8 0, .int .u8 0, .int .u8 0, .int .u8 0, .int .i64 0, .int .u8 0] 141))) := hT.later (alloc_below _ _)
  have hpos := hT.pos
  clear hT
  go_enter Tryz.func141, Tryz.ntmps141
  go_wp2
  go_loop [5] (fun i => ∃ k : Nat, k ≤ 9 ∧ i = .int .i64 k ∧ rowOf c.toNat = rowFrom c.toNat (9 - k) k) (fun i => 9 - (intOf i).toNat)
  case atStart => exact ⟨0, Nat.zero_le _, rfl, rfl⟩
  case round =>
    obtain ⟨k, hk, rfl, hr⟩ := hrel
    have HR : Hid (rowOf c.toNat = rowFrom c.toNat (9 - k) k) := hr
    clear hr
    by_cases hlt : k < 9
    · obtain ⟨r0, r1, r2, r3, r4, r5⟩ := HT.out.row k hlt
      obtain ⟨hl0, hl1, hl2, hl3, hl4, hl5⟩ := tab_lt k hlt
      have hu : 9 - k = (8 - k) + 1 := by omega
      by_cases h0 : tLo k ≤ c.toNat
      · by_cases h1 : c.toNat ≤ tHi k
        · have HV : Hid (seqRes c.toNat = .tuple #[rowVal k, .bool true]) := by
            show _ = _
            rw [seqRes, HR.out, hu, rowFrom, fitsRow, decide_eq_true h0, decide_eq_true h1]
            rfl
          clear hu
          go_wp2
          go_returns
          exact ⟨by rw [HV.out]; rfl, by go_grown⟩
        · have HV : Hid (rowOf c.toNat = rowFrom c.toNat (9 - (k + 1)) (k + 1)) := by
            show _ = _
            rw [HR.out, hu, rowFrom, fitsRow, decide_eq_false h1, Bool.and_false, show 8 - k = 9 - (k + 1) by omega]
            rfl
          clear hu
          go_wp2
          go_round
          case rel => exact ⟨k + 1, by omega, by go_num, HV.out⟩
          case measure => simp [intOf]; omega
      · have HV : Hid (rowOf c.toNat = rowFrom c.toNat (9 - (k + 1)) (k + 1)) := by
          show _ = _
          rw [HR.out, hu, rowFrom, fitsRow, decide_eq_false h0, Bool.false_and, show 8 - k = 9 - (k + 1) by omega]
          rfl
        clear hu
        go_wp2
        go_round
        case rel => exact ⟨k + 1, by omega, by go_num, HV.out⟩
        case measure => simp [intOf]; omega
    · obtain rfl : k = 9 := by omega
      have HV : Hid (seqRes c.toNat = .tuple #[noRow, .bool false]) := by
        show _ = _
        rw [seqRes, HR.out]
        rfl
      go_wp2
      go_returns
      exact ⟨by rw [HV.out]; rfl, by go_grown⟩
end Go.Proofs.YtlfeiadgahdgoaaGreatDoor
namespace Go.Proofs.YtlfeiadgahdgoaaGreatDoor
open Go.RowKit
/-- How many bytes fit behind a lead byte. -/
def fits (lo hi : Nat) : Nat → List UInt8 → Nat
  | 0, _ => 0
  | _ + 1, [] => 0
  | n + 1, b :: l => if lo ≤ b.toNat ∧ b.toNat ≤ hi then fits 128 191 n l + 1 else 0
/-- The row and how many bytes fit it. -/
def begunOf (l : List UInt8) : Option (Nat × Nat) := match l with
  | [] => none
  | a :: r => match rowOf a.toNat with
    | none => none
    | some i => some (i, fits (tLo2 i) (tHi2 i) (tSz i - 1) r + 1)
def begunVal (l : List UInt8) : Value := match begunOf l with
  | none => .tuple #[noRow, .int .i64 0]
  | some (i, f) => .tuple #[rowVal i, .int .i64 f]
theorem rowFrom_lt (c : Nat) : ∀ n i j, rowFrom c n i = some j → j < i + n := by
  intro n
  induction n with
  | zero => intro i j h; simp [rowFrom] at h
  | succ n ih =>
    intro i j h
    rw [rowFrom] at h
    split at h
    · simp at h; omega
    · have := ih _ _ h; omega
theorem rowOf_lt {c i : Nat} (h : rowOf c = some i) : i < 9 := by have := rowFrom_lt c 9 0 i h; omega
theorem sz_pos : ∀ i < 9, 0 < tSz i ∧ tSz i ≤ 4 := by decide
theorem drop_cons (s : ByteArray) (k : Nat) (h : k < s.size) : s.data.toList.drop k = s[k] :: s.data.toList.drop (k + 1) := by
  rw [List.drop_eq_getElem_cons (by simpa using h)]
  rfl
/-- A box that was laid ahead of a call, behind it. -/
theorem boxRow {w w' : World} {cs : Array Value} {t : TypeId} (hb : Below (w.alloc (.cells cs t)).heap.size (w.alloc (.cells cs t)) w') : w'.heap[w.heap.size]? = some (.cells cs t (0, 0)) :=
  (hb.block w.heap.size (by simp)).trans (heap_alloc_new w _)
theorem row6 {w : World} {g : Nat} {a b c d e f : Value} {t : TypeId} (h : w.heap[g]? = some (.cells #[a, b, c, d, e, f] t (0, 0))) :
    (w.cell? ⟨g, 0, none⟩ = some a ∧ w.cell? ⟨g, 1, none⟩ = some b ∧ w.cell? ⟨g, 2, none⟩ = some c ∧ w.cell? ⟨g, 3, none⟩ = some d ∧ w.cell? ⟨g, 4, none⟩ = some e ∧ w.cell? ⟨g, 5, none⟩ = some f) ∧
    w.frozen? ⟨g, 0, none⟩ = false ∧ w.frozen? ⟨g, 1, none⟩ = false ∧ w.frozen? ⟨g, 2, none⟩ = false ∧ w.frozen? ⟨g, 3, none⟩ = false ∧ w.frozen? ⟨g, 4, none⟩ = false ∧ w.frozen? ⟨g, 5, none⟩ = false := by
  refine ⟨⟨?_, ?_, ?_, ?_, ?_, ?_⟩, frozen_of_row w g _ _ t h, frozen_of_row w g _ _ t h, frozen_of_row w g _ _ t h, frozen_of_row w g _ _ t h, frozen_of_row w g _ _ t h, frozen_of_row w g _ _ t h⟩ <;> (rw [cell_of_row w g _ _ t _ h]; rfl)
theorem setCell_self {w : World} {g i : Nat} {cs : Array Value} {t : TypeId} {v : Value} (hg : w.heap[g]? = some (.cells cs t (0, 0))) (h : cs.setIfInBounds i v = cs) : w.setCell ⟨g, i, none⟩ v = w := by
  rw [setCell_eq_setRow w g i cs t (0, 0) v hg, h, setRow_self w g cs t (0, 0) hg]
theorem set6 {w : World} {g : Nat} {a b c d e f : Value} {t : TypeId} (a' b' c' d' e' f' : Value) (h : w.heap[g]? = some (.cells #[a, b, c, d, e, f] t (0, 0))) :
    ((((((w.setCell ⟨g, 0, none⟩ a').setCell ⟨g, 1, none⟩ b').setCell ⟨g, 2, none⟩ c').setCell ⟨g, 3, none⟩ d').setCell ⟨g, 4, none⟩ e').setCell ⟨g, 5, none⟩ f').heap[g]? = some (.cells #[a', b', c', d', e', f'] t (0, 0)) := by
  have h0 := heap_setCell_same w g 0 _ t a' h
  have h1 := heap_setCell_same _ g 1 _ t b' h0
  have h2 := heap_setCell_same _ g 2 _ t c' h1
  have h3 := heap_setCell_same _ g 3 _ t d' h2
  have h4 := heap_setCell_same _ g 4 _ t e' h3
  exact heap_setCell_same _ g 5 _ t f' h4
theorem ret_row {P : Program} {fn : Func} {p u : Tmp} {ty : TypeId} (h : fn.results = #[.cell p ty, .tmp u]) (tmps : Array Value) (w : World) (g : Nat) (t : TypeId) (cs : Array Value) (d : TypeDesc) (x : Value)
    (hp : tmps.getD p undef = .pointer (some ⟨g, 0, none⟩)) (hg : w.heap[g]? = some (.cells cs t (0, 0))) (hu : P.underlying ty = some d) (hd : (match d with | .struct _ | .array _ _ => true | _ => false) = true) (hi : (P.info? ty).map (·.size) = some cs.size) (hx : tmps.getD u undef = x) :
    (results fn tmps).run P w = .ok (.tuple #[.agg cs, x]) w := by
  subst hx
  rw [results_cell_tmp h, hp]
  simp only [asAddr, Sem.run_pure, Result.andThen_ok, run_loadVar_row w g t ty cs (0, 0) d hg hu hd hi]
set_option maxRecDepth 10000 in
set_option maxHeartbeats 400000 in
theorem begun_any (s : ByteArray) (k : Nat) (hk : k < s.size) (hs : s.size ≤ 140737488355328) (w : World) (hT : SeqAt w) :
    Calls Tryz.prog 107 #[.string s, .int .i64 (k : Int)] w fun e w' => e = .returned (begunVal (s.data.toList.drop k)) ∧ Below w.heap.size w w' := by
  have HV : Hid (begunVal (s.data.toList.drop k) = match rowOf s[k].toNat with | none => .tuple #[noRow, .int .i64 0] | some i => .tuple #[rowVal i, .int .i64 ((fits (tLo2 i) (tHi2 i) (tSz i - 1) (s.data.toList.drop (k + 1)) + 1 : Nat) : Int)]) := by
    show _ = _
    rw [drop_cons s k hk, begunVal, begunOf]
    cases rowOf s[k].toNat <;> rfl
  have hm := seqOf_any s[k]
  cases hr : rowOf s[k].toNat with
  | none =>
    rw [hr] at HV
    rw [seqRes, hr] at hm
    have HT : Hid (SeqAt w) := hT
    clear hT
    go_enter Tryz.func107, Tryz.ntmps107
    go_wp2_with (go_at_call 141; refine (hm _ (HT.out.later (by go_grown))).mono ?_; rintro e w' ⟨rfl, hb⟩; simp only [noRow]; obtain ⟨⟨c0, c1, c2, c3, c4, c5⟩, f0, f1, f2, f3, f4, f5⟩ := row6 (boxRow hb); have HR : Hid (w'.heap[w.heap.size]? = _) := boxRow hb; have hB : Below w.heap.size w w' := ((Below.refl _ _).alloc (Nat.le_refl _) _).trans (hb.mono (by simp)); have e0 : w'.setCell ⟨w.heap.size, 0, none⟩ (.int .u8 0) = w' := setCell_self HR.out rfl; have e1 : w'.setCell ⟨w.heap.size, 1, none⟩ (.int .u8 0) = w' := setCell_self HR.out rfl; have e2 : w'.setCell ⟨w.heap.size, 2, none⟩ (.int .u8 0) = w' := setCell_self HR.out rfl; have e3 : w'.setCell ⟨w.heap.size, 3, none⟩ (.int .u8 0) = w' := setCell_self HR.out rfl; have e4 : w'.setCell ⟨w.heap.size, 4, none⟩ (.int .i64 0) = w' := setCell_self HR.out rfl; have e5 : w'.setCell ⟨w.heap.size, 5, none⟩ (.int .u8 0) = w' := setCell_self HR.out rfl; clear hb)
    (try simp only [Exit.inBlock, Exit.then])
    refine bodyPost_ret (ret_row rfl _ _ w.heap.size 141 _ _ _ rfl HR.out Tryz.underlying141 rfl (by kernel_rfl) rfl) rfl ?_
    exact ⟨by rw [HV.out]; rfl, by go_grown⟩
  | some i =>
    rw [hr] at HV
    rw [seqRes, hr] at hm
    have hi9 := rowOf_lt hr
    have hsz := sz_pos i hi9
    obtain ⟨hl0, hl1, hl2, hl3, hl4, hl5⟩ := tab_lt i hi9
    have HT : Hid (SeqAt w) := hT
    clear hT
    go_enter Tryz.func107, Tryz.ntmps107
    go_wp2_with (go_at_call 141; refine (hm _ (HT.out.later (by go_grown))).mono ?_; rintro e w' ⟨rfl, hb⟩; simp only [rowVal]; obtain ⟨⟨c0, c1, c2, c3, c4, c5⟩, f0, f1, f2, f3, f4, f5⟩ := row6 (boxRow hb); have HR : Hid (w'.heap[w.heap.size]? = _) := boxRow hb; have hB : Below w.heap.size w w' := ((Below.refl _ _).alloc (Nat.le_refl _) _).trans (hb.mono (by simp)); clear hb)
    clear hm hr
    go_region
    all_goals go_wp2
    go_loopw [5, 7, 8] (fun f lo hi wr => (wr.heap[w.heap.size]? = some (.cells #[.int .u8 (tLo i), .int .u8 (tHi i), .int .u8 (tLo2 i), .int .u8 (tHi2 i), .int .i64 (tSz i), .int .u8 (tMk i)] 141 (0, 0)) ∧ Below w.heap.size w wr) ∧ ∃ j a b : Nat, 1 ≤ j ∧ j ≤ tSz i ∧ k + j ≤ s.size ∧ a < 256 ∧ b < 256 ∧ f = .int .i64 j ∧ lo = .int .u8 a ∧ hi = .int .u8 b ∧
      fits (tLo2 i) (tHi2 i) (tSz i - 1) (s.data.toList.drop (k + 1)) + 1 = fits a b (tSz i - j) (s.data.toList.drop (k + j)) + j) (fun f _ _ _ => 4 - (intOf f).toNat)
    case atStart => exact ⟨⟨by rw [heap_drew]; exact set6 _ _ _ _ _ _ HR.out, by go_grown⟩, 1, tLo2 i, tHi2 i, by omega, by omega, by omega, by omega, by omega, rfl, rfl, rfl, rfl⟩
    case round =>
      clear c0 c1 c2 c3 c4 c5 f0 f1 f2 f3 f4 f5 HR hB
      obtain ⟨⟨hrow, hB⟩, j, a, b, hj1, hj2, hj3, ha, hb, rfl, rfl, rfl, hf⟩ := hrel
      obtain ⟨⟨c0, c1, c2, c3, c4, c5⟩, f0, f1, f2, f3, f4, f5⟩ := row6 hrow
      have e0 : wr.setCell ⟨w.heap.size, 0, none⟩ (.int .u8 (tLo i)) = wr := setCell_self hrow rfl
      have e1 : wr.setCell ⟨w.heap.size, 1, none⟩ (.int .u8 (tHi i)) = wr := setCell_self hrow rfl
      have e2 : wr.setCell ⟨w.heap.size, 2, none⟩ (.int .u8 (tLo2 i)) = wr := setCell_self hrow rfl
      have e3 : wr.setCell ⟨w.heap.size, 3, none⟩ (.int .u8 (tHi2 i)) = wr := setCell_self hrow rfl
      have e4 : wr.setCell ⟨w.heap.size, 4, none⟩ (.int .i64 (tSz i)) = wr := setCell_self hrow rfl
      have e5 : wr.setCell ⟨w.heap.size, 5, none⟩ (.int .u8 (tMk i)) = wr := setCell_self hrow rfl
      have HR : Hid (wr.heap[w.heap.size]? = _) := hrow
      clear hrow
      have HF : Hid (fits (tLo2 i) (tHi2 i) (tSz i - 1) (s.data.toList.drop (k + 1)) + 1 = fits a b (tSz i - j) (s.data.toList.drop (k + j)) + j) := hf
      clear hf
      by_cases h1 : j < tSz i
      · by_cases h2 : k + j < s.size
        · have HG : Hid (fits a b (tSz i - j) (s.data.toList.drop (k + j)) = if a ≤ s[k + j].toNat ∧ s[k + j].toNat ≤ b then fits 128 191 (tSz i - (j + 1)) (s.data.toList.drop (k + (j + 1))) + 1 else 0) := by
            show _ = _
            rw [drop_cons s _ h2, show tSz i - j = (tSz i - (j + 1)) + 1 by omega, fits]
            rfl
          by_cases h3 : a ≤ s[k + j].toNat
          · by_cases h4 : s[k + j].toNat ≤ b
            · have HN : Hid (fits (tLo2 i) (tHi2 i) (tSz i - 1) (s.data.toList.drop (k + 1)) + 1 = fits 128 191 (tSz i - (j + 1)) (s.data.toList.drop (k + (j + 1))) + (j + 1)) := by
                show _ = _
                rw [HF.out, HG.out, if_pos ⟨h3, h4⟩]
                omega
              clear HF HG
              go_wp2
              go_roundw
              case rel => exact ⟨⟨HR.out, hB⟩, j + 1, 128, 191, by omega, by omega, by omega, by omega, by omega, by go_num, rfl, rfl, HN.out⟩
              case measure => simp [intOf]; omega
            · have HN : Hid (fits (tLo2 i) (tHi2 i) (tSz i - 1) (s.data.toList.drop (k + 1)) + 1 = j) := by
                show _ = _
                rw [HF.out, HG.out, if_neg (by omega)]
                omega
              clear HF HG
              go_wp2
              (try simp only [Exit.inBlock, Exit.then])
              refine bodyPost_ret (ret_row rfl _ _ w.heap.size 141 _ _ _ rfl HR.out Tryz.underlying141 rfl (by kernel_rfl) rfl) rfl ?_
              exact ⟨by rw [HV.out, HN.out]; rfl, by go_grown⟩
          · have HN : Hid (fits (tLo2 i) (tHi2 i) (tSz i - 1) (s.data.toList.drop (k + 1)) + 1 = j) := by
              show _ = _
              rw [HF.out, HG.out, if_neg (by omega)]
              omega
            clear HF HG
            go_wp2
            (try simp only [Exit.inBlock, Exit.then])
            refine bodyPost_ret (ret_row rfl _ _ w.heap.size 141 _ _ _ rfl HR.out Tryz.underlying141 rfl (by kernel_rfl) rfl) rfl ?_
            exact ⟨by rw [HV.out, HN.out]; rfl, by go_grown⟩
        · have HN : Hid (fits (tLo2 i) (tHi2 i) (tSz i - 1) (s.data.toList.drop (k + 1)) + 1 = j) := by
            show _ = _
            rw [HF.out, List.drop_of_length_le (by simp; omega), show tSz i - j = (tSz i - (j + 1)) + 1 by omega, fits]
            omega
          clear HF
          go_wp2
          (try simp only [Exit.inBlock, Exit.then])
          refine bodyPost_ret (ret_row rfl _ _ w.heap.size 141 _ _ _ rfl HR.out Tryz.underlying141 rfl (by kernel_rfl) rfl) rfl ?_
          exact ⟨by rw [HV.out, HN.out]; rfl, by go_grown⟩
      · have HN : Hid (fits (tLo2 i) (tHi2 i) (tSz i - 1) (s.data.toList.drop (k + 1)) + 1 = j) := by
          show _ = _
          rw [HF.out, show tSz i - j = 0 by omega, fits]
          omega
        clear HF
        go_wp2
        (try simp only [Exit.inBlock, Exit.then])
        refine bodyPost_ret (ret_row rfl _ _ w.heap.size 141 _ _ _ rfl HR.out Tryz.underlying141 rfl (by kernel_rfl) rfl) rfl ?_
        exact ⟨by rw [HV.out, HN.out]; rfl, by go_grown⟩
end Go.Proofs.YtlfeiadgahdgoaaGreatDoor
namespace Go.Proofs.YtlfeiadgahdgoaaGreatDoor
open Go.RowKit
/-- Is it the beginning of a longer sequence? -/
def beginsL (l : List UInt8) : Bool := match begunOf l with
  | none => false
  | some (i, f) => f == l.length && decide (l.length < tSz i)
def cutFrom (l : List UInt8) : Nat → Nat
  | 0 => 0
  | n + 1 => if beginsL (l.drop (l.length - (n + 1))) then n + 1 else cutFrom l n
def cutOf (l : List UInt8) : Nat := cutFrom l (min 3 l.length)
theorem bsize (s : ByteArray) : s.data.toList.length = s.size := by simp
end Go.Proofs.YtlfeiadgahdgoaaGreatDoor
namespace Go.Proofs.YtlfeiadgahdgoaaGreatDoor
open Go.RowKit
/-- A scalar value. -/
def scalarP (p : Int) : Bool := decide (0 ≤ p) && decide (p ≤ 1114111) && (decide (p < 55296) || decide (57343 < p))
/-- The bytes of a scalar value. -/
def encL (n : Nat) : List UInt8 :=
  if n < 128 then [UInt8.ofNat n]
  else if n < 2048 then [UInt8.ofNat (192 + n / 64), UInt8.ofNat (128 + n % 64)]
  else if n < 65536 then [UInt8.ofNat (224 + n / 4096), UInt8.ofNat (128 + n / 64 % 64), UInt8.ofNat (128 + n % 64)]
  else [UInt8.ofNat (240 + n / 262144), UInt8.ofNat (128 + n / 4096 % 64), UInt8.ofNat (128 + n / 64 % 64), UInt8.ofNat (128 + n % 64)]
set_option maxRecDepth 10000 in
theorem refScalar_any (p : Int) (w : World) :
    Calls Tryz.prog 116 #[.int .i64 p] w fun e w' => e = .returned (.bool (scalarP p)) ∧ w' = w := by
  unfold scalarP
  by_cases ha : 0 ≤ p <;> by_cases hb : p ≤ 1114111 <;> by_cases hc : p < 55296 <;> by_cases hd : 57343 < p <;>
    (go_enter Tryz.func116, Tryz.ntmps116
     go_wp2
     go_ret
     exact ⟨by simp [ha, hb, hc, hd], rfl⟩)
/-- Bytes written down, as a string. -/
theorem conv_new (w : World) (l : List UInt8) (cs : Array Value) (n : Nat) (hn : n = l.length) (h : cs = (l.map fun c => Value.int .u8 (c.toNat : Int)).toArray) :
    (convert 48 9 (.slice (some ⟨w.heap.size, 0, none⟩) n n)).run Tryz.prog (w.alloc (.cells cs 5)) = .ok (.string ⟨l.toArray⟩) (w.alloc (.cells cs 5)) := by
  subst hn h
  refine run_convert_bytes_back (P := Tryz.prog) _ 48 9 5 ⟨w.heap.size, 0, none⟩ _ l Tryz.underlying48 Tryz.underlying5 Tryz.underlying9 (fun j hj => ?_)
  rw [Addr.add_lit, cell_of_row _ w.heap.size _ _ _ _ (heap_alloc_new w _)]
  simp [hj]
theorem u8n (n : Nat) (h : n < 256) : ((UInt8.ofNat n).toNat : Int) = (n : Int) := by rw [UInt8.toNat_ofNat']; omega
set_option maxRecDepth 10000 in
theorem refOne_any (n : Nat) (w : World) (h : n < 1114112) :
    Calls Tryz.prog 117 #[.int .i64 (n : Int)] w fun e w' => e = .returned (.string ⟨(encL n).toArray⟩) ∧ Below w.heap.size w w' := by
  by_cases h1 : n < 128
  · have hc := conv_new w (encL n) #[.int .u8 (n : Int)] 1 (by rw [encL, if_pos h1]; rfl) (by rw [encL, if_pos h1]; simp; omega)
    go_enter Tryz.func117, Tryz.ntmps117
    go_wp2
    go_ret
    exact ⟨rfl, by go_grown⟩
  · by_cases h2 : n < 2048
    · have hc := conv_new w (encL n) #[.int .u8 (192 + (n : Int) / 64), .int .u8 (128 + (n : Int) % 64)] 2 (by rw [encL, if_neg h1, if_pos h2]; rfl) (by rw [encL, if_neg h1, if_pos h2]; simp only [List.map, u8n (192 + n / 64) (by omega), u8n (128 + n % 64) (by omega)]; rfl)
      go_enter Tryz.func117, Tryz.ntmps117
      go_wp2
      go_ret
      exact ⟨rfl, by go_grown⟩
    · by_cases h3 : n < 65536
      · have i1 : ¬ (n : Int) < 128 := by omega
        have i2 : ¬ (n : Int) < 2048 := by omega
        have i3 : (n : Int) < 65536 := by omega
        have i0 : (0 : Int) ≤ n := by omega
        have hc := conv_new w (encL n) #[.int .u8 (224 + (n : Int) / 4096), .int .u8 (128 + (n : Int) / 64 % 64), .int .u8 (128 + (n : Int) % 64)] 3 (by rw [encL, if_neg h1, if_neg h2, if_pos h3]; rfl) (by rw [encL, if_neg h1, if_neg h2, if_pos h3]; simp only [List.map, u8n (224 + n / 4096) (by omega), u8n (128 + n / 64 % 64) (by omega), u8n (128 + n % 64) (by omega)]; rfl)
        clear h h1 h2 h3
        generalize (n : Int) = x at *
        go_enter Tryz.func117, Tryz.ntmps117
        go_wp2
        go_ret
        exact ⟨rfl, by go_grown⟩
      · have i1 : ¬ (n : Int) < 128 := by omega
        have i2 : ¬ (n : Int) < 2048 := by omega
        have i3 : ¬ (n : Int) < 65536 := by omega
        have i4 : (n : Int) < 1114112 := by omega
        have i0 : (0 : Int) ≤ n := by omega
        have hc := conv_new w (encL n) #[.int .u8 (240 + (n : Int) / 262144), .int .u8 (128 + (n : Int) / 4096 % 64), .int .u8 (128 + (n : Int) / 64 % 64), .int .u8 (128 + (n : Int) % 64)] 4 (by rw [encL, if_neg h1, if_neg h2, if_neg h3]; rfl) (by rw [encL, if_neg h1, if_neg h2, if_neg h3]; simp only [List.map, u8n (240 + n / 262144) (by omega), u8n (128 + n / 4096 % 64) (by omega), u8n (128 + n / 64 % 64) (by omega), u8n (128 + n % 64) (by omega)]; rfl)
        clear h h1 h2 h3
        generalize (n : Int) = x at *
        go_enter Tryz.func117, Tryz.ntmps117
        go_wp2
        go_ret
        exact ⟨rfl, by go_grown⟩
/-- How many bytes a lead byte says. -/
def sizeL (c : Nat) : Nat := if c < 128 then 1 else if 192 ≤ c ∧ c < 224 then 2 else if 224 ≤ c ∧ c < 240 then 3 else if 240 ≤ c ∧ c < 248 then 4 else 0
set_option maxRecDepth 10000 in
theorem refSize_any (c : UInt8) (w : World) :
    Calls Tryz.prog 114 #[.int .u8 (c.toNat : Int)] w fun e w' => e = .returned (.int .i64 (sizeL c.toNat : Int)) ∧ w' = w := by
  have hlt := c.toNat_lt
  generalize c.toNat = n at hlt
  rw [sizeL]
  split
  · go_enter Tryz.func114, Tryz.ntmps114
    go_wp2
    go_ret
    exact ⟨rfl, rfl⟩
  · split
    · go_enter Tryz.func114, Tryz.ntmps114
      go_wp2
      go_ret
      exact ⟨rfl, rfl⟩
    · split
      · go_enter Tryz.func114, Tryz.ntmps114
        go_wp2
        go_ret
        exact ⟨rfl, rfl⟩
      · split
        · go_enter Tryz.func114, Tryz.ntmps114
          go_wp2
          go_ret
          exact ⟨rfl, rfl⟩
        · go_enter Tryz.func114, Tryz.ntmps114
          go_wp2
          all_goals
            go_ret
            exact ⟨rfl, rfl⟩
set_option maxRecDepth 10000 in
theorem refLead_any (c : UInt8) (n : Nat) (hn : n < 5) (w : World) :
    Calls Tryz.prog 115 #[.int .u8 (c.toNat : Int), .int .i64 (n : Int)] w fun e w' => e = .returned (.int .i64 ((c.toNat : Int) - (if n = 2 then 192 else if n = 3 then 224 else if n = 4 then 240 else 0))) ∧ w' = w := by
  have hlt := c.toNat_lt
  generalize c.toNat = m at hlt
  obtain rfl | rfl | rfl | rfl | rfl : n = 0 ∨ n = 1 ∨ n = 2 ∨ n = 3 ∨ n = 4 := by omega
  all_goals
    go_enter Tryz.func115, Tryz.ntmps115
    go_wp2
    go_ret
    exact ⟨by simp, rfl⟩
end Go.Proofs.YtlfeiadgahdgoaaGreatDoor
