/-
  The walks of desk.firstWord, desk.Words (stage 25).
-/
import Derived.Test.YtcbepmjojppokaaDoorDkEW
import Derived.Shelf.Strings.Search3
import Derived.Shelf.Strings.SlTrimAscii
namespace Go.Proofs.YtcbepmjojppokaaDoor
open Go.RowKit Go.Shelf
/-- What firstWord answers. -/
def fstV (t : Value) (l : Dy) : Value := match fstW l with
  | some (wd, n) => .tuple #[.string (rd wd), .string (rd (l.drop n)), .nilIface]
  | none => .tuple #[.string ⟨#[]⟩, .string ⟨#[]⟩, t]
theorem idx_sp (l : Dy) : Lib.indexByte l 32 = if (l.takeWhile notSp).length < l.length then ((l.takeWhile notSp).length : Int) else -1 := by
  induction l with
  | nil => rfl
  | cons c r ih =>
    rw [Lib.indexByte]
    by_cases hc : c = 32
    · subst hc
      simp [notSp]
    · have hn : notSp c = true := by unfold notSp; simpa using hc
      rw [List.takeWhile_cons, if_pos hn, ih]
      have hb : (c == 32) = false := by simpa using hc
      rw [hb]
      simp only [List.length_cons, Bool.false_eq_true, if_false]
      by_cases h : (r.takeWhile notSp).length < r.length
      · rw [if_pos h, if_pos (show (r.takeWhile notSp).length + 1 < r.length + 1 by omega), if_neg (by simp)]
        omega
      · rw [if_neg h, if_neg (show ¬ (r.takeWhile notSp).length + 1 < r.length + 1 by omega)]
        rfl
theorem take_tw (l : Dy) : l.take (l.takeWhile notSp).length = l.takeWhile notSp := by
  induction l with
  | nil => rfl
  | cons c r ih =>
    rw [List.takeWhile_cons]
    by_cases h : notSp c = true
    · rw [if_pos h, List.length_cons, List.take_succ_cons, ih]
    · rw [if_neg h]; rfl
theorem tw_le (l : Dy) : (l.takeWhile notSp).length ≤ l.length := (List.takeWhile_sublist _).length_le
theorem index_any (l : Dy) (w : World) : Calls Tryd.prog 33 #[.string (rd l), .string ⟨#[32]⟩] w fun e w' => e = .returned (.int .i64 (Lib.indexByte l 32)) ∧ w' = w :=
  Any.strings_Index_one Tryd.lays143 (rd l) 32 w
set_option maxRecDepth 10000 in
set_option maxHeartbeats 1600000 in
theorem firstWord_any (c : UInt8) (r : Dy) (t : Value) (w : World) (hl : r.length ≤ 70368744177664) (h32 : ¬ c = 32) (ht : w.cell? ⟨1, 0, none⟩ = some t) :
    Calls Tryd.prog 18 #[.string (rd (c :: r))] w fun e w' => e = .returned (fstV t (c :: r)) ∧ Hid (Below w.heap.size w w') := by
  by_cases c34 : c = 34
  · subst c34
    have HQ := hid0 (quotedWord_any r t w hl ht)
    obtain ⟨v1, v2, v3, hv⟩ : ∃ v1 v2 v3, quoV t r = .tuple #[v1, v2, v3] := by
      unfold quoV
      split
      · exact ⟨_, _, _, rfl⟩
      · exact ⟨_, _, _, rfl⟩
    have hf : fstV t (34 :: r) = .tuple #[v1, v2, v3] := by
      rw [← hv]
      unfold fstV quoV
      rw [fstW, if_pos rfl]
      cases qS 0 r with
      | none => rfl
      | some p => rfl
    rw [hv] at HQ
    rw [hf]
    have h0 : 0 < (rd (34 :: r)).size := by rw [rd_size]; simp
    have hg : (((rd (34 :: r))[0]'h0).toNat : Int) = 34 := rfl
    clear hf hv
    generalize rd (34 :: r) = s at *
    go_enter Tryd.func18, Tryd.ntmps18
    go_wp2_with (go_at_call 32; refine HQ.out.mono ?_; rintro e w1 ⟨rfl, h1⟩)
    go_ret3
    exact ⟨rfl, h1⟩
  · have HV : Hid (fstV t (c :: r) = if ((c :: r).takeWhile notSp).all bareB = true then .tuple #[.string (rd ((c :: r).takeWhile notSp)), .string (rd ((c :: r).drop ((c :: r).takeWhile notSp).length)), .nilIface] else .tuple #[.string ⟨#[]⟩, .string ⟨#[]⟩, t]) := hid0 (by
      unfold fstV
      rw [fstW, if_neg c34, plW]
      by_cases hb : ((c :: r).takeWhile notSp).all bareB = true
      · rw [if_pos hb, if_pos hb]
      · rw [if_neg hb, if_neg hb])
    have HW := hid0 (index_any (c :: r) w)
    rw [idx_sp] at HW
    obtain ⟨l, hL⟩ : ∃ l, l = c :: r := ⟨_, rfl⟩
    have h0 : 0 < (rd l).size := by rw [hL, rd_size]; simp
    have hg : (((rd l)[0]'h0).toNat : Int) = (c.toNat : Int) := by subst hL; rfl
    have n34 : ¬ (c.toNat : Int) = 34 := u8_ne c 34 (by omega) c34
    have hne : (l.takeWhile notSp).isEmpty = false := by
      rw [hL, List.takeWhile_cons, if_pos (by unfold notSp; simpa using h32)]
      rfl
    rw [← hL] at HV HW ⊢
    have hls : l.length ≤ 70368744177665 := by rw [hL]; simpa using hl
    clear hL
    obtain ⟨V, hV⟩ : ∃ V, V = fstV t l := ⟨_, rfl⟩
    rw [← hV] at HV ⊢
    clear hV
    have HT0 : Hid (∀ W, Below w.heap.size w W → W.cell? ⟨1, 0, none⟩ = some t) := hid0 (fun W hW => (hW.cell (p := ⟨1, 0, none⟩) (World.block_lt_of_cell? w _ ht)).trans ht)
    have hle := tw_le l
    have HB := hid0 (isBare_any (l.takeWhile notSp) w (by omega))
    rw [hne] at HB
    have HX1 : Hid ((rd l).extract 0 (l.takeWhile notSp).length = rd (l.takeWhile notSp)) := hid0 (by rw [rd_take, take_tw])
    have HX2 : Hid ((rd l).extract (l.takeWhile notSp).length (rd l).size = rd (l.drop (l.takeWhile notSp).length)) := hid0 (by rw [rd_size, rd_drop])
    have hS : (rd l).size = l.length := rd_size l
    have hz : (rd (l.takeWhile notSp)).size = (l.takeWhile notSp).length := rd_size _
    have HAll : Hid ((l.takeWhile notSp).length = l.length → rd (l.takeWhile notSp) = rd l) := hid0 (fun h => by
      have := take_tw l
      rw [h, List.take_length] at this
      rw [← this])
    obtain ⟨x, hx⟩ : ∃ x, x = (c.toNat : Int) := ⟨_, rfl⟩
    rw [← hx] at hg n34
    clear hx hne c34 h32 hl
    generalize rd (l.drop (l.takeWhile notSp).length) = R2 at *
    generalize rd (l.takeWhile notSp) = R1 at *
    generalize (l.takeWhile notSp).all bareB = bb at *
    generalize (l.takeWhile notSp).length = n at *
    generalize rd l = s at *
    generalize l.length = sl at *
    subst hS
    have hnI : (n : Int) ≤ (s.size : Int) := by omega
    have hnI0 : (0 : Int) ≤ (n : Int) := by omega
    by_cases hlt : n < s.size
    · rw [if_pos hlt] at HW
      have hX1 := HX1.out
      have hX2 := HX2.out
      have hzI : (R1.size : Int) = (n : Int) := by omega
      clear hz HAll
      cases bb with
      | true =>
        have HVt := hid0 HV.out
        rw [if_pos rfl] at HVt
        clear HV
        go_enter Tryd.func18, Tryd.ntmps18
        go_wp2_with (first
          | (go_at_call 33; refine HW.out.mono ?_; rintro e w1 ⟨rfl, rfl⟩)
          | (go_at_call 11; refine HB.out.mono ?_; rintro e w2 ⟨rfl, rfl⟩)
          | fail)
        go_quiet (fail)
        all_goals go_wp2
        go_ret3
        exact ⟨by rw [HVt.out]; rfl, hid0 (below_drew' (Below.refl _ _) _)⟩
      | false =>
        have HVt := hid0 HV.out
        rw [if_neg (by simp)] at HVt
        clear HV
        go_enter Tryd.func18, Tryd.ntmps18
        go_wp2_with (first
          | (go_at_call 33; refine HW.out.mono ?_; rintro e w1 ⟨rfl, hw1⟩; subst hw1)
          | (go_at_call 11; refine HB.out.mono ?_; rintro e w2 ⟨rfl, hw2⟩; subst hw2; have hT0 := HT0.out _ (Below.refl _ _))
          | fail)
        go_quiet (fail)
        all_goals go_wp2
        go_ret3
        exact ⟨by rw [HVt.out]; rfl, hid0 (below_drew' (Below.refl _ _) _)⟩
    · rw [if_neg hlt] at HW
      have hn : n = s.size := by omega
      have hR1 : R1 = s := HAll.out hn
      have HR2 : Hid (R2 = ByteArray.empty) := hid0 (by have h := HX2.out; rw [hn] at h; rw [← h]; simp)
      subst hR1
      clear hz HAll HX1 HX2 hn hlt hnI hnI0 hle
      cases bb with
      | true =>
        have HVt := hid0 HV.out
        rw [if_pos rfl] at HVt
        clear HV
        go_enter Tryd.func18, Tryd.ntmps18
        go_wp2_with (first
          | (go_at_call 33; refine HW.out.mono ?_; rintro e w1 ⟨rfl, rfl⟩)
          | (go_at_call 11; refine HB.out.mono ?_; rintro e w2 ⟨rfl, rfl⟩)
          | fail)
        go_quiet (fail)
        all_goals go_wp2
        go_ret3
        exact ⟨by rw [HVt.out, HR2.out]; rfl, hid0 (below_drew' (Below.refl _ _) _)⟩
      | false =>
        have HVt := hid0 HV.out
        rw [if_neg (by simp)] at HVt
        clear HV
        go_enter Tryd.func18, Tryd.ntmps18
        go_wp2_with (first
          | (go_at_call 33; refine HW.out.mono ?_; rintro e w1 ⟨rfl, hw1⟩; subst hw1)
          | (go_at_call 11; refine HB.out.mono ?_; rintro e w2 ⟨rfl, hw2⟩; subst hw2; have hT0 := HT0.out _ (Below.refl _ _))
          | fail)
        go_quiet (fail)
        all_goals go_wp2
        go_ret3
        exact ⟨by rw [HVt.out]; rfl, hid0 (below_drew' (Below.refl _ _) _)⟩
end Go.Proofs.YtcbepmjojppokaaDoor
