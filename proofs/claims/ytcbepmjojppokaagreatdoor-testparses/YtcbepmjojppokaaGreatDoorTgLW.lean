/-
  The words of a line; testfile.reader.word.
-/
import Derived.Test.YtcbepmjojppokaaGreatDoorTgKW
namespace Go.Proofs.YtcbepmjojppokaaGreatDoor
open Go.RowKit Go.Shelf
def notBl (c : UInt8) : Bool := !isBl c
/-- The word at the line's beginning, and what stands behind it and the blanks. -/
def nextW (l : By) : By := l.takeWhile notBl
def restW (l : By) : By := (l.drop (nextW l).length).dropWhile isBl
theorem next_le (l : By) : (nextW l).length ≤ l.length := (List.takeWhile_sublist _).length_le
theorem rest_le (l : By) : (restW l).length + (nextW l).length ≤ l.length := by
  have h1 : (restW l).length ≤ (l.drop (nextW l).length).length := (List.dropWhile_sublist isBl).length_le
  have h2 := next_le l
  rw [List.length_drop] at h1
  omega
theorem next_take (l : By) : l.take (nextW l).length = nextW l := (scan_take notBl l).symm
theorem idx_any (l : By) : Lib.indexAny l [32, 9] = if (nextW l).length < l.length then ((nextW l).length : Int) else -1 := by
  induction l with
  | nil => rfl
  | cons c r ih =>
    rw [Lib.indexAny, bl_contains]
    cases hb : isBl c with
    | true =>
      have e : nextW (c :: r) = [] := by unfold nextW notBl; rw [List.takeWhile_cons, hb]; rfl
      rw [e]
      simp
    | false =>
      have e : nextW (c :: r) = c :: nextW r := by unfold nextW notBl; rw [List.takeWhile_cons, hb]; rfl
      rw [e, ih, if_neg (by simp)]
      simp only [List.length_cons]
      by_cases h : (nextW r).length < r.length
      · rw [if_pos h, if_pos (show (nextW r).length + 1 < r.length + 1 by omega), if_neg (by simp)]
        omega
      · rw [if_neg h, if_neg (show ¬ (nextW r).length + 1 < r.length + 1 by omega)]
        rfl
theorem trimL_same (l : By) : Lib.trimLeftS l [32, 9] = l.dropWhile isBl := by
  have e : (fun c => ([32, 9] : List UInt8).contains c) = isBl := funext bl_contains
  unfold Lib.trimLeftS
  rw [e]
/-- A reader in memory. -/
def Rdr (w : World) (R : Nat) (num : Int) (s : By) (nx vP vB : Value) : Prop := w.heap[R]? = some (.cells #[.int .i64 num, .string (rd s), nx, vP, vB] 62 (0, 0))
theorem trimLeft_any (s : ByteArray) (w : World) : Calls Tryz.prog 87 #[.string s, .string ⟨#[32, 9]⟩] w fun e w' => e = .returned (.string (rd (s.data.toList.dropWhile isBl))) ∧ Below w.heap.size w w' := by
  have h := Any.strings_TrimLeft_laid Tryz.lays161 (by kernel_rfl) s ⟨#[32, 9]⟩ w (by decide) (ascii_of_all (by decide))
  rw [show (⟨#[32, 9]⟩ : ByteArray).data.toList = [32, 9] from rfl, trimL_same] at h
  exact h
set_option maxRecDepth 10000 in
set_option maxHeartbeats 400000 in
theorem word_any (R : Nat) (num : Int) (s : By) (nx vP vB : Value) (hs : s.length ≤ 4194400) (w : World) (h : Rdr w R num s nx vP vB) :
    Calls Tryz.prog 70 #[.pointer (some ⟨R, 0, none⟩)] w fun e w' => e = .returned (.string (rd (nextW s))) ∧ Hid (Rdr w' R num (restW s) nx vP vB ∧ ∃ W, Below w.heap.size w W ∧ w' = W.setCell ⟨R, 1, none⟩ (.string (rd (restW s)))) := by
  have hw : w.heap[R]? = some (.cells #[.int .i64 num, .string (rd s), nx, vP, vB] 62 (0, 0)) := h
  have hc1 : w.cell? ⟨R, 1, none⟩ = some (.string (rd s)) := by rw [cell_of_row w R _ _ _ _ hw]; rfl
  have hf1 : w.frozen? ⟨R, 1, none⟩ = false := frozen_of_row w R _ _ _ hw
  have hlt := (Array.getElem?_eq_some_iff.1 hw).1
  have HI : Hid (∀ W, Calls Tryz.prog 86 #[.string (rd s), .string ⟨#[32, 9]⟩] W fun e w' => e = .returned (.int .i64 (if (nextW s).length < s.length then ((nextW s).length : Int) else -1)) ∧ Below W.heap.size W w') := hid0 (fun W => by
    have := indexAny_any (rd s) (by rw [rd_size]; omega) W
    rw [← idx_any]
    exact this)
  have HT : Hid (∀ W, Calls Tryz.prog 87 #[.string ((rd s).extract (nextW s).length s.length), .string ⟨#[32, 9]⟩] W fun e w' => e = .returned (.string (rd (restW s))) ∧ Below W.heap.size W w') := hid0 (fun W => by
    have := trimLeft_any ((rd s).extract (nextW s).length (rd s).size) W
    rw [extract_drop4, rd_size] at this
    exact this)
  have hn := next_le s
  have HX : Hid ((rd s).extract 0 (nextW s).length = rd (nextW s)) := hid0 (str_eq4 (by rw [extract_take4]; exact next_take s))
  have hS : (rd s).size = s.length := rd_size s
  have hz : ((rd s).extract 0 (nextW s).length).size = (nextW s).length := by rw [HX.out, rd_size]
  have HW : Hid (∀ W, Below w.heap.size w W → Rdr (W.setCell ⟨R, 1, none⟩ (.string (rd (restW s)))) R num (restW s) nx vP vB) := hid0 (fun W hW => heap_setCell_same W R 1 _ _ _ ((hW.block R hlt).trans hw))
  have HL : Hid (∀ W, Below w.heap.size w W → W.cell? ⟨R, 1, none⟩ = some (.string (rd s)) ∧ W.frozen? ⟨R, 1, none⟩ = false) := hid0 (fun W hW => by
    have h2 := (hW.block R hlt).trans hw
    exact ⟨by rw [cell_of_row W R _ _ _ _ h2]; rfl, frozen_of_row W R _ _ _ h2⟩)
  generalize rd (restW s) = S3 at *
  generalize rd (nextW s) = S2 at *
  clear hw h hlt
  by_cases hlt : (nextW s).length < s.length
  · rw [if_pos hlt] at HI
    generalize (nextW s).length = n at *
    generalize s.length = sl at *
    generalize rd s = S at *
    have hSI : (S.size : Int) = sl := by omega
    go_enter Tryz.func70, Tryz.ntmps70
    go_wp2_with (first
      | (go_at_call 86; refine (HI.out _).mono ?_; rintro e x1 ⟨rfl, h1⟩; have HB1 := hid0 h1; obtain ⟨k1, k2⟩ := HL.out x1 h1; clear h1)
      | (go_at_call 87; refine (HT.out _).mono ?_; rintro e x2 ⟨rfl, h2⟩; have HB2 := hid0 (HB1.out.trans (h2.mono HB1.out.size)); clear h2; obtain ⟨k3, k4⟩ := HL.out x2 HB2.out)
      | fail)
    go_ret
    exact ⟨by rw [HX.out]; rfl, hid0 ⟨HW.out _ HB2.out, _, HB2.out, rfl⟩⟩
  · rw [if_neg hlt] at HI
    have hnl : (nextW s).length = s.length := by omega
    have HX2 : Hid (rd s = S2) := hid0 (by rw [← HX.out, hnl]; exact (str_eq4 (by rw [extract_take4]; show (s.take s.length) = s; exact List.take_length)).symm)
    have he : (rd s).extract s.length s.length = ByteArray.empty := by simp
    rw [hnl, he] at HT
    clear he
    clear hz HX hnl hlt hn
    generalize s.length = sl at *
    generalize rd s = S at *
    have hSI : (S.size : Int) = sl := by omega
    go_enter Tryz.func70, Tryz.ntmps70
    go_wp2_with (first
      | (go_at_call 86; refine (HI.out _).mono ?_; rintro e x1 ⟨rfl, h1⟩; have HB1 := hid0 h1; obtain ⟨k1, k2⟩ := HL.out x1 h1; clear h1)
      | (go_at_call 87; refine (HT.out _).mono ?_; rintro e x2 ⟨rfl, h2⟩; have HB2 := hid0 (HB1.out.trans (h2.mono HB1.out.size)); clear h2; obtain ⟨k3, k4⟩ := HL.out x2 HB2.out)
      | fail)
    go_ret
    exact ⟨by rw [HX2.out]; rfl, hid0 ⟨HW.out _ HB2.out, _, HB2.out, rfl⟩⟩
end Go.Proofs.YtcbepmjojppokaaGreatDoor
