/-
  The walks of propfile's small reader: while, found, need, point, name.
-/
import Derived.Test.YthdmhelgmejicaaGreatDoorPfPuW
namespace Go.Proofs.YthdmhelgmejicaaGreatDoor
open Go.RowKit Go.Shelf
/-- The reader's one cell. -/
structure Rdr (w : World) (R : Nat) (s : ByteArray) : Prop where
  blk : w.heap[R]? = some (.cells #[.string s] 124 (0, 0))
theorem Rdr.lt {w : World} {R : Nat} {s : ByteArray} (h : Rdr w R s) : R < w.heap.size := (Array.getElem?_eq_some_iff.1 h.blk).1
theorem Rdr.cells {w : World} {R : Nat} {s : ByteArray} (h : Rdr w R s) : w.cell? ⟨R, 0, none⟩ = some (.string s) ∧ w.frozen? ⟨R, 0, none⟩ = false :=
  ⟨by rw [cell_of_row w R _ _ _ _ h.blk]; rfl, frozen_of_row w R _ _ _ h.blk⟩
theorem Rdr.set {w : World} {R : Nat} {s : ByteArray} (h : Rdr w R s) (t : ByteArray) : Rdr (w.setCell ⟨R, 0, none⟩ (.string t)) R t := ⟨heap_setCell_same w R 0 _ _ _ h.blk⟩
theorem Rdr.below {w w' : World} {R : Nat} {s : ByteArray} (h : Rdr w R s) (hb : Below w.heap.size w w') : Rdr w' R s := ⟨(hb.block R h.lt).trans h.blk⟩
theorem extract_drop4 (s : ByteArray) (k : Nat) : (s.extract k s.size).data.toList = s.data.toList.drop k := by
  have e : s.size = s.data.toList.length := by simp
  rw [ByteArray.data_extract, Array.toList_extract, List.extract_eq_take_drop]
  exact List.take_of_length_le (by rw [List.length_drop]; omega)
theorem extract_take4 (s : ByteArray) (k : Nat) : (s.extract 0 k).data.toList = s.data.toList.take k := by
  rw [ByteArray.data_extract, Array.toList_extract, List.extract_eq_take_drop]
  simp
theorem str_eq4 {s : ByteArray} {l : List UInt8} (h : s.data.toList = l) : s = ⟨l.toArray⟩ := by
  subst h; rfl
set_option maxRecDepth 10000 in
set_option maxHeartbeats 800000 in
theorem while_hx (s : ByteArray) (hs : s.size ≤ 4194400) (R : Nat) (w : World) (h : Rdr w R s) :
    Calls Tryz.prog 80 #[.pointer (some ⟨R, 0, none⟩), .func (.func 107) #[] #[]] w fun e w' => e = .returned (.string ⟨(s.data.toList.takeWhile isHx).toArray⟩) ∧ w' = w.setCell ⟨R, 0, none⟩ (.string ⟨(s.data.toList.dropWhile isHx).toArray⟩) := by
  obtain ⟨c0, f0⟩ := h.cells
  clear h
  go_enter Tryz.func80, Tryz.ntmps80
  go_wp2
  go_loopw [5] (fun i wr => ∃ k : Nat, k ≤ s.size ∧ i = .int .i64 (k : Int) ∧ (∀ j, j < k → ∃ c, s.data.toList[j]? = some c ∧ isHx c = true) ∧ wr = w) (fun i _ => s.size - (intOf i).toNat)
  case atStart => exact ⟨0, Nat.zero_le _, rfl, fun j hj => absurd hj (Nat.not_lt_zero _), rfl⟩
  case round =>
    obtain ⟨k, hk, rfl, hall, rfl⟩ := hrel
    have HA := hid0 hall
    clear hall
    by_cases hlt : k < s.size
    · have HC := hid0 (bget s k hlt)
      have HG := hid0 (isHexDigit_any s[k])
      have hlI : (k : Int) < (s.size : Int) := by omega
      by_cases hK : isHx s[k] = true
      · have HN : Hid (∀ j, j < k + 1 → ∃ c, s.data.toList[j]? = some c ∧ isHx c = true) := hid0 (fun j hj => by
          by_cases e : j = k
          · subst e; exact ⟨_, HC.out, hK⟩
          · exact HA.out j (by omega))
        rw [hK] at HG
        clear hK HA HC
        go_wp2_with (go_at_call 107; refine (HG.out _).mono ?_; rintro e w1 ⟨rfl, rfl⟩)
        go_roundw
        case rel => exact ⟨k + 1, hlt, by go_num, HN.out, trivial⟩
        case measure => simp [intOf]; omega
      · have hK' : isHx s[k] = false := by simpa using hK
        rw [hK'] at HG
        have hln : (s.data.toList.takeWhile isHx).length = k := scan_end isHx _ k HA.out (fun c hc' => by rw [HC.out] at hc'; obtain rfl := Option.some.inj hc'; exact hK')
        have H1 : Hid (s.extract 0 k = ⟨(s.data.toList.takeWhile isHx).toArray⟩) := hid0 (str_eq4 (by rw [extract_take4, scan_take, hln]))
        have H2 : Hid (s.extract k s.size = ⟨(s.data.toList.dropWhile isHx).toArray⟩) := hid0 (str_eq4 (by rw [extract_drop4, ← takeWhile_len_drop, hln]))
        have hkI2 : (k : Int) ≤ (s.size : Int) := by omega
        have hkI0 : (0 : Int) ≤ (k : Int) := by omega
        clear hln HA
        go_wp2_with (go_at_call 107; refine (HG.out _).mono ?_; rintro e w1 ⟨rfl, rfl⟩)
        go_ret
        exact ⟨by rw [← H1.out]; rfl, by rw [← H2.out]⟩
    · have hkI : ¬ (k : Int) < (s.size : Int) := by omega
      have hln : (s.data.toList.takeWhile isHx).length = k := scan_end isHx _ k HA.out (fun c hc' => by have := (List.getElem?_eq_some_iff.1 hc').1; simp at this; omega)
      have H1 : Hid (s.extract 0 k = ⟨(s.data.toList.takeWhile isHx).toArray⟩) := hid0 (str_eq4 (by rw [extract_take4, scan_take, hln]))
      have H2 : Hid (s.extract k s.size = ⟨(s.data.toList.dropWhile isHx).toArray⟩) := hid0 (str_eq4 (by rw [extract_drop4, ← takeWhile_len_drop, hln]))
      have hkI2 : (k : Int) ≤ (s.size : Int) := by omega
      have hkI0 : (0 : Int) ≤ (k : Int) := by omega
      clear hln HA
      go_wp2
      go_ret
      exact ⟨by rw [← H1.out]; rfl, by rw [← H2.out]⟩
set_option maxRecDepth 10000 in
set_option maxHeartbeats 800000 in
theorem while_bl (s : ByteArray) (hs : s.size ≤ 4194400) (R : Nat) (w : World) (h : Rdr w R s) :
    Calls Tryz.prog 80 #[.pointer (some ⟨R, 0, none⟩), .func (.func 81) #[] #[]] w fun e w' => e = .returned (.string ⟨(s.data.toList.takeWhile isBl).toArray⟩) ∧ w' = w.setCell ⟨R, 0, none⟩ (.string ⟨(s.data.toList.dropWhile isBl).toArray⟩) := by
  obtain ⟨c0, f0⟩ := h.cells
  clear h
  go_enter Tryz.func80, Tryz.ntmps80
  go_wp2
  go_loopw [5] (fun i wr => ∃ k : Nat, k ≤ s.size ∧ i = .int .i64 (k : Int) ∧ (∀ j, j < k → ∃ c, s.data.toList[j]? = some c ∧ isBl c = true) ∧ wr = w) (fun i _ => s.size - (intOf i).toNat)
  case atStart => exact ⟨0, Nat.zero_le _, rfl, fun j hj => absurd hj (Nat.not_lt_zero _), rfl⟩
  case round =>
    obtain ⟨k, hk, rfl, hall, rfl⟩ := hrel
    have HA := hid0 hall
    clear hall
    by_cases hlt : k < s.size
    · have HC := hid0 (bget s k hlt)
      have HG := hid0 (isBlank_any s[k])
      have hlI : (k : Int) < (s.size : Int) := by omega
      by_cases hK : isBl s[k] = true
      · have HN : Hid (∀ j, j < k + 1 → ∃ c, s.data.toList[j]? = some c ∧ isBl c = true) := hid0 (fun j hj => by
          by_cases e : j = k
          · subst e; exact ⟨_, HC.out, hK⟩
          · exact HA.out j (by omega))
        rw [hK] at HG
        clear hK HA HC
        go_wp2_with (go_at_call 81; refine (HG.out _).mono ?_; rintro e w1 ⟨rfl, rfl⟩)
        go_roundw
        case rel => exact ⟨k + 1, hlt, by go_num, HN.out, trivial⟩
        case measure => simp [intOf]; omega
      · have hK' : isBl s[k] = false := by simpa using hK
        rw [hK'] at HG
        have hln : (s.data.toList.takeWhile isBl).length = k := scan_end isBl _ k HA.out (fun c hc' => by rw [HC.out] at hc'; obtain rfl := Option.some.inj hc'; exact hK')
        have H1 : Hid (s.extract 0 k = ⟨(s.data.toList.takeWhile isBl).toArray⟩) := hid0 (str_eq4 (by rw [extract_take4, scan_take, hln]))
        have H2 : Hid (s.extract k s.size = ⟨(s.data.toList.dropWhile isBl).toArray⟩) := hid0 (str_eq4 (by rw [extract_drop4, ← takeWhile_len_drop, hln]))
        have hkI2 : (k : Int) ≤ (s.size : Int) := by omega
        have hkI0 : (0 : Int) ≤ (k : Int) := by omega
        clear hln HA
        go_wp2_with (go_at_call 81; refine (HG.out _).mono ?_; rintro e w1 ⟨rfl, rfl⟩)
        go_ret
        exact ⟨by rw [← H1.out]; rfl, by rw [← H2.out]⟩
    · have hkI : ¬ (k : Int) < (s.size : Int) := by omega
      have hln : (s.data.toList.takeWhile isBl).length = k := scan_end isBl _ k HA.out (fun c hc' => by have := (List.getElem?_eq_some_iff.1 hc').1; simp at this; omega)
      have H1 : Hid (s.extract 0 k = ⟨(s.data.toList.takeWhile isBl).toArray⟩) := hid0 (str_eq4 (by rw [extract_take4, scan_take, hln]))
      have H2 : Hid (s.extract k s.size = ⟨(s.data.toList.dropWhile isBl).toArray⟩) := hid0 (str_eq4 (by rw [extract_drop4, ← takeWhile_len_drop, hln]))
      have hkI2 : (k : Int) ≤ (s.size : Int) := by omega
      have hkI0 : (0 : Int) ≤ (k : Int) := by omega
      clear hln HA
      go_wp2
      go_ret
      exact ⟨by rw [← H1.out]; rfl, by rw [← H2.out]⟩
set_option maxRecDepth 10000 in
set_option maxHeartbeats 800000 in
theorem while_nb (s : ByteArray) (hs : s.size ≤ 4194400) (R : Nat) (w : World) (h : Rdr w R s) :
    Calls Tryz.prog 80 #[.pointer (some ⟨R, 0, none⟩), .func (.func 99) #[] #[]] w fun e w' => e = .returned (.string ⟨(s.data.toList.takeWhile isNb).toArray⟩) ∧ w' = w.setCell ⟨R, 0, none⟩ (.string ⟨(s.data.toList.dropWhile isNb).toArray⟩) := by
  obtain ⟨c0, f0⟩ := h.cells
  clear h
  go_enter Tryz.func80, Tryz.ntmps80
  go_wp2
  go_loopw [5] (fun i wr => ∃ k : Nat, k ≤ s.size ∧ i = .int .i64 (k : Int) ∧ (∀ j, j < k → ∃ c, s.data.toList[j]? = some c ∧ isNb c = true) ∧ wr = w) (fun i _ => s.size - (intOf i).toNat)
  case atStart => exact ⟨0, Nat.zero_le _, rfl, fun j hj => absurd hj (Nat.not_lt_zero _), rfl⟩
  case round =>
    obtain ⟨k, hk, rfl, hall, rfl⟩ := hrel
    have HA := hid0 hall
    clear hall
    by_cases hlt : k < s.size
    · have HC := hid0 (bget s k hlt)
      have HG := hid0 (isNameByte_any s[k])
      have hlI : (k : Int) < (s.size : Int) := by omega
      by_cases hK : isNb s[k] = true
      · have HN : Hid (∀ j, j < k + 1 → ∃ c, s.data.toList[j]? = some c ∧ isNb c = true) := hid0 (fun j hj => by
          by_cases e : j = k
          · subst e; exact ⟨_, HC.out, hK⟩
          · exact HA.out j (by omega))
        rw [hK] at HG
        clear hK HA HC
        go_wp2_with (go_at_call 99; refine (HG.out _).mono ?_; rintro e w1 ⟨rfl, rfl⟩)
        go_roundw
        case rel => exact ⟨k + 1, hlt, by go_num, HN.out, trivial⟩
        case measure => simp [intOf]; omega
      · have hK' : isNb s[k] = false := by simpa using hK
        rw [hK'] at HG
        have hln : (s.data.toList.takeWhile isNb).length = k := scan_end isNb _ k HA.out (fun c hc' => by rw [HC.out] at hc'; obtain rfl := Option.some.inj hc'; exact hK')
        have H1 : Hid (s.extract 0 k = ⟨(s.data.toList.takeWhile isNb).toArray⟩) := hid0 (str_eq4 (by rw [extract_take4, scan_take, hln]))
        have H2 : Hid (s.extract k s.size = ⟨(s.data.toList.dropWhile isNb).toArray⟩) := hid0 (str_eq4 (by rw [extract_drop4, ← takeWhile_len_drop, hln]))
        have hkI2 : (k : Int) ≤ (s.size : Int) := by omega
        have hkI0 : (0 : Int) ≤ (k : Int) := by omega
        clear hln HA
        go_wp2_with (go_at_call 99; refine (HG.out _).mono ?_; rintro e w1 ⟨rfl, rfl⟩)
        go_ret
        exact ⟨by rw [← H1.out]; rfl, by rw [← H2.out]⟩
    · have hkI : ¬ (k : Int) < (s.size : Int) := by omega
      have hln : (s.data.toList.takeWhile isNb).length = k := scan_end isNb _ k HA.out (fun c hc' => by have := (List.getElem?_eq_some_iff.1 hc').1; simp at this; omega)
      have H1 : Hid (s.extract 0 k = ⟨(s.data.toList.takeWhile isNb).toArray⟩) := hid0 (str_eq4 (by rw [extract_take4, scan_take, hln]))
      have H2 : Hid (s.extract k s.size = ⟨(s.data.toList.dropWhile isNb).toArray⟩) := hid0 (str_eq4 (by rw [extract_drop4, ← takeWhile_len_drop, hln]))
      have hkI2 : (k : Int) ≤ (s.size : Int) := by omega
      have hkI0 : (0 : Int) ≤ (k : Int) := by omega
      clear hln HA
      go_wp2
      go_ret
      exact ⟨by rw [← H1.out]; rfl, by rw [← H2.out]⟩
end Go.Proofs.YthdmhelgmejicaaGreatDoor
