/-
  strconv.ParseUint at 16 and 64 where a sign is no digit.
-/
import Derived.Test.YtcbepmjojppokaaGreatDoorTgDW
namespace Go.Proofs.YtcbepmjojppokaaGreatDoor
open Go.RowKit Go.Shelf
def loN (x : Nat) : Nat := x ||| 32
theorem lo_bits : ((List.range 256).all fun x => decide (bits .or .u8 (x : Int) 32 = ((loN x : Nat) : Int))) = true := by kernel_rfl
theorem lo_tab : ((List.range 256).all fun x => decide (loN x < 256) && (isHx (UInt8.ofNat x) || (decide (¬ (48 ≤ x ∧ x ≤ 57)) && decide (¬ (97 ≤ loN x ∧ loN x ≤ 102))))) = true := by kernel_rfl
theorem loN_lt (x : Nat) (h : x < 256) : loN x < 256 := by
  have := List.all_eq_true.1 lo_tab x (List.mem_range.2 h)
  simp only [Bool.and_eq_true, decide_eq_true_eq] at this
  exact this.1
theorem not_hx (c : UInt8) (h : isHx c = false) : ¬ (48 ≤ c.toNat ∧ c.toNat ≤ 57) ∧ ¬ (97 ≤ loN c.toNat ∧ loN c.toNat ≤ 102) := by
  have := List.all_eq_true.1 lo_tab c.toNat (List.mem_range.2 c.toNat_lt)
  rw [UInt8.ofNat_toNat, h] at this
  simp only [Bool.false_or, Bool.and_eq_true, decide_eq_true_eq] at this
  exact this.2
set_option maxRecDepth 10000 in
theorem lower_all (x : Nat) (h : x < 256) (w : World) : Calls Tryz.prog 123 #[.int .u8 (x : Int)] w fun e w' => e = .returned (.int .u8 ((loN x : Nat) : Int)) ∧ w' = w := by
  have hb := of_decide_eq_true (List.all_eq_true.1 lo_bits x (List.mem_range.2 h))
  go_enter Tryz.func123, Tryz.ntmps123
  go_wp2
  go_ret
  exact ⟨by rw [← hb]; rfl, rfl⟩
set_option maxRecDepth 100000 in
set_option maxHeartbeats 3200000 in
theorem parseUint16_bad (t : ByteArray) (kb : Nat) (h4 : kb < t.size) (h6 : t.size ≤ 6) (hx : ∀ j (h : j < t.size), j < kb → isHx t[j] = true) (hbad : isHx t[kb] = false) (w : World) :
    Calls Tryz.prog 107 #[.string t, .int .i64 16, .int .i64 64] w fun e w' => e = .returned (.tuple #[.int .u64 0, .iface 169 (.int .i64 2)]) ∧ w' = Lib.bytesWorld w 5 t := by
  have hemp : t.toList.isEmpty = false := by
    rw [← decide_eq_emptyBytes]
    exact decide_eq_false (fun h => by rw [h] at h4; simp at h4)
  have hcv := Lib.run_convert_string_bytes (P := Tryz.prog) w 9 83 5 t (u := .string) Tryz.underlying9 Tryz.underlying83 Tryz.underlying5
  have hB : ∀ j, j < t.size → (Lib.bytesWorld w 5 t).cell? ⟨w.heap.size, j, none⟩ = some (.int .u8 (t.data.toList.getD j 0).toNat) := fun j hj => Lib.bytesWorld_cell w 5 t j hj
  obtain ⟨W1, hW1⟩ : ∃ W1, W1 = Lib.bytesWorld w 5 t := ⟨_, rfl⟩
  rw [← hW1] at hcv hB ⊢
  clear hW1
  have hmv : IntKind.u64.wrap (IntKind.u64.wrap 18446744073709551616 - 1) = 18446744073709551615 := by
    rw [IntKind.wrap_u64, IntKind.wrap_u64]
    decide
  have HX := hid0 hx
  have HB := hid0 hB
  clear hx hB
  go_enter Tryz.func107, Tryz.ntmps107
  go_wp2
  go_loopw [12, 13, 101] (fun vu vn vi wr => ∃ (k : Nat) (a : Int), vu = .bool false ∧ vn = .int .u64 a ∧ vi = .int .i64 (k : Int) ∧ k ≤ kb ∧ Hid (a = (hexN (t.data.toList.take k) : Int)) ∧ wr = W1) (fun _ _ vi _ => t.size - (intOf vi).toNat)
  case atStart => exact ⟨0, 0, rfl, rfl, rfl, by omega, rfl, rfl⟩
  case round =>
    obtain ⟨k, a, rfl, rfl, rfl, hk, hh, rfl⟩ := hrel
    have hlt : hexN (t.data.toList.take k) < 16 ^ 6 := by
      have h1 := hexN_lt (t.data.toList.take k) (fun c hc => by
        obtain ⟨j, hj, rfl⟩ := List.getElem_of_mem hc
        have hj2 : j < k ∧ j < t.size := by simp at hj; omega
        have h9 := HX.out j hj2.2 (by omega)
        rw [List.getElem_take]
        have e : t.data.toList[j]'(by simp; exact hj2.2) = t[j]'hj2.2 := by simp; rfl
        rw [e]
        exact h9)
      have h2 : 16 ^ (t.data.toList.take k).length ≤ 16 ^ 6 := Nat.pow_le_pow_right (by omega) (by simp; omega)
      omega
    have a0 : 0 ≤ a := by rw [hh.out]; omega
    have a1 : a < 16777216 := by rw [hh.out]; omega
    clear hlt
    have hkn : k < t.size := by omega
    by_cases hkb : k < kb
    · have hc := HB.out k hkn
      have hget : t.data.toList.getD k 0 = t[k] := by rw [List.getD, bget t k hkn]; rfl
      rw [hget] at hc
      have hxc := HX.out k hkn hkb
      have HE : Hid (hexN (t.data.toList.take (k + 1)) = 16 * hexN (t.data.toList.take k) + hxv t[k]) := hid0 (by rw [List.take_add_one, bget t k hkn]; exact hexN_snoc _ _)
      obtain ⟨x, hxx⟩ : ∃ x : Int, (t[k].toNat : Int) = x := ⟨_, rfl⟩
      have hcl := hxv_int t[k] x hxx hxc
      rw [hxx] at hc
      clear HB HX hget hxc hxx
      have HV : ∀ z : Int, (hxv t[k] : Int) = z → Hid (a * 16 + z = (hexN (t.data.toList.take (k + 1)) : Int)) := fun z hz => hid0 (by rw [HE.out, hh.out, ← hz]; omega)
      clear HE
      rcases hcl with ⟨b1, b2, b3⟩ | ⟨b1, b2, b3⟩ | ⟨b1, b2, b3⟩
      · have HV' := HV _ b3
        clear HV b3
        go_wp2
        exact ⟨⟨k + 1, _, rfl, (by first | rfl | (congr 1; omega)), (by first | rfl | go_num), by omega, HV', trivial⟩, by simp [intOf]; omega⟩
      · have HV' := HV _ b3
        have HLo := hid0 (lower_up x b1 b2)
        clear HV b3
        go_wp2_with (go_at_call 123; refine (HLo.out _).mono ?_; rintro e w1 ⟨rfl, rfl⟩)
        exact ⟨⟨k + 1, _, rfl, (by first | rfl | (congr 1; omega)), (by first | rfl | go_num), by omega, HV', trivial⟩, by simp [intOf]; omega⟩
      · have HV' := HV _ b3
        have HLo := hid0 (lower_lo x b1 b2)
        clear HV b3
        go_wp2_with (go_at_call 123; refine (HLo.out _).mono ?_; rintro e w1 ⟨rfl, rfl⟩)
        exact ⟨⟨k + 1, _, rfl, (by first | rfl | (congr 1; omega)), (by first | rfl | go_num), by omega, HV', trivial⟩, by simp [intOf]; omega⟩
    · obtain rfl : k = kb := by omega
      have hkI : (k : Int) < (t.size : Int) := by omega
      have hc := HB.out k hkn
      have hget : t.data.toList.getD k 0 = t[k] := by rw [List.getD, bget t k hkn]; rfl
      rw [hget] at hc
      have hnb := not_hx t[k] hbad
      have hx8 : t[k].toNat < 256 := t[k].toNat_lt
      obtain ⟨x, hxx⟩ : ∃ x : Nat, t[k].toNat = x := ⟨_, rfl⟩
      rw [hxx] at hc hnb hx8
      clear HB HX hget hbad hxx hh
      have HLo := hid0 (lower_all x hx8)
      obtain ⟨y, hy⟩ : ∃ y : Nat, loN x = y := ⟨_, rfl⟩
      rw [hy] at HLo
      obtain ⟨d1, d2⟩ := hnb
      rw [hy] at d2
      have hd1 : ¬ (48 ≤ (x : Int) ∧ (x : Int) ≤ 57) := by omega
      have hy8 : y < 256 := by rw [← hy]; exact loN_lt x hx8
      clear hy
      have q95 : ((x : Int) == 95) = decide (x = 95) := by by_cases h : x = 95 <;> simp [h] <;> omega
      rcases (show x = 95 ∨ x ≠ 95 by omega) with hu | hu
      · have q5 : ((x : Int) == 95) = true := by rw [q95]; simp [hu]
        clear q95 hu
        rcases (show x < 48 ∨ 57 < x by omega) with hv | hv
        · have v1 : ¬ (48 : Int) ≤ (x : Int) := by omega
          rcases (show y < 97 ∨ (103 ≤ y ∧ y ≤ 122) ∨ 122 < y by omega) with h | h | h
          · have u1 : ¬ (97 : Int) ≤ (y : Int) := by omega
            go_wp2_with (go_at_call 123; refine (HLo.out _).mono ?_; rintro e w1 ⟨rfl, rfl⟩)
            go_ret2
            exact ⟨rfl, rfl⟩
          · have u1 : (97 : Int) ≤ (y : Int) := by omega
            have u2 : (y : Int) ≤ 122 := by omega
            have u3 : (16 : Int) ≤ (y : Int) - 97 + 10 := by omega
            have u4 : (y : Int) - 97 + 10 < 256 := by omega
            go_wp2_with (go_at_call 123; refine (HLo.out _).mono ?_; rintro e w1 ⟨rfl, rfl⟩)
            go_ret2
            exact ⟨rfl, rfl⟩
          · have u1 : (97 : Int) ≤ (y : Int) := by omega
            have u2 : ¬ (y : Int) ≤ 122 := by omega
            go_wp2_with (go_at_call 123; refine (HLo.out _).mono ?_; rintro e w1 ⟨rfl, rfl⟩)
            go_ret2
            exact ⟨rfl, rfl⟩
        · have v1 : (48 : Int) ≤ (x : Int) := by omega
          have v2 : ¬ (x : Int) ≤ 57 := by omega
          rcases (show y < 97 ∨ (103 ≤ y ∧ y ≤ 122) ∨ 122 < y by omega) with h | h | h
          · have u1 : ¬ (97 : Int) ≤ (y : Int) := by omega
            go_wp2_with (go_at_call 123; refine (HLo.out _).mono ?_; rintro e w1 ⟨rfl, rfl⟩)
            go_ret2
            exact ⟨rfl, rfl⟩
          · have u1 : (97 : Int) ≤ (y : Int) := by omega
            have u2 : (y : Int) ≤ 122 := by omega
            have u3 : (16 : Int) ≤ (y : Int) - 97 + 10 := by omega
            have u4 : (y : Int) - 97 + 10 < 256 := by omega
            go_wp2_with (go_at_call 123; refine (HLo.out _).mono ?_; rintro e w1 ⟨rfl, rfl⟩)
            go_ret2
            exact ⟨rfl, rfl⟩
          · have u1 : (97 : Int) ≤ (y : Int) := by omega
            have u2 : ¬ (y : Int) ≤ 122 := by omega
            go_wp2_with (go_at_call 123; refine (HLo.out _).mono ?_; rintro e w1 ⟨rfl, rfl⟩)
            go_ret2
            exact ⟨rfl, rfl⟩
      · have q5 : ((x : Int) == 95) = false := by rw [q95]; simp [hu]
        clear q95 hu
        rcases (show x < 48 ∨ 57 < x by omega) with hv | hv
        · have v1 : ¬ (48 : Int) ≤ (x : Int) := by omega
          rcases (show y < 97 ∨ (103 ≤ y ∧ y ≤ 122) ∨ 122 < y by omega) with h | h | h
          · have u1 : ¬ (97 : Int) ≤ (y : Int) := by omega
            go_wp2_with (go_at_call 123; refine (HLo.out _).mono ?_; rintro e w1 ⟨rfl, rfl⟩)
            go_ret2
            exact ⟨rfl, rfl⟩
          · have u1 : (97 : Int) ≤ (y : Int) := by omega
            have u2 : (y : Int) ≤ 122 := by omega
            have u3 : (16 : Int) ≤ (y : Int) - 97 + 10 := by omega
            have u4 : (y : Int) - 97 + 10 < 256 := by omega
            go_wp2_with (go_at_call 123; refine (HLo.out _).mono ?_; rintro e w1 ⟨rfl, rfl⟩)
            go_ret2
            exact ⟨rfl, rfl⟩
          · have u1 : (97 : Int) ≤ (y : Int) := by omega
            have u2 : ¬ (y : Int) ≤ 122 := by omega
            go_wp2_with (go_at_call 123; refine (HLo.out _).mono ?_; rintro e w1 ⟨rfl, rfl⟩)
            go_ret2
            exact ⟨rfl, rfl⟩
        · have v1 : (48 : Int) ≤ (x : Int) := by omega
          have v2 : ¬ (x : Int) ≤ 57 := by omega
          rcases (show y < 97 ∨ (103 ≤ y ∧ y ≤ 122) ∨ 122 < y by omega) with h | h | h
          · have u1 : ¬ (97 : Int) ≤ (y : Int) := by omega
            go_wp2_with (go_at_call 123; refine (HLo.out _).mono ?_; rintro e w1 ⟨rfl, rfl⟩)
            go_ret2
            exact ⟨rfl, rfl⟩
          · have u1 : (97 : Int) ≤ (y : Int) := by omega
            have u2 : (y : Int) ≤ 122 := by omega
            have u3 : (16 : Int) ≤ (y : Int) - 97 + 10 := by omega
            have u4 : (y : Int) - 97 + 10 < 256 := by omega
            go_wp2_with (go_at_call 123; refine (HLo.out _).mono ?_; rintro e w1 ⟨rfl, rfl⟩)
            go_ret2
            exact ⟨rfl, rfl⟩
          · have u1 : (97 : Int) ≤ (y : Int) := by omega
            have u2 : ¬ (y : Int) ≤ 122 := by omega
            go_wp2_with (go_at_call 123; refine (HLo.out _).mono ?_; rintro e w1 ⟨rfl, rfl⟩)
            go_ret2
            exact ⟨rfl, rfl⟩
end Go.Proofs.YtcbepmjojppokaaGreatDoor
