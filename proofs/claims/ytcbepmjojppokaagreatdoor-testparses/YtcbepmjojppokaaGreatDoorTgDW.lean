/-
  The walks of strconv.ParseInt at 16 and 64, of four to six digits.
-/
import Derived.Test.YtcbepmjojppokaaGreatDoorPfM
import Derived.Test.YtcbepmjojppokaaGreatDoorTgAW
import Derived.Lib.ConvBytes
import Derived.Lib.Walk
import Derived.Lib.Strings
import Derived.Laws.Strings3
namespace Go.Proofs.YtcbepmjojppokaaGreatDoor
open Go.RowKit Go.Shelf
set_option maxRecDepth 10000 in
theorem lower_up (x : Int) (h1 : 65 ≤ x) (h2 : x ≤ 70) (w : World) : Calls Tryz.prog 123 #[.int .u8 x] w fun e w' => e = .returned (.int .u8 (x + 32)) ∧ w' = w := by
  have h : x = 65 ∨ x = 66 ∨ x = 67 ∨ x = 68 ∨ x = 69 ∨ x = 70 := by omega
  rcases h with rfl | rfl | rfl | rfl | rfl | rfl <;>
    (go_enter Tryz.func123, Tryz.ntmps123
     go_wp2
     go_ret
     exact ⟨rfl, rfl⟩)
set_option maxRecDepth 10000 in
theorem lower_lo (x : Int) (h1 : 97 ≤ x) (h2 : x ≤ 102) (w : World) : Calls Tryz.prog 123 #[.int .u8 x] w fun e w' => e = .returned (.int .u8 x) ∧ w' = w := by
  have h : x = 97 ∨ x = 98 ∨ x = 99 ∨ x = 100 ∨ x = 101 ∨ x = 102 := by omega
  rcases h with rfl | rfl | rfl | rfl | rfl | rfl <;>
    (go_enter Tryz.func123, Tryz.ntmps123
     go_wp2
     go_ret
     exact ⟨rfl, rfl⟩)
theorem hxv_int (c : UInt8) (x : Int) (hx : (c.toNat : Int) = x) (h : isHx c = true) : (48 ≤ x ∧ x ≤ 57 ∧ (hxv c : Int) = x - 48) ∨ (65 ≤ x ∧ x ≤ 70 ∧ (hxv c : Int) = x - 55) ∨ (97 ≤ x ∧ x ≤ 102 ∧ (hxv c : Int) = x - 87) := by
  subst hx
  simp only [isHx, isDg, Bool.or_eq_true, Bool.and_eq_true, decide_eq_true_eq] at h
  unfold hxv
  (repeat' split) <;> omega
set_option maxRecDepth 100000 in
set_option maxHeartbeats 3200000 in
theorem parseUint16 (t : ByteArray) (h4 : 1 ≤ t.size) (h6 : t.size ≤ 6) (hx : ∀ c ∈ t.data.toList, isHx c = true) (w : World) :
    Calls Tryz.prog 107 #[.string t, .int .i64 16, .int .i64 64] w fun e w' => e = .returned (.tuple #[.int .u64 (hexN t.data.toList : Int), .nilIface]) ∧ w' = Lib.bytesWorld w 5 t := by
  have hemp : t.toList.isEmpty = false := by
    rw [← decide_eq_emptyBytes]
    exact decide_eq_false (fun h => by rw [h] at h4; simp at h4)
  have hcv := Lib.run_convert_string_bytes (P := Tryz.prog) w 9 83 5 t (u := .string) Tryz.underlying9 Tryz.underlying83 Tryz.underlying5
  have hB : ∀ j, j < t.size → (Lib.bytesWorld w 5 t).cell? ⟨w.heap.size, j, none⟩ = some (.int .u8 (t.data.toList.getD j 0).toNat) := fun j hj => Lib.bytesWorld_cell w 5 t j hj
  obtain ⟨W1, hW1⟩ : ∃ W1, W1 = Lib.bytesWorld w 5 t := ⟨_, rfl⟩
  rw [← hW1] at hcv hB ⊢
  clear hW1
  have hmv : IntKind.u64.wrap (IntKind.u64.wrap 18446744073709551616 - 1) = 18446744073709551615 := by
    rw [IntKind.wrap_u64, IntKind.wrap_u64]
    decide
  have HX := hid0 hx
  have HB := hid0 hB
  clear hx hB
  go_enter Tryz.func107, Tryz.ntmps107
  go_wp2
  go_loopw [12, 13, 101] (fun vu vn vi wr => ∃ (k : Nat) (a : Int), vu = .bool false ∧ vn = .int .u64 a ∧ vi = .int .i64 (k : Int) ∧ k ≤ t.size ∧ Hid (a = (hexN (t.data.toList.take k) : Int)) ∧ wr = W1) (fun _ _ vi _ => t.size - (intOf vi).toNat)
  case atStart => exact ⟨0, 0, rfl, rfl, rfl, by omega, rfl, rfl⟩
  case round =>
    obtain ⟨k, a, rfl, rfl, rfl, hk, hh, rfl⟩ := hrel
    have hlt : hexN (t.data.toList.take k) < 16 ^ 6 := by
      have h1 := hexN_lt (t.data.toList.take k) (fun c hc => HX.out c (List.mem_of_mem_take hc))
      have h2 : 16 ^ (t.data.toList.take k).length ≤ 16 ^ 6 := Nat.pow_le_pow_right (by omega) (by simp; omega)
      omega
    have a0 : 0 ≤ a := by rw [hh.out]; omega
    have a1 : a < 16777216 := by rw [hh.out]; omega
    clear hlt
    by_cases hkn : k < t.size
    · have hc := HB.out k hkn
      have hget : t.data.toList.getD k 0 = t[k] := by rw [List.getD, bget t k hkn]; rfl
      rw [hget] at hc
      have hxc := HX.out t[k] (List.mem_of_getElem? (bget t k hkn))
      have HE : Hid (hexN (t.data.toList.take (k + 1)) = 16 * hexN (t.data.toList.take k) + hxv t[k]) := hid0 (by rw [List.take_add_one, bget t k hkn]; exact hexN_snoc _ _)
      obtain ⟨x, hxx⟩ : ∃ x : Int, (t[k].toNat : Int) = x := ⟨_, rfl⟩
      have hcl := hxv_int t[k] x hxx hxc
      rw [hxx] at hc
      clear HB HX hget hxc hxx
      have HV : ∀ z : Int, (hxv t[k] : Int) = z → Hid (a * 16 + z = (hexN (t.data.toList.take (k + 1)) : Int)) := fun z hz => hid0 (by rw [HE.out, hh.out, ← hz]; omega)
      clear HE
      rcases hcl with ⟨b1, b2, b3⟩ | ⟨b1, b2, b3⟩ | ⟨b1, b2, b3⟩
      · have HV' := HV _ b3
        clear HV b3
        go_wp2
        exact ⟨⟨k + 1, _, rfl, (by first | rfl | (congr 1; omega)), (by first | rfl | go_num), by omega, HV', trivial⟩, by simp [intOf]; omega⟩
      · have HV' := HV _ b3
        have HLo := hid0 (lower_up x b1 b2)
        clear HV b3
        go_wp2_with (go_at_call 123; refine (HLo.out _).mono ?_; rintro e w1 ⟨rfl, rfl⟩)
        exact ⟨⟨k + 1, _, rfl, (by first | rfl | (congr 1; omega)), (by first | rfl | go_num), by omega, HV', trivial⟩, by simp [intOf]; omega⟩
      · have HV' := HV _ b3
        have HLo := hid0 (lower_lo x b1 b2)
        clear HV b3
        go_wp2_with (go_at_call 123; refine (HLo.out _).mono ?_; rintro e w1 ⟨rfl, rfl⟩)
        exact ⟨⟨k + 1, _, rfl, (by first | rfl | (congr 1; omega)), (by first | rfl | go_num), by omega, HV', trivial⟩, by simp [intOf]; omega⟩
    · have hkI : ¬ (k : Int) < (t.size : Int) := by omega
      have HA : Hid (a = (hexN t.data.toList : Int)) := hid0 (by rw [hh.out, List.take_of_length_le (by simp; omega)])
      go_wp2
      go_ret2
      exact ⟨by rw [← HA.out]; rfl, rfl⟩
end Go.Proofs.YtcbepmjojppokaaGreatDoor
