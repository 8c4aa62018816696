/-
  The walks of propfile's small reader: its kinds of bytes, while, found, need.
-/
import Derived.Test.YthdmhelgmejicaaGreatDoorPfRefW
import Derived.Test.YthdmhelgmejicaaGreatDoorShelfR
namespace Go.Proofs.YthdmhelgmejicaaGreatDoor
open Go.RowKit Go.Shelf
theorem u95' (c : UInt8) : (c == 95) = decide ((c.toNat : Int) = 95) := by
  rw [show (95 : UInt8) = UInt8.ofNat 95 from rfl, u8_eq c 95 (by omega)]; rfl
theorem isHx_int (c : UInt8) (x : Int) (hx : (c.toNat : Int) = x) : isHx c = ((decide (48 ≤ x) && decide (x ≤ 57)) || (decide (65 ≤ x) && decide (x ≤ 70)) || (decide (97 ≤ x) && decide (x ≤ 102))) := by
  subst hx
  rw [Bool.eq_iff_iff]
  simp only [isHx, isDg, Bool.or_eq_true, Bool.and_eq_true, decide_eq_true_eq]
  omega
theorem isNb_int (c : UInt8) (x : Int) (hx : (c.toNat : Int) = x) : isNb c = ((decide (65 ≤ x) && decide (x ≤ 90)) || (decide (97 ≤ x) && decide (x ≤ 122)) || (decide (48 ≤ x) && decide (x ≤ 57)) || decide (x = 95)) := by
  subst hx
  rw [Bool.eq_iff_iff]
  simp only [isNb, isLt, isDg, u95', Bool.or_eq_true, Bool.and_eq_true, decide_eq_true_eq]
  omega
theorem isLt_int (c : UInt8) (x : Int) (hx : (c.toNat : Int) = x) : isLt c = ((decide (65 ≤ x) && decide (x ≤ 90)) || (decide (97 ≤ x) && decide (x ≤ 122))) := by
  subst hx
  rw [Bool.eq_iff_iff]
  simp only [isLt, Bool.or_eq_true, Bool.and_eq_true, decide_eq_true_eq]
  omega
set_option maxRecDepth 10000 in
theorem isHexDigit_any (c : UInt8) (w : World) : Calls Tryz.prog 107 #[.int .u8 (c.toNat : Int)] w fun e w' => e = .returned (.bool (isHx c)) ∧ w' = w := by
  rw [isHx_int c _ rfl]
  have h0 : (0 : Int) ≤ (c.toNat : Int) := by omega
  generalize (c.toNat : Int) = x at h0
  by_cases a0 : 48 ≤ x <;> by_cases a1 : x ≤ 57 <;> by_cases a2 : 65 ≤ x <;> by_cases a3 : x ≤ 70 <;> by_cases a4 : 97 ≤ x <;> by_cases a5 : x ≤ 102 <;> first
    | (exfalso; omega)
    | (have hb : ((decide (48 ≤ x) && decide (x ≤ 57)) || (decide (65 ≤ x) && decide (x ≤ 70)) || (decide (97 ≤ x) && decide (x ≤ 102))) = true := by
         simp only [Bool.or_eq_true, Bool.and_eq_true, decide_eq_true_eq]; omega
       rw [hb]
       clear hb
       go_enter Tryz.func107, Tryz.ntmps107
       go_wp2
       go_ret
       exact ⟨rfl, rfl⟩)
    | (have hb : ((decide (48 ≤ x) && decide (x ≤ 57)) || (decide (65 ≤ x) && decide (x ≤ 70)) || (decide (97 ≤ x) && decide (x ≤ 102))) = false := by
         rw [Bool.eq_false_iff]; simp only [ne_eq, Bool.or_eq_true, Bool.and_eq_true, decide_eq_true_eq]; omega
       rw [hb]
       clear hb
       go_enter Tryz.func107, Tryz.ntmps107
       go_wp2
       go_ret
       exact ⟨rfl, rfl⟩)
set_option maxRecDepth 10000 in
theorem isNameByte_any (c : UInt8) (w : World) : Calls Tryz.prog 99 #[.int .u8 (c.toNat : Int)] w fun e w' => e = .returned (.bool (isNb c)) ∧ w' = w := by
  rw [isNb_int c _ rfl]
  have h0 : (0 : Int) ≤ (c.toNat : Int) := by omega
  generalize (c.toNat : Int) = x at h0
  by_cases a0 : 48 ≤ x <;> by_cases a1 : x ≤ 57 <;> by_cases a2 : 65 ≤ x <;> by_cases a3 : x ≤ 90 <;> by_cases a4 : 97 ≤ x <;> by_cases a5 : x ≤ 122 <;> by_cases a6 : x = 95 <;> first
    | (exfalso; omega)
    | (have hb : ((decide (65 ≤ x) && decide (x ≤ 90)) || (decide (97 ≤ x) && decide (x ≤ 122)) || (decide (48 ≤ x) && decide (x ≤ 57)) || decide (x = 95)) = true := by
         simp only [Bool.or_eq_true, Bool.and_eq_true, decide_eq_true_eq]; omega
       rw [hb]
       clear hb
       go_enter Tryz.func99, Tryz.ntmps99
       go_wp2
       go_ret
       exact ⟨rfl, rfl⟩)
    | (have hb : ((decide (65 ≤ x) && decide (x ≤ 90)) || (decide (97 ≤ x) && decide (x ≤ 122)) || (decide (48 ≤ x) && decide (x ≤ 57)) || decide (x = 95)) = false := by
         rw [Bool.eq_false_iff]; simp only [ne_eq, Bool.or_eq_true, Bool.and_eq_true, decide_eq_true_eq]; omega
       rw [hb]
       clear hb
       go_enter Tryz.func99, Tryz.ntmps99
       go_wp2
       go_ret
       first | exact ⟨rfl, rfl⟩ | (refine ⟨?_, rfl⟩; simp only [show (x == 95) = false by simpa using a6]; rfl))
set_option maxRecDepth 10000 in
theorem isLetter_any (c : UInt8) (w : World) : Calls Tryz.prog 98 #[.int .u8 (c.toNat : Int)] w fun e w' => e = .returned (.bool (isLt c)) ∧ w' = w := by
  rw [isLt_int c _ rfl]
  have h0 : (0 : Int) ≤ (c.toNat : Int) := by omega
  generalize (c.toNat : Int) = x at h0
  by_cases a0 : 65 ≤ x <;> by_cases a1 : x ≤ 90 <;> by_cases a2 : 97 ≤ x <;> by_cases a3 : x ≤ 122 <;> first
    | (exfalso; omega)
    | (have hb : ((decide (65 ≤ x) && decide (x ≤ 90)) || (decide (97 ≤ x) && decide (x ≤ 122))) = true := by
         simp only [Bool.or_eq_true, Bool.and_eq_true, decide_eq_true_eq]; omega
       rw [hb]
       clear hb
       go_enter Tryz.func98, Tryz.ntmps98
       go_wp2
       go_ret
       exact ⟨rfl, rfl⟩)
    | (have hb : ((decide (65 ≤ x) && decide (x ≤ 90)) || (decide (97 ≤ x) && decide (x ≤ 122))) = false := by
         rw [Bool.eq_false_iff]; simp only [ne_eq, Bool.or_eq_true, Bool.and_eq_true, decide_eq_true_eq]; omega
       rw [hb]
       clear hb
       go_enter Tryz.func98, Tryz.ntmps98
       go_wp2
       go_ret
       exact ⟨rfl, rfl⟩)
theorem idx_blank (c : UInt8) : decide (0 ≤ Lib.indexByte [32, 9] c) = isBl c := by
  unfold isBl
  simp only [Lib.indexByte]
  by_cases h1 : c = 32
  · subst h1; rfl
  · by_cases h2 : c = 9
    · subst h2; rfl
    · have e1 : ((32 : UInt8) == c) = false := by simpa using fun h => h1 h.symm
      have e2 : ((9 : UInt8) == c) = false := by simpa using fun h => h2 h.symm
      have e3 : (c == 32) = false := by simpa using h1
      have e4 : (c == 9) = false := by simpa using h2
      simp only [e1, e2, e3, e4]
      rfl
set_option maxRecDepth 10000 in
theorem isBlank_any (c : UInt8) (w : World) : Calls Tryz.prog 81 #[.int .u8 (c.toNat : Int)] w fun e w' => e = .returned (.bool (isBl c)) ∧ w' = w := by
  have h1 := fun w => Any.strings_IndexByte Tryz.lays137 ⟨#[32, 9]⟩ (c.toNat : Int) w
  have e1 : ((c.toNat : Int).toNat.toUInt8) = c := by simp
  rw [e1] at h1
  change ∀ w, Calls Tryz.prog 110 _ _ _ at h1
  rw [← idx_blank]
  have e2 : ([32, 9] : List UInt8) = (⟨#[32, 9]⟩ : ByteArray).data.toList := rfl
  rw [e2]
  generalize Lib.indexByte (⟨#[32, 9]⟩ : ByteArray).data.toList c = q at h1
  clear e1 e2
  go_enter Tryz.func81, Tryz.ntmps81
  go_wp2_with (go_at_call 110; refine (h1 _).mono ?_; rintro e w1 ⟨rfl, rfl⟩)
  go_ret
  exact ⟨rfl, rfl⟩
end Go.Proofs.YthdmhelgmejicaaGreatDoor
