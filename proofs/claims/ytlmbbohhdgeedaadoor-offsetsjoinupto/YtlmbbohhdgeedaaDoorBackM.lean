/-
  What is encoded is split into just these points.
-/
import Derived.Test.YtlmbbohhdgeedaaDoorEncodeW
import Derived.Test.YtlmbbohhdgeedaaDoorUListW
namespace Go.Proofs.YtlmbbohhdgeedaaDoor
open Go.RowKit
theorem o8 (n : Nat) (h : n < 256) : (UInt8.ofNat n).toNat = n := by rw [UInt8.toNat_ofNat']; omega
theorem good_enc (n : Nat) (hn : scalarP (n : Int) = true) (r : List UInt8) : goodOf (encL n ++ r) = some (n, (encL n).length) := by
  rw [← refGood_eq]
  have hs := (scalar_iff _).1 hn
  by_cases h1 : n < 128
  · have e := o8 n (by omega)
    rw [encL, if_pos h1, List.cons_append, List.nil_append, ref_cons _ _ 1 (size1 (by rw [e]; exact h1)), if_neg (by omega), if_neg (by omega), test1 _ _ (by rw [e]; exact h1), e]
    rfl
  · by_cases h2 : n < 2048
    · have e1 := o8 (192 + n / 64) (by omega)
      have e2 := o8 (128 + n % 64) (by omega)
      rw [encL, if_neg h1, if_pos h2, List.cons_append, List.cons_append, List.nil_append, ref_cons _ _ 2 (size2 (by omega) (by omega)), if_neg (by omega), if_neg (by simp), test2 _ _ _ (by omega) (by omega), if_pos (by omega)]
      have e : (ptL (UInt8.ofNat (192 + n / 64) :: UInt8.ofNat (128 + n % 64) :: r) (((UInt8.ofNat (192 + n / 64)).toNat : Int) - 192) 1).toNat = n := by
        have : ptL (UInt8.ofNat (192 + n / 64) :: UInt8.ofNat (128 + n % 64) :: r) (((UInt8.ofNat (192 + n / 64)).toNat : Int) - 192) 1 = (((UInt8.ofNat (192 + n / 64)).toNat : Int) - 192) * 64 + ((UInt8.ofNat (128 + n % 64)).toNat : Int) - 128 := by simp only [ptL]; rfl
        rw [this, e1, e2]; omega
      rw [e]; rfl
    · by_cases h3 : n < 65536
      · have e1 := o8 (224 + n / 4096) (by omega)
        have e2 := o8 (128 + n / 64 % 64) (by omega)
        have e3 := o8 (128 + n % 64) (by omega)
        rw [encL, if_neg h1, if_neg h2, if_pos h3, List.cons_append, List.cons_append, List.cons_append, List.nil_append, ref_cons _ _ 3 (size3 (by omega) (by omega)), if_neg (by omega), if_neg (by simp), test3 _ _ _ _ (by omega) (by omega), if_pos (by omega)]
        have e : (ptL (UInt8.ofNat (224 + n / 4096) :: UInt8.ofNat (128 + n / 64 % 64) :: UInt8.ofNat (128 + n % 64) :: r) (((UInt8.ofNat (224 + n / 4096)).toNat : Int) - 224) 2).toNat = n := by
          have : ptL (UInt8.ofNat (224 + n / 4096) :: UInt8.ofNat (128 + n / 64 % 64) :: UInt8.ofNat (128 + n % 64) :: r) (((UInt8.ofNat (224 + n / 4096)).toNat : Int) - 224) 2 = ((((UInt8.ofNat (224 + n / 4096)).toNat : Int) - 224) * 64 + ((UInt8.ofNat (128 + n / 64 % 64)).toNat : Int) - 128) * 64 + ((UInt8.ofNat (128 + n % 64)).toNat : Int) - 128 := by simp only [ptL]; rfl
          rw [this, e1, e2, e3]; omega
        rw [e]; rfl
      · have e1 := o8 (240 + n / 262144) (by omega)
        have e2 := o8 (128 + n / 4096 % 64) (by omega)
        have e3 := o8 (128 + n / 64 % 64) (by omega)
        have e4 := o8 (128 + n % 64) (by omega)
        rw [encL, if_neg h1, if_neg h2, if_neg h3, List.cons_append, List.cons_append, List.cons_append, List.cons_append, List.nil_append, ref_cons _ _ 4 (size4 (by omega) (by omega)), if_neg (by omega), if_neg (by simp), test4 _ _ _ _ _ (by omega) (by omega), if_pos (by omega)]
        have e : (ptL (UInt8.ofNat (240 + n / 262144) :: UInt8.ofNat (128 + n / 4096 % 64) :: UInt8.ofNat (128 + n / 64 % 64) :: UInt8.ofNat (128 + n % 64) :: r) (((UInt8.ofNat (240 + n / 262144)).toNat : Int) - 240) 3).toNat = n := by
          have : ptL (UInt8.ofNat (240 + n / 262144) :: UInt8.ofNat (128 + n / 4096 % 64) :: UInt8.ofNat (128 + n / 64 % 64) :: UInt8.ofNat (128 + n % 64) :: r) (((UInt8.ofNat (240 + n / 262144)).toNat : Int) - 240) 3 = (((((UInt8.ofNat (240 + n / 262144)).toNat : Int) - 240) * 64 + ((UInt8.ofNat (128 + n / 4096 % 64)).toNat : Int) - 128) * 64 + ((UInt8.ofNat (128 + n / 64 % 64)).toNat : Int) - 128) * 64 + ((UInt8.ofNat (128 + n % 64)).toNat : Int) - 128 := by simp only [ptL]; rfl
          rw [this, e1, e2, e3, e4]; omega
        rw [e]; rfl
theorem encL_pos (n : Nat) : 0 < (encL n).length := by unfold encL; (repeat' split) <;> simp
theorem unitsF_enc (ps : List Int) : ∀ (f k : Nat), (encAll ps).length ≤ f → ps.all scalarP = true → (unitsF f k (encAll ps)).map (·.1) = ps := by
  induction ps with
  | nil => intro f k _ _; cases f <;> rfl
  | cons p ps ih =>
    intro f k hf ha
    rw [List.all_cons, Bool.and_eq_true] at ha
    have hp := (scalar_iff _).1 ha.1
    obtain ⟨n, rfl⟩ : ∃ n : Nat, p = (n : Int) := ⟨p.toNat, by omega⟩
    have e : encAll ((n : Int) :: ps) = encL n ++ encAll ps := by rw [encAll, List.flatMap_cons]; rfl
    rw [e] at hf ⊢
    rw [List.length_append] at hf
    have hpos := encL_pos n
    have hu : uniOf (encL n ++ encAll ps) = ((n : Int), (encL n).length) := by rw [uniOf, good_enc n ha.1]
    obtain ⟨a, t, he⟩ : ∃ a t, encL n ++ encAll ps = a :: t := by
      cases h : encL n ++ encAll ps with
      | nil => have := congrArg List.length h; rw [List.length_append, List.length_nil] at this; omega
      | cons a t => exact ⟨a, t, rfl⟩
    obtain ⟨f', rfl⟩ : ∃ f', f = f' + 1 := ⟨f - 1, by omega⟩
    rw [he, unitsF, ← he, hu, List.map_cons]
    simp only
    rw [List.drop_left, ih f' _ (by omega) ha.2]
theorem units_enc (ps : List Int) (ha : ps.all scalarP = true) : (unitsOf (encAll ps)).map (·.1) = ps := by
  rw [unitsOf, unitsAt, List.drop_zero, Nat.sub_zero]
  exact unitsF_enc ps _ 0 (Nat.le_refl _) ha
end Go.Proofs.YtlmbbohhdgeedaaDoor
