/-
  A point in hexadecimal digits, as the document writes it (stage 23).
-/
import Derived.Test.YtcbepmjojppokaaGreatDoorTfAW
namespace Go.Proofs.YtcbepmjojppokaaGreatDoor.Tp
open Go.RowKit Go.Shelf
/-- A digit's byte. -/
def hxd (d : Nat) : UInt8 := ([48, 49, 50, 51, 52, 53, 54, 55, 56, 57, 65, 66, 67, 68, 69, 70] : List UInt8).getD d 0
/-- How many digits. -/
def hxk (n : Nat) : Nat := if n < 65536 then 4 else if n < 1048576 then 5 else 6
/-- The last k digits. -/
def hxs (n : Nat) : Nat → List UInt8
  | 0 => []
  | k + 1 => hxd (n / 16 ^ k % 16) :: hxs n k
def hx (n : Nat) : List UInt8 := hxs n (hxk n)
theorem hxs_len (n : Nat) : ∀ k, (hxs n k).length = k
  | 0 => rfl
  | k + 1 => by rw [hxs, List.length_cons, hxs_len n k]
theorem hx_len (n : Nat) : (hx n).length = hxk n := hxs_len n _
theorem ext_hex : ∀ d : Fin 16, (⟨#[48, 49, 50, 51, 52, 53, 54, 55, 56, 57, 65, 66, 67, 68, 69, 70]⟩ : ByteArray).extract d.val (d.val + 1) = ⟨#[hxd d.val]⟩ := by decide +kernel
theorem app_arrT (a b : List UInt8) : (⟨a.toArray⟩ ++ ⟨b.toArray⟩ : ByteArray) = ⟨(a ++ b).toArray⟩ := by
  apply ByteArray.ext
  simp
theorem size_arrT (l : List UInt8) : (⟨l.toArray⟩ : ByteArray).size = l.length := List.size_toArray
/-- A text's size. -/
def szT : Value → Nat | .string b => b.size | _ => 0
theorem ext_hexS (d : Nat) (h : d < 16) : (⟨#[48, 49, 50, 51, 52, 53, 54, 55, 56, 57, 65, 66, 67, 68, 69, 70]⟩ : ByteArray).extract d (d + 1) = ⟨[hxd d].toArray⟩ := ext_hex ⟨d, h⟩
theorem hx_more {n k m : Nat} (hn : n ≤ 1114111) (hk : k ≤ hxk n) (hm : m = n / 16 ^ k) (hc : 0 < m ∨ k < 4) : k < hxk n := by
  unfold hxk at *
  rcases hc with hc | hc
  · split at hk
    · rcases Nat.lt_or_ge k 4 with h | h
      · split <;> omega
      · have : k = 4 := by omega
        subst this
        simp at hm
        omega
    · split at hk
      · rcases Nat.lt_or_ge k 5 with h | h
        · split
          · omega
          · omega
        · have : k = 5 := by omega
          subst this
          simp at hm
          omega
      · rcases Nat.lt_or_ge k 6 with h | h
        · (try split) <;> omega
        · have : k = 6 := by omega
          subst this
          simp at hm
          omega
  · split
    · omega
    · split <;> omega
theorem hx_done {n k m : Nat} (hk : k ≤ hxk n) (hm : m = n / 16 ^ k) (h0 : ¬ 0 < m) (h4 : ¬ k < 4) : k = hxk n := by
  have h6 : k ≤ 6 := by unfold hxk at hk; (repeat' split at hk) <;> omega
  have : k = 4 ∨ k = 5 ∨ k = 6 := by omega
  unfold hxk at *
  rcases this with rfl | rfl | rfl
  · simp at hm
    rw [if_pos (by omega)]
  · simp at hm
    split at hk
    · omega
    · rw [if_neg (by assumption), if_pos (by omega)]
  · split at hk
    · omega
    · split at hk
      · omega
      · rw [if_neg (by assumption), if_neg (by assumption)]
end Go.Proofs.YtcbepmjojppokaaGreatDoor.Tp
