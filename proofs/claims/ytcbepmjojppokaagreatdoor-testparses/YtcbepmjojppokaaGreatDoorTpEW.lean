/-
  The document's short line (stage 23; written by TfEW.py).
-/
import Derived.Test.YtcbepmjojppokaaGreatDoorTpBW
import Derived.Test.YtcbepmjojppokaaGreatDoorTpDW
namespace Go.Proofs.YtcbepmjojppokaaGreatDoor.Tp
open Go.RowKit Go.Shelf
/-- The document's short line, at the head of its loop. -/
def hdF (P B : List Int) (i : Nat) : List UInt8 := if i ≤ P.length then preF P B i else shF P B P.length
theorem hdF_lt (P B : List Int) (i : Nat) (h : i < P.length) : hdF P B (i + 1) = hdF P B i ++ mkF B i ++ [32] ++ hx (P.getD i 0).toNat ++ [32] := by
  unfold hdF
  rw [if_pos (by omega), if_pos (by omega), preF, sh_pre]
theorem hdF_end (P B : List Int) : hdF P B (P.length + 1) = hdF P B P.length ++ mkF B P.length := by
  unfold hdF
  rw [if_neg (by omega), if_pos (Nat.le_refl _), sh_pre]
theorem hdF_fin (P B : List Int) : hdF P B (P.length + 1) = shF P B P.length := by
  unfold hdF
  rw [if_neg (by omega)]
theorem hdF_len (P B : List Int) (i : Nat) (h : i ≤ P.length) : (hdF P B i).length ≤ 10 * P.length := by
  unfold hdF
  rw [if_pos h]
  exact Nat.le_trans (pre_len P B i) (by omega)
theorem strT (l : List UInt8) : (⟨l.toArray⟩ : ByteArray).size = l.length := List.size_toArray
theorem lit1 (a : UInt8) : (⟨#[a]⟩ : ByteArray) = ⟨[a].toArray⟩ := rfl
theorem lit2 (a b : UInt8) : (⟨#[a, b]⟩ : ByteArray) = ⟨[a, b].toArray⟩ := rfl
/-- The inner facts of a point. -/
theorem mayC_pt {P B : List Int} (h : mayC P B = true) (i : Nat) (hi : i < P.length) : 0 ≤ P[i] ∧ P[i] ≤ 1114111 := by
  unfold mayC at h
  simp only [Bool.and_eq_true] at h
  have := List.all_eq_true.1 h.1 _ (List.getElem_mem hi)
  unfold scalarP at this
  simp at this
  omega
theorem mayC_rise {P B : List Int} (h : mayC P B = true) : riseF ((P.length : Int) + 1) 0 B = true := by
  unfold mayC at h
  simp only [Bool.and_eq_true] at h
  exact h.2
end Go.Proofs.YtcbepmjojppokaaGreatDoor.Tp
