/-
  The short line, as the document writes it (stage 23).
-/
import Derived.Test.YtcbepmjojppokaaGreatDoorTpCW
namespace Go.Proofs.YtcbepmjojppokaaGreatDoor.Tp
open Go.RowKit Go.Shelf
/-- The mark ahead of a place. -/
def mkF (B : List Int) (i : Nat) : List UInt8 := if (i : Int) ∈ B then [195, 183] else [195, 151]
/-- The line up to the mark at a place. -/
def shF (P B : List Int) : Nat → List UInt8
  | 0 => mkF B 0
  | i + 1 => shF P B i ++ [32] ++ hx (P.getD i 0).toNat ++ [32] ++ mkF B (i + 1)
/-- The line ahead of that mark. -/
def preF (P B : List Int) : Nat → List UInt8
  | 0 => []
  | i + 1 => shF P B i ++ [32] ++ hx (P.getD i 0).toNat ++ [32]
theorem sh_pre (P B : List Int) (i : Nat) : shF P B i = preF P B i ++ mkF B i := by
  cases i with
  | zero => rfl
  | succ i => rfl
theorem mkF_len (B : List Int) (i : Nat) : (mkF B i).length = 2 := by unfold mkF; split <;> rfl
theorem hx_len6 (n : Nat) : (hx n).length ≤ 6 := by rw [hx_len]; unfold hxk; (repeat' split) <;> omega
theorem pre_len (P B : List Int) : ∀ i, (preF P B i).length ≤ 10 * i
  | 0 => Nat.le_refl _
  | i + 1 => by
    have h := pre_len P B i
    have h6 := hx_len6 (P.getD i 0).toNat
    rw [preF, sh_pre]
    simp only [List.length_append, mkF_len, List.length_cons, List.length_nil]
    omega
/-- What is known of the places that are passed. -/
structure BkI (B : List Int) (i k : Nat) : Prop where
  le : k ≤ B.length
  lo : ∀ x ∈ B.take k, x < (i : Int)
  hi : ∀ x ∈ B.drop k, (i : Int) ≤ x
theorem rise_ge : ∀ (L : List Int) (c lo : Int), riseF c lo L = true → ∀ x ∈ L, lo ≤ x
  | [], _, _, _, _, h => by cases h
  | y :: L, c, lo, h, x, hx => by
    simp only [riseF, Bool.and_eq_true, decide_eq_true_eq] at h
    rcases List.mem_cons.1 hx with rfl | hx
    · exact h.1.1
    · have := rise_ge L c (y + 1) h.2 x hx
      omega
theorem rise_dropS : ∀ (L : List Int) (c lo : Int) (k : Nat) (hk : k < L.length), riseF c lo L = true → ∀ x ∈ L.drop (k + 1), L[k] < x
  | [], _, _, _, hk, _, _, _ => by simp at hk
  | y :: L, c, lo, 0, _, h, x, hx => by
    simp only [riseF, Bool.and_eq_true, decide_eq_true_eq] at h
    have := rise_ge L c (y + 1) h.2 x (by simpa using hx)
    simp only [List.getElem_cons_zero]
    omega
  | y :: L, c, lo, k + 1, hk, h, x, hx => by
    simp only [riseF, Bool.and_eq_true, decide_eq_true_eq] at h
    exact rise_dropS L c (y + 1) k (by simpa using hk) h.2 x (by simpa using hx)
theorem bk_start {B : List Int} {c : Int} (h : riseF c 0 B = true) : BkI B 0 0 := ⟨Nat.zero_le _, fun x hx => by simp at hx, fun x hx => rise_ge B c 0 h x (by simpa using hx)⟩
theorem bk_mem {B : List Int} {i k : Nat} (h : BkI B i k) : (i : Int) ∈ B ↔ ∃ hk : k < B.length, B[k] = (i : Int) ∨ (i : Int) ∈ B.drop (k + 1) := by
  constructor
  · intro hm
    rw [← List.take_append_drop k B] at hm
    rcases List.mem_append.1 hm with hm | hm
    · have := h.lo _ hm; omega
    · by_cases hk : k < B.length
      · refine ⟨hk, ?_⟩
        rw [List.drop_eq_getElem_cons hk] at hm
        rcases List.mem_cons.1 hm with e | e
        · exact .inl e.symm
        · exact .inr e
      · rw [List.drop_of_length_le (by omega)] at hm; cases hm
  · rintro ⟨hk, e | e⟩
    · rw [← e]; exact List.getElem_mem hk
    · exact List.mem_of_mem_drop e
/-- The mark is there. -/
theorem bk_yes {B : List Int} {i k : Nat} {c : Int} (hr : riseF c 0 B = true) (h : BkI B i k) (hk : k < B.length) (e : B[k] = (i : Int)) : mkF B i = [195, 183] ∧ BkI B (i + 1) (k + 1) := by
  refine ⟨?_, by omega, fun x hx => ?_, fun x hx => ?_⟩
  · unfold mkF
    rw [if_pos ((bk_mem h).2 ⟨hk, .inl e⟩)]
  · rw [List.take_add_one, List.getElem?_eq_getElem hk] at hx
    rcases List.mem_append.1 hx with hx | hx
    · have := h.lo x hx; omega
    · simp only [Option.toList_some, List.mem_singleton] at hx
      omega
  · have := rise_dropS B c 0 k hk hr x hx
    omega
theorem bk_no {B : List Int} {i k : Nat} {c : Int} (hr : riseF c 0 B = true) (h : BkI B i k) (e : ∀ hk : k < B.length, B[k] ≠ (i : Int)) : mkF B i = [195, 151] ∧ BkI B (i + 1) k := by
  have hno : ¬ (i : Int) ∈ B := fun hm => by
    obtain ⟨hk, e1 | e1⟩ := (bk_mem h).1 hm
    · exact e hk e1
    · have h1 := rise_dropS B c 0 k hk hr _ e1
      have h2 := h.hi (B[k]) (by rw [List.drop_eq_getElem_cons hk]; exact List.mem_cons_self)
      omega
  refine ⟨by unfold mkF; rw [if_neg hno], h.le, fun x hx => by have := h.lo x hx; omega, fun x hx => ?_⟩
  have h1 := h.hi x hx
  have h2 : x ≠ (i : Int) := fun e2 => hno (by rw [← e2]; exact List.mem_of_mem_drop hx)
  omega
end Go.Proofs.YtcbepmjojppokaaGreatDoor.Tp
