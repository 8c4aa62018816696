/-
  strings.Clone, strings.TrimSuffix at 0D, slices.Index at strings, at this program.
-/
import Derived.Test.YthdmhelgmejicaaGreatDoorPfSp4M
import Derived.Test.YthdmhelgmejicaaGreatDoorPfCtW
namespace Go.Proofs.YthdmhelgmejicaaGreatDoor
open Go.RowKit Go.Shelf
theorem chop_suffix (l : By) : Lib.trimSuffix l [13] = chopR l := by
  unfold Lib.trimSuffix Lib.hasSuffix chopR
  rcases List.eq_nil_or_concat l with rfl | ⟨a, b, rfl⟩
  · rfl
  · rw [List.concat_eq_append]
    by_cases h : b = 13
    · subst h
      have h1 : ([13] : List UInt8).isSuffixOf (a ++ [13]) = true := by rw [List.isSuffixOf_iff_suffix]; exact List.suffix_append _ _
      rw [if_pos h1, if_pos (by simp)]
      simp
    · have h1 : ¬ ([13] : List UInt8).isSuffixOf (a ++ [b]) = true := by
        rw [List.isSuffixOf_iff_suffix]
        rintro ⟨q, hq⟩
        have := (List.append_inj' hq rfl).2
        simp at this
        exact h this.symm
      rw [if_neg h1, if_neg (by simpa using h)]
theorem trimSuffix_any (s : ByteArray) (hs : s.size ≤ 4194400) (w : World) :
    Calls Tryz.prog 44 #[.string s, .string ⟨#[13]⟩] w fun e w' => e = .returned (.string (rd (chopR s.data.toList))) ∧ w' = w := by
  have h := Any.strings_TrimSuffix Tryz.lays102 s ⟨#[13]⟩ w (by omega)
  rw [show (⟨#[13]⟩ : ByteArray).data.toList = [13] from rfl, chop_suffix] at h
  exact h
theorem index_any (L : List ByteArray) (a : Option Addr) (cap : Nat) (x : ByteArray) (w : World) (hl : L.length ≤ 4194401) (ha : SA w a L) :
    Calls Tryz.prog 84 #[.slice a L.length cap, .string x] w fun e w' => e = .returned (.int .i64 (Lib.idxOfS L x)) ∧ w' = w := by
  cases hL : L with
  | nil => exact Any.slices_Index_string_empty Tryz.lays109 a cap x w
  | cons y r =>
    rw [← hL]
    obtain ⟨b, off, rfl, _⟩ := ha.at' 0 (by rw [hL]; simp)
    have h := Any.slices_Index_string Tryz.lays109 b off L.length cap L x w (Nat.le_refl _) (by omega) (fun j hj => by
      obtain ⟨b', off', e, hc⟩ := ha.at' j hj
      obtain ⟨rfl, rfl⟩ : b = b' ∧ off = off' := by simpa using e
      rw [hc]
      simp [List.getD, hj])
    rw [List.take_of_length_le (Nat.le_refl _)] at h
    exact h
set_option maxRecDepth 10000 in
theorem clone_any (s : ByteArray) (hs : s.size ≤ 4194400) (w : World) :
    Calls Tryz.prog 86 #[.string s] w fun e w' => e = .returned (.string s) ∧ Below w.heap.size w w' := by
  have h := Any.stringslite_Clone Tryz.laysM316 s w (by omega)
  change Calls Tryz.prog 111 _ _ _ at h
  go_enter Tryz.func86, Tryz.ntmps86
  go_wp2_with (go_at_call 111; refine h.mono ?_; rintro e w1 ⟨rfl, hb⟩; have HB := hid0 hb; clear hb)
  go_ret
  exact ⟨rfl, HB.out⟩
end Go.Proofs.YthdmhelgmejicaaGreatDoor
