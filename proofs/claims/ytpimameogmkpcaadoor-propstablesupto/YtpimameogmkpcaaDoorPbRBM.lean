/-
  Pieces: there is always one, and at most 128; the first half of a step.
-/
import Derived.Test.YtpimameogmkpcaaDoorPbRAW
namespace Go.Proofs.YtpimameogmkpcaaDoor
open Go.RowKit Go.Shelf
theorem encN_len (f : Nat → Int) (n : Nat) : (encN f n).length ≤ n := by
  induction n with
  | zero => simp [encN]
  | succ n ih =>
    rw [encN]
    split
    · rw [List.length_append, List.length_singleton]; omega
    · omega
theorem encN_form (f : Nat → Int) : ∃ X q, encN f 128 = X ++ [q] ∧ X.length ≤ 128 := by
  have hl := encN_len f 128
  obtain ⟨a, h, _⟩ := encN_last f 128 (by omega)
  rcases List.eq_nil_or_concat (encN f 128) with h0 | ⟨X, q, h1⟩
  · rw [h0] at h; cases h
  · rw [List.concat_eq_append] at h1
    exact ⟨X, q, h1, by rw [h1] at hl; simp at hl; omega⟩
theorem pcs_half {N : Int} {ss : List Sp} (hR : Rise N ss) (b k : Nat) (hk : k < ss.length) :
    ∃ f, putF (pcs (ss.take k) b) (max (ss[k].1 - 128 * (b : Int)) 0, ss[k].2.2 + 1) = encN f 128 := by
  have hb := rise_before hR k hk
  obtain ⟨fr, hfr⟩ : ∃ fr : Nat, max (ss[k].1 - 128 * (b : Int)) 0 = (fr : Int) := ⟨(max (ss[k].1 - 128 * (b : Int)) 0).toNat, by omega⟩
  have hz : ∀ j : Nat, fr ≤ j → clsB (ss.take k) b j = 0 := fun j hj => cls_none (fun t ht => by rw [hits_not]; have := hb t ht; omega)
  exact ⟨_, by rw [hfr, pcs, putF_enc _ fr _ (fun j h1 _ => by rw [hz j h1, hz fr (Nat.le_refl _)])]⟩
/-- put, at pieces of any row. -/
theorem put_enc (w : World) (base : Nat) (v : Value) (f : Nat → Int) (at' c : Int) (hb : base ≤ w.heap.size) (h : OwnQ w base v (encN f 128)) :
    Calls Tryd.prog 47 #[v, .agg #[.int .i64 at', .int .i64 c]] w fun e w' => ∃ v', e = .returned v' ∧ OwnQ w' base v' (putF (encN f 128) (at', c)) ∧ Below base w w' := by
  obtain ⟨X, q, e, hl⟩ := encN_form f
  rw [e] at h ⊢
  exact put_any w base v X q at' c (by omega) hb h
end Go.Proofs.YtpimameogmkpcaaDoor
