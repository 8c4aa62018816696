/-
  The walks of caesuraref1's Form and its Writer.
-/
import Derived.Test.YtnclpcnpaodjjaaDoorApartW
namespace Go.Proofs.YtnclpcnpaodjjaaDoor
open Go.RowKit
set_option maxRecDepth 10000 in
set_option maxHeartbeats 300000 in
theorem refForm_any (N : Nat) (hN : N < 9223372036854775808) (w : World) :
    Calls Tryd.prog 31 #[.int .i64 (N : Int)] w fun e w' => ∃ v, e = .returned v ∧ Own w' w.heap.size v (form 9 N) ∧ Below w.heap.size w w' := by
  obtain ⟨i0, hi, hz0, hz1, hz2⟩ := info_parts infoU8
  go_enter Tryd.func31, Tryd.ntmps31
  go_wp2
  go_loopw [0, 3] (fun i v wr => ∃ (m f : Nat) (p : List UInt8), i = .int .i64 (m : Int) ∧ m < 9223372036854775808 ∧ m < 128 ^ (f + 1) ∧ p.length + f ≤ 9 ∧ p ++ form f m = form 9 N ∧ Own wr w.heap.size v p ∧ Below w.heap.size w wr) (fun i _ _ => (intOf i).toNat)
  case atStart => exact ⟨N, 9, [], rfl, hN, by omega, by simp, rfl, World.ownsRow_nil _ _ _ _, Below.refl _ _⟩
  case round =>
    obtain ⟨m, f, p, rfl, hm, hf, hp, hform, hown, hbel⟩ := hrel
    have HF := hid0 hform
    have hsz := hbel.size
    clear hform
    by_cases hbig : m < 128
    · have hlt : ¬ (128 : Int) ≤ (m : Int) := by omega
      have hw8 : (UInt8.ofNat m).toNat = m := by have := u8_toNat m (by omega); omega
      have HT := hid0 hw8
      clear hf hw8
      go_wp2_with (at_builtin; refine wpList_append_own _ rfl _ _ 26 rfl w.heap.size 5 i0 (.int .u8 0) 1 1 Tryd.underlying26 hi hz0 hz1 hz2 rfl (by decide) _ _ _ rfl (hown.alloc _) ⟨wr.heap.size, 0, none⟩ 1 1 [.int .u8 ((m : Int))] rfl rfl ?c1 ?c2 ?c3 ?c4 ?c5 ?_)
      case c2 => first | (intro u hu; simp at hu; subst hu; rfl) | rfl
      case c3 => unfold maxLen; omega
      case c4 => omega
      case c5 => first | omega | (simp; omega)
      · intro v' w1 hown' hgrow _
        rw [← HT.out] at hown'
        have R := own_snoc (l := p) (c := UInt8.ofNat m) rfl hown hown' hgrow rfl hbel (Nat.le_refl _)
        rw [← form_small f m hbig, HF.out] at R
        have HR := hid0 R
        clear hown' hgrow hown hbel R
        go_wp2
        go_ret
        exact ⟨_, rfl, HR.out.1, HR.out.2⟩
    · have hle : (128 : Int) ≤ (m : Int) := by omega
      obtain ⟨f, rfl⟩ : ∃ f', f = f' + 1 := by
        cases f with
        | zero => simp at hf; omega
        | succ f => exact ⟨f, rfl⟩
      have HD : Hid (m / 128 < 128 ^ (f + 1)) := by
        show _ < _
        rw [Nat.div_lt_iff_lt_mul (by omega)]
        rw [Nat.pow_succ] at hf
        exact hf
      have HT : Hid (((UInt8.ofNat (m % 128 + 128)).toNat : Int) = 128 + (m : Int) % 128) := by show _ = _; rw [u8_toNat _ (by omega)]; omega
      clear hf
      go_wp2_with (at_builtin; refine wpList_append_own _ rfl _ _ 26 rfl w.heap.size 5 i0 (.int .u8 0) 1 1 Tryd.underlying26 hi hz0 hz1 hz2 rfl (by decide) _ _ _ rfl (hown.alloc _) ⟨wr.heap.size, 0, none⟩ 1 1 [.int .u8 (128 + (m : Int) % 128)] rfl rfl ?d1 ?d2 ?d3 ?d4 ?d5 ?_)
      case d1 => first | exact cell_one_new _ _ _ | skip
      case d2 => first | (intro u hu; simp at hu; subst hu; rfl) | rfl
      case d3 => unfold maxLen; omega
      case d4 => omega
      case d5 => first | omega | (simp; omega)
      · intro v' w1 hown' hgrow _
        rw [← HT.out] at hown'
        have R := own_snoc (l := p) (c := UInt8.ofNat (m % 128 + 128)) rfl hown hown' hgrow rfl hbel (Nat.le_refl _)
        have HR := hid0 R
        clear hown' hgrow hown hbel R
        go_wp2
        go_roundw
        case rel => exact ⟨m / 128, f, _, by go_num, by omega, HD.out, by simp; omega, by rw [← HF.out, form_big f m hbig]; simp, HR.out.1, HR.out.2⟩
        case measure => simp [intOf]; omega
end Go.Proofs.YtnclpcnpaodjjaaDoor
