/-
  A point in hexadecimal digits, as the document writes it (stage 23).
-/
import Derived.Test.YtooeagpopncmgaaDoorTfAW
namespace Go.Proofs.YtooeagpopncmgaaDoor
open Go.RowKit Go.Shelf
/-- A digit's byte. -/
def hxd (d : Nat) : UInt8 := ([48, 49, 50, 51, 52, 53, 54, 55, 56, 57, 65, 66, 67, 68, 69, 70] : List UInt8).getD d 0
/-- How many digits. -/
def hxk (n : Nat) : Nat := if n < 65536 then 4 else if n < 1048576 then 5 else 6
/-- The last k digits. -/
def hxs (n : Nat) : Nat → List UInt8
  | 0 => []
  | k + 1 => hxd (n / 16 ^ k % 16) :: hxs n k
def hx (n : Nat) : List UInt8 := hxs n (hxk n)
theorem hxs_len (n : Nat) : ∀ k, (hxs n k).length = k
  | 0 => rfl
  | k + 1 => by rw [hxs, List.length_cons, hxs_len n k]
theorem hx_len (n : Nat) : (hx n).length = hxk n := hxs_len n _
theorem ext_hex : ∀ d : Fin 16, (⟨#[48, 49, 50, 51, 52, 53, 54, 55, 56, 57, 65, 66, 67, 68, 69, 70]⟩ : ByteArray).extract d.val (d.val + 1) = ⟨#[hxd d.val]⟩ := by decide +kernel
theorem app_arrT (a b : List UInt8) : (⟨a.toArray⟩ ++ ⟨b.toArray⟩ : ByteArray) = ⟨(a ++ b).toArray⟩ := by
  apply ByteArray.ext
  simp
theorem size_arrT (l : List UInt8) : (⟨l.toArray⟩ : ByteArray).size = l.length := List.size_toArray
/-- A text's size. -/
def szT : Value → Nat | .string b => b.size | _ => 0
theorem ext_hexS (d : Nat) (h : d < 16) : (⟨#[48, 49, 50, 51, 52, 53, 54, 55, 56, 57, 65, 66, 67, 68, 69, 70]⟩ : ByteArray).extract d (d + 1) = ⟨[hxd d].toArray⟩ := ext_hex ⟨d, h⟩
theorem hx_more {n k m : Nat} (hn : n ≤ 1114111) (hk : k ≤ hxk n) (hm : m = n / 16 ^ k) (hc : 0 < m ∨ k < 4) : k < hxk n := by
  unfold hxk at *
  rcases hc with hc | hc
  · split at hk
    · rcases Nat.lt_or_ge k 4 with h | h
      · split <;> omega
      · have : k = 4 := by omega
        subst this
        simp at hm
        omega
    · split at hk
      · rcases Nat.lt_or_ge k 5 with h | h
        · split
          · omega
          · omega
        · have : k = 5 := by omega
          subst this
          simp at hm
          omega
      · rcases Nat.lt_or_ge k 6 with h | h
        · (try split) <;> omega
        · have : k = 6 := by omega
          subst this
          simp at hm
          omega
  · split
    · omega
    · split <;> omega
theorem hx_done {n k m : Nat} (hk : k ≤ hxk n) (hm : m = n / 16 ^ k) (h0 : ¬ 0 < m) (h4 : ¬ k < 4) : k = hxk n := by
  have h6 : k ≤ 6 := by unfold hxk at hk; (repeat' split at hk) <;> omega
  have : k = 4 ∨ k = 5 ∨ k = 6 := by omega
  unfold hxk at *
  rcases this with rfl | rfl | rfl
  · simp at hm
    rw [if_pos (by omega)]
  · simp at hm
    split at hk
    · omega
    · rw [if_neg (by assumption), if_pos (by omega)]
  · split at hk
    · omega
    · split at hk
      · omega
      · rw [if_neg (by assumption), if_neg (by assumption)]
set_option maxRecDepth 10000 in
set_option maxHeartbeats 1600000 in
theorem refHex_any (n : Nat) (w : World) (hn : n ≤ 1114111) :
    Calls Tryd.prog 25 #[.int .i64 (n : Int)] w fun e w' => e = .returned (.string ⟨(hx n).toArray⟩) ∧ ∃ q, w' = w.drewN q := by
  go_enter Tryd.func25, Tryd.ntmps25
  go_wp2
  go_loopw [0, 3] (fun u s wr => ∃ (k m : Nat), k ≤ hxk n ∧ m = n / 16 ^ k ∧ u = .int .i64 (m : Int) ∧ Hid (s = .string ⟨(hxs n k).toArray⟩) ∧ ∃ q, wr = w.drewN q) (fun _ s _ => 6 - szT s)
  case atStart => exact ⟨0, n, Nat.zero_le _, by simp, rfl, hid0 rfl, 0, rfl⟩
  case round =>
    obtain ⟨k, m, hk, hm, rfl, HS, q, rfl⟩ := hrel
    by_cases hc : 0 < m ∨ k < 4
    · have hkk := hx_more hn hk hm hc
      obtain ⟨d, hd⟩ : ∃ d, d = m % 16 := ⟨_, rfl⟩
      have hd16 : d < 16 := by omega
      have hr : (m : Int).tmod 16 = (d : Int) := by rw [hd]; rfl
      have hq : (m : Int).tdiv 16 = ((m / 16 : Nat) : Int) := rfl
      have HE := hid0 (ext_hexS d hd16)
      have HS2 : Hid (hxs n (k + 1) = hxd d :: hxs n k) := hid0 (by rw [hxs, hd, hm])
      have HM2 : Hid (m / 16 = n / 16 ^ (k + 1)) := hid0 (by rw [hm, Nat.div_div_eq_div_mul, Nat.pow_succ])
      have hsl : (hxs n k).length = k := hxs_len n k
      have hmb : m ≤ 1114111 := by rw [hm]; exact Nat.le_trans (Nat.div_le_self _ _) hn
      obtain ⟨ss, hss⟩ : ∃ ss, ss = hxs n k := ⟨_, rfl⟩
      rw [← hss] at HS hsl
      have HS3 : Hid (hxs n (k + 1) = hxd d :: ss) := hid0 (by rw [hss]; exact HS2.out)
      have hsz : (⟨ss.toArray⟩ : ByteArray).size = k := by rw [size_arrT, hsl]
      have HSt := HS.out
      subst HSt
      have hk6 : k ≤ 6 := by unfold hxk at hk; (repeat' split at hk) <;> omega
      have hx6 : hxk n ≤ 6 := by unfold hxk; (repeat' split) <;> omega
      have hwd : IntKind.i64.wrap ((d : Int) + 1) = (d : Int) + 1 := by rw [IntKind.wrap_i64]; omega
      have hsl2 : ss.length = k := hsl
      clear HS2 hm hd hss hsl HS
      by_cases hm0 : 0 < m
      · have e1 : (m : Int) > 0 := by omega
        go_wp2
        go_roundw
        case rel => exact ⟨k + 1, m / 16, by omega, HM2.out, by first | rfl | omega, hid0 (by rw [HE.out, app_arrT, HS3.out]; rfl), _, rfl⟩
        case measure =>
          show 6 - szT (Value.string _) < 6 - szT (Value.string _)
          simp only [szT]
          rw [HE.out, app_arrT, hsz, size_arrT, List.length_append, hsl2]
          simp only [List.length_singleton]
          omega
      · have hk4 : k < 4 := by omega
        have e1 : ¬ (m : Int) > 0 := by omega
        have e2 : ((k : Nat) : Int) < 4 := by omega
        go_wp2
        go_roundw
        case rel => exact ⟨k + 1, m / 16, by omega, HM2.out, by first | rfl | omega, hid0 (by rw [HE.out, app_arrT, HS3.out]; rfl), _, rfl⟩
        case measure =>
          show 6 - szT (Value.string _) < 6 - szT (Value.string _)
          simp only [szT]
          rw [HE.out, app_arrT, hsz, size_arrT, List.length_append, hsl2]
          simp only [List.length_singleton]
          omega
    · have hm0 : ¬ 0 < m := fun h => hc (.inl h)
      have hk4 : ¬ k < 4 := fun h => hc (.inr h)
      have hke := hx_done hk hm hm0 hk4
      have e1 : ¬ (m : Int) > 0 := by omega
      have e2 : ¬ ((k : Nat) : Int) < 4 := by omega
      have hsl : (hxs n k).length = k := hxs_len n k
      obtain ⟨ss, hss⟩ : ∃ ss, ss = hxs n k := ⟨_, rfl⟩
      have HF : Hid (hx n = ss) := hid0 (by unfold hx; rw [← hke, hss])
      rw [← hss] at HS hsl
      have hsz : (⟨ss.toArray⟩ : ByteArray).size = k := by rw [size_arrT, hsl]
      have HSt := HS.out
      subst HSt
      clear hss hsl hm HS
      go_wp2
      go_ret
      exact ⟨by rw [HF.out]; rfl, _, rfl⟩
end Go.Proofs.YtooeagpopncmgaaDoor
