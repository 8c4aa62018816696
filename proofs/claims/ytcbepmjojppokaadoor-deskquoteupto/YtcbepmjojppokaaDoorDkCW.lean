/-
  The walks of the small tests of bytes: hex of both, isPlain, isBare (stage 25).
-/
import Derived.Test.YtcbepmjojppokaaDoorDkBW
import Derived.Test.YtcbepmjojppokaaDoorShelfD
import Derived.Shelf.Small.Strs
namespace Go.Proofs.YtcbepmjojppokaaDoor
open Go.RowKit Go.Shelf
theorem byteI (c : UInt8) : (0 : Int) ≤ (c.toNat : Int) ∧ (c.toNat : Int) < 256 := ⟨by omega, by have := c.toNat_lt; omega⟩
def hxZ (x : Int) : Int := if 48 ≤ x ∧ x ≤ 57 then x - 48 else if 97 ≤ x ∧ x ≤ 102 then x - 97 + 10 else if 65 ≤ x ∧ x ≤ 70 then x - 65 + 10 else -1
theorem hxZ_eq (c : UInt8) : hxD c = hxZ (c.toNat : Int) := by
  unfold hxD hxZ
  (repeat' split) <;> omega
set_option maxRecDepth 10000 in
theorem refHex_any (c : UInt8) (w : World) : Calls Tryd.prog 43 #[.int .u8 (c.toNat : Int)] w fun e w' => e = .returned (.int .i64 (hxD c)) ∧ w' = w := by
  obtain ⟨hge, hlt⟩ := byteI c
  rw [hxZ_eq]
  generalize (c.toNat : Int) = x at hlt hge
  by_cases a1 : 48 ≤ x <;> by_cases a2 : x ≤ 57 <;> by_cases a3 : 97 ≤ x <;> by_cases a4 : x ≤ 102 <;> by_cases a5 : 65 ≤ x <;> by_cases a6 : x ≤ 70 <;> first
    | (exfalso; omega)
    | (go_enter Tryd.func43, Tryd.ntmps43
       go_wp2
       go_ret
       refine ⟨?_, rfl⟩
       unfold hxZ
       (repeat' split) <;> first | rfl | (exfalso; omega))
def hxL : Dy := [48, 49, 50, 51, 52, 53, 54, 55, 56, 57, 97, 98, 99, 100, 101, 102]
theorem hx_idx : ∀ c : Fin 256, Lib.indexByte hxL (if 65 ≤ c.val ∧ c.val ≤ 70 then c.val + 32 else c.val).toUInt8 = hxD (UInt8.ofNat c.val) := by decide +kernel
theorem idx_hx (w : World) (x : Int) : Calls Tryd.prog 12 #[.string ⟨#[48, 49, 50, 51, 52, 53, 54, 55, 56, 57, 97, 98, 99, 100, 101, 102]⟩, .int .u8 x] w fun e w' => e = .returned (.int .i64 (Lib.indexByte hxL x.toNat.toUInt8)) ∧ w' = w :=
  Any.strings_IndexByte Tryd.lays137 _ x w
set_option maxRecDepth 10000 in
theorem hexValue_any (c : UInt8) (w : World) : Calls Tryd.prog 46 #[.int .u8 (c.toNat : Int)] w fun e w' => e = .returned (.int .i64 (hxD c)) ∧ w' = w := by
  obtain ⟨hge, hlt⟩ := byteI c
  have h0 := hx_idx ⟨c.toNat, c.toNat_lt⟩
  have e1 : UInt8.ofNat c.toNat = c := by simp
  rw [e1] at h0
  have h0 : Lib.indexByte hxL (if 65 ≤ c.toNat ∧ c.toNat ≤ 70 then c.toNat + 32 else c.toNat).toUInt8 = hxD c := h0
  obtain ⟨n, hn⟩ : ∃ n, n = c.toNat := ⟨_, rfl⟩
  rw [← hn] at h0 hge hlt ⊢
  clear e1 hn
  by_cases hc : 65 ≤ n ∧ n ≤ 70
  · rw [if_pos hc] at h0
    have H := hid0 (idx_hx w ((n : Int) + 32))
    rw [show ((n : Int) + 32).toNat = n + 32 by omega, h0] at H
    have a1 : (n : Int) ≥ 65 := by omega
    have a2 : (n : Int) ≤ 70 := by omega
    clear h0 hc
    go_enter Tryd.func46, Tryd.ntmps46
    go_wp2_with (go_at_call 12; refine H.out.mono ?_; rintro e w1 ⟨rfl, rfl⟩)
    go_ret
    exact ⟨rfl, rfl⟩
  · rw [if_neg hc] at h0
    have H := hid0 (idx_hx w (n : Int))
    rw [show ((n : Int)).toNat = n by omega, h0] at H
    by_cases a1 : (n : Int) ≥ 65
    · have a2 : ¬ (n : Int) ≤ 70 := by omega
      clear h0 hc
      go_enter Tryd.func46, Tryd.ntmps46
      go_wp2_with (go_at_call 12; refine H.out.mono ?_; rintro e w1 ⟨rfl, rfl⟩)
      go_ret
      exact ⟨rfl, rfl⟩
    · clear h0 hc
      go_enter Tryd.func46, Tryd.ntmps46
      go_wp2_with (go_at_call 12; refine H.out.mono ?_; rintro e w1 ⟨rfl, rfl⟩)
      go_ret
      exact ⟨rfl, rfl⟩
/-- Does a byte stand for itself between quotes? -/
def selfB (c : UInt8) : Bool := plB c && (!(c == 34) && !(c == 92))
def selfZ (x : Int) : Bool := (decide (32 ≤ x) && decide (x ≤ 126)) && (!(x == 34) && !(x == 92))
theorem self_eq (c : UInt8) : selfB c = selfZ (c.toNat : Int) := by
  unfold selfB selfZ plB
  rw [show (34 : UInt8) = UInt8.ofNat 34 from rfl, show (92 : UInt8) = UInt8.ofNat 92 from rfl, u8_eq c 34 (by omega), u8_eq c 92 (by omega)]
  congr 1
  congr 1 <;> exact decide_eq_decide.2 (by omega)
set_option maxRecDepth 10000 in
theorem isPlain_any (c : UInt8) (w : World) : Calls Tryd.prog 27 #[.int .u8 (c.toNat : Int)] w fun e w' => e = .returned (.bool (selfB c)) ∧ w' = w := by
  rw [self_eq]
  generalize (c.toNat : Int) = x
  by_cases a1 : 32 ≤ x <;> by_cases a2 : x ≤ 126 <;> by_cases a3 : x = 34 <;> by_cases a4 : x = 92 <;> first
    | (exfalso; omega)
    | (go_enter Tryd.func27, Tryd.ntmps27
       go_wp2
       go_ret
       exact ⟨by simp [selfZ, bne, a1, a2, a3, a4], rfl⟩)
def bareZ (x : Int) : Bool := (decide (33 ≤ x) && decide (x ≤ 126)) && !(x == 34)
theorem bare_eq (c : UInt8) : bareB c = bareZ (c.toNat : Int) := by
  unfold bareB bareZ
  rw [show (34 : UInt8) = UInt8.ofNat 34 from rfl, u8_eq c 34 (by omega)]
  congr 1
  congr 1 <;> exact decide_eq_decide.2 (by omega)
set_option maxRecDepth 10000 in
set_option maxHeartbeats 800000 in
theorem isBare_any (l : Dy) (w : World) (hl : l.length ≤ 140737488355328) : Calls Tryd.prog 11 #[.string (rd l)] w fun e w' => e = .returned (.bool (l.all bareB && !l.isEmpty)) ∧ w' = w := by
  obtain ⟨s, hs⟩ : ∃ s, s = rd l := ⟨_, rfl⟩
  have hS : s.size = l.length := by rw [hs, rd_size]
  have HG : Hid (∀ k (h : k < s.size), ∃ h2 : k < l.length, s[k] = l[k]) := hid0 (by subst hs; exact fun k h => ⟨by rw [← rd_size]; exact h, rfl⟩)
  have HE : Hid (s.toList.isEmpty = l.isEmpty) := hid0 (by subst hs; rw [ByteArray.toList_eq])
  rw [← hs]
  obtain ⟨V, hV⟩ : ∃ V, V = (l.all bareB && !l.isEmpty) := ⟨_, rfl⟩
  rw [← hV]
  have HV := hid0 hV
  have HS := hid0 hS
  have hls : s.size ≤ 140737488355328 := by omega
  clear hs hV hS hl
  go_enter Tryd.func11, Tryd.ntmps11
  go_wp2
  go_loopw [3, 4, 7] (fun _ _ h wr => ∃ k : Nat, k ≤ s.size ∧ h = .int .i64 (k : Int) ∧ Hid ((l.take k).all bareB = true) ∧ wr = w) (fun _ _ h _ => s.size - (intOf h).toNat)
  case atStart => exact ⟨0, by omega, rfl, hid0 rfl, rfl⟩
  case round =>
    obtain ⟨k, hk, rfl, HA, rfl⟩ := hrel
    have hkI0 : (0 : Int) ≤ (k : Int) := by omega
    by_cases hlt : k < s.size
    · have hkI : (k : Int) < (s.size : Int) := by omega
      obtain ⟨hk2, hg⟩ := HG.out k hlt
      have HB := hid0 (bare_eq l[k])
      have HT : Hid ((l.take (k + 1)).all bareB = bareB l[k]) := hid0 (by rw [List.take_add_one, List.all_append, HA.out, List.getElem?_eq_getElem hk2]; simp)
      have HF : Hid (bareB l[k] = false → l.all bareB = false) := hid0 (fun h => by
        rw [List.all_eq_false]
        exact ⟨l[k], List.getElem_mem hk2, by rw [h]; simp⟩)
      generalize l[k] = c at *
      obtain ⟨x, hx⟩ : ∃ x, x = (c.toNat : Int) := ⟨_, rfl⟩
      have hgx : (s[k].toNat : Int) = x := by rw [hg, hx]
      rw [← hx] at HB
      clear hx hg
      by_cases a1 : x < 33
      · have hf := HF.out (by rw [HB.out]; unfold bareZ; rw [decide_eq_false (by omega)]; rfl)
        have HVf : Hid (V = false) := hid0 (by rw [HV.out, hf]; rfl)
        clear HF HB HT HA hf
        go_wp2
        go_ret
        exact ⟨by rw [HVf.out]; rfl, rfl⟩
      · by_cases a2 : x > 126
        · have hf := HF.out (by rw [HB.out]; unfold bareZ; rw [decide_eq_false (show ¬ x ≤ 126 by omega)]; simp)
          have HVf : Hid (V = false) := hid0 (by rw [HV.out, hf]; rfl)
          clear HF HB HT HA hf
          go_wp2
          go_ret
          exact ⟨by rw [HVf.out]; rfl, rfl⟩
        · by_cases a3 : x = 34
          · have hf := HF.out (by rw [HB.out, a3]; rfl)
            have HVf : Hid (V = false) := hid0 (by rw [HV.out, hf]; rfl)
            clear HF HB HT HA hf
            subst a3
            go_wp2
            go_ret
            exact ⟨by rw [HVf.out]; rfl, rfl⟩
          · have hT : Hid ((l.take (k + 1)).all bareB = true) := hid0 (by rw [HT.out, HB.out]; unfold bareZ; rw [decide_eq_true (show 33 ≤ x by omega), decide_eq_true (show x ≤ 126 by omega)]; simpa using a3)
            clear HF HB HT HA
            go_wp2
            go_roundw
            case rel => exact ⟨k + 1, hlt, by go_num, hT, trivial⟩
            case measure => simp [intOf]; omega
    · have hkI : ¬ (k : Int) < (s.size : Int) := by omega
      have hall : l.all bareB = true := by have := HA.out; have h2 := HS.out; rwa [List.take_of_length_le (by omega)] at this
      have HVt : Hid (V = !l.isEmpty) := hid0 (by rw [HV.out, hall]; rfl)
      clear HA HG hall
      go_wp2
      go_ret
      exact ⟨by rw [HVt.out, ← HE.out]; rfl, rfl⟩
end Go.Proofs.YtcbepmjojppokaaDoor
