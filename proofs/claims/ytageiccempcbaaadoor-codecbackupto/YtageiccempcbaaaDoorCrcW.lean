/-
  The walks of codec.CrcMore, codec.Crc, caesuraref1.CrcMore, caesuraref1.Crc.
-/
import Derived.Test.YtageiccempcbaaaDoorProg
import Derived.Test.YtageiccempcbaaaDoorCrc
import Derived.WalkKit
import Derived.WalkSpells
import Derived.WalkLawsBesides
namespace Go.Proofs.YtageiccempcbaaaDoor
open Go.RowKit
/-- A slice value that reads as these bytes. -/
def BytesAt (w : World) (v : Value) (l : List UInt8) : Prop :=
  (v = .slice none 0 0 ∧ l = []) ∨ ∃ b off cap, v = .slice (some ⟨b, off, none⟩) l.length cap ∧ ∀ k (h : k < l.length), w.cell? ⟨b, off + k, none⟩ = some (.int .u8 (l[k].toNat : Int))
/-- The table in memory. -/
def TabAt (w : World) : Prop := ∀ a : BitVec 32, w.cell? ⟨0, (Crc.u (a &&& 15#32)).toNat, none⟩ = some (.int .u32 (Crc.u (Crc.tab (a &&& 15#32))))

theorem take_snoc {α : Type} (l : List α) (k : Nat) (h : k < l.length) : l.take (k + 1) = l.take k ++ [l[k]] := by
  rw [List.take_succ_eq_append_getElem h]
set_option maxRecDepth 10000 in
set_option maxHeartbeats 400000 in
theorem crcMore_some (s : BitVec 32) (l : List UInt8) (b off cap : Nat) (w : World) (hl : l.length ≤ 140737488355328) (ht : TabAt w)
    (hc : ∀ k (h : k < l.length), w.cell? ⟨b, off + k, none⟩ = some (.int .u8 (l[k].toNat : Int))) :
    Calls Tryd.prog 11 #[.int .u32 (Crc.u s), .slice (some ⟨b, off, none⟩) l.length cap] w fun e w' => e = .returned (.int .u32 (Crc.u (Crc.more s l))) ∧ w' = w := by
  go_enter Tryd.func11, Tryd.ntmps11
  go_wp2
  go_loop [5, 12] (fun r i => ∃ k : Nat, k ≤ l.length ∧ i = .int .i64 k ∧ r = .int .u32 (Crc.u (Crc.reg (~~~ s) (l.take k)))) (fun _ i => l.length - (intOf i).toNat)
  case atStart => exact ⟨0, Nat.zero_le _, rfl, congrArg _ (Crc.u_not s)⟩
  case round =>
    obtain ⟨k, hk, rfl, rfl⟩ := hrel
    have hx := Crc.u_xor
    have ha := Crc.u_and15
    have hs := Crc.u_shr4
    have h0 := Crc.u_nonneg
    have h15 := Crc.u_and15_lt
    unfold TabAt at ht
    by_cases hlt : k < l.length
    · obtain ⟨c, hcd⟩ : ∃ c, c = l[k] := ⟨_, rfl⟩
      have hck := hc k hlt
      rw [← hcd, ← Crc.u_zx] at hck
      have HC : Hid (Crc.reg (~~~ s) (l.take (k + 1)) = Crc.nib (Crc.nib (Crc.reg (~~~ s) (l.take k) ^^^ Crc.zx c))) := by
        show _ = _
        rw [take_snoc l k hlt, Crc.reg_snoc, Crc.stepB_nib, hcd]
      clear hcd hc
      have hb0 := Crc.u_nonneg (Crc.zx c)
      have hb1 : Crc.u (Crc.zx c) ≤ 255 := by rw [Crc.u_zx]; have := c.toNat_lt; omega
      generalize Crc.reg (~~~ s) (l.take k) = r at HC
      go_wp2
      go_round
      case rel => exact ⟨k + 1, by omega, by go_num, by rw [HC.out]; rfl⟩
      case measure => simp [intOf]; omega
    · go_wp2
      go_ret
      exact ⟨by rw [Crc.more, List.take_of_length_le (by omega)]; exact congrArg _ (congrArg _ (Crc.u_not _)), rfl⟩
set_option maxRecDepth 10000 in
set_option maxHeartbeats 400000 in
theorem crcMore_none (s : BitVec 32) (w : World) :
    Calls Tryd.prog 11 #[.int .u32 (Crc.u s), .slice none 0 0] w fun e w' => e = .returned (.int .u32 (Crc.u (Crc.more s []))) ∧ w' = w := by
  go_enter Tryd.func11, Tryd.ntmps11
  go_wp2
  refine wp_loop_rounds 1 ?_
  rw [rounds_succ]
  go_wp2
  go_ret
  exact ⟨by rw [Crc.more]; exact congrArg _ (congrArg _ ((congrArg _ (Crc.u_not s)).trans (Crc.u_not _))), rfl⟩
theorem crcMore_any (s : BitVec 32) (l : List UInt8) (v : Value) (w : World) (hl : l.length ≤ 140737488355328) (ht : TabAt w) (hv : BytesAt w v l) :
    Calls Tryd.prog 11 #[.int .u32 (Crc.u s), v] w fun e w' => e = .returned (.int .u32 (Crc.u (Crc.more s l))) ∧ w' = w := by
  rcases hv with ⟨rfl, rfl⟩ | ⟨b, off, cap, rfl, hc⟩
  · exact crcMore_none s w
  · exact crcMore_some s l b off cap w hl ht hc
set_option maxRecDepth 10000 in
theorem crc_any (l : List UInt8) (v : Value) (w : World) (hl : l.length ≤ 140737488355328) (ht : TabAt w) (hv : BytesAt w v l) :
    Calls Tryd.prog 10 #[v] w fun e w' => e = .returned (.int .u32 (Crc.u (Crc.more 0#32 l))) ∧ w' = w := by
  have hm := crcMore_any 0#32 l v w hl ht hv
  have e0 : Crc.u 0#32 = 0 := rfl
  rw [e0] at hm
  clear ht hv
  go_enter Tryd.func10, Tryd.ntmps10
  go_wp2_with (go_at_call 11; refine hm.mono ?_; rintro e w' ⟨rfl, rfl⟩)
  go_ret
  exact ⟨rfl, rfl⟩
set_option maxRecDepth 10000 in
set_option maxHeartbeats 200000 in
theorem refMore_some (s : BitVec 32) (l : List UInt8) (b off cap : Nat) (w : World) (hl : l.length ≤ 140737488355328)
    (hc : ∀ k (h : k < l.length), w.cell? ⟨b, off + k, none⟩ = some (.int .u8 (l[k].toNat : Int))) :
    Calls Tryd.prog 15 #[.int .u32 (Crc.u s), .slice (some ⟨b, off, none⟩) l.length cap] w fun e w' => e = .returned (.int .u32 (Crc.u (Crc.more s l))) ∧ w' = w := by
  go_enter Tryd.func15, Tryd.ntmps15
  go_wp2
  go_loop [5, 6] (fun r i => ∃ k : Nat, k ≤ l.length ∧ i = .int .i64 k ∧ r = .int .u32 (Crc.u (Crc.reg (~~~ s) (l.take k)))) (fun _ i => l.length - (intOf i).toNat)
  case atStart => exact ⟨0, Nat.zero_le _, rfl, congrArg _ (Crc.u_not' s)⟩
  case round =>
    obtain ⟨k, hk, rfl, rfl⟩ := hrel
    have hx := Crc.u_xor
    by_cases hlt : k < l.length
    · obtain ⟨c, hcd⟩ : ∃ c, c = l[k] := ⟨_, rfl⟩
      have hck := hc k hlt
      rw [← hcd, ← Crc.u_zx] at hck
      have HC : Hid (Crc.reg (~~~ s) (l.take (k + 1)) = Crc.iter 8 (Crc.reg (~~~ s) (l.take k) ^^^ Crc.zx c)) := by
        show _ = _
        rw [take_snoc l k hlt, Crc.reg_snoc, hcd]; rfl
      clear hcd hc
      have hb0 := Crc.u_nonneg (Crc.zx c)
      have hb1 : Crc.u (Crc.zx c) ≤ 255 := by rw [Crc.u_zx]; have := c.toNat_lt; omega
      generalize Crc.reg (~~~ s) (l.take k) = r at HC
      go_wp2
      go_loop [5, 7] (fun t j => ∃ m : Nat, m ≤ 8 ∧ j = .int .i64 m ∧ t = .int .u32 (Crc.u (Crc.iter m (r ^^^ Crc.zx c)))) (fun _ j => 8 - (intOf j).toNat)
      case atStart => exact ⟨0, Nat.zero_le _, rfl, rfl⟩
      case round =>
        obtain ⟨m, hm, rfl, rfl⟩ := hrel
        clear hx hb0 hb1 hck
        by_cases hlm : m < 8
        · have hi := Crc.iter_succ m (r ^^^ Crc.zx c)
          generalize Crc.iter m (r ^^^ Crc.zx c) = y at hi
          by_cases h1 : (bits .and .u32 (Crc.u y) 1 == 1) = true
          · have HI : Hid (Crc.iter (m + 1) (r ^^^ Crc.zx c) = (y >>> 1) ^^^ Crc.poly) := by
              show _ = _
              rw [hi, Crc.bit1_one _ (by rw [← Crc.u_and1]; simpa using h1)]
            clear hi
            go_wp2
            go_round
            case rel => exact ⟨m + 1, by omega, by go_num, by rw [HI.out, ← Crc.u_poly, ← Crc.u_shr1]⟩
            case measure => simp [intOf]; omega
          · have HI : Hid (Crc.iter (m + 1) (r ^^^ Crc.zx c) = (y >>> 1)) := by
              show _ = _
              rw [hi, Crc.bit1_zero _ (by rw [← Crc.u_and1]; simpa using h1)]
            simp only [Bool.not_eq_true] at h1
            clear hi
            go_wp2
            go_round
            case rel => exact ⟨m + 1, by omega, by go_num, by rw [HI.out, ← Crc.u_shr1]⟩
            case measure => simp [intOf]; omega
        · have hm8 : m = 8 := by omega
          subst hm8
          go_wp2
          go_round
          case rel => exact ⟨k + 1, by omega, by go_num, by rw [HC.out]⟩
          case measure => simp [intOf]; omega
    · go_wp2
      go_ret
      exact ⟨by rw [Crc.more, List.take_of_length_le (by omega)]; exact congrArg _ (congrArg _ (Crc.u_not' _)), rfl⟩
set_option maxRecDepth 10000 in
set_option maxHeartbeats 400000 in
theorem refMore_none (s : BitVec 32) (w : World) :
    Calls Tryd.prog 15 #[.int .u32 (Crc.u s), .slice none 0 0] w fun e w' => e = .returned (.int .u32 (Crc.u (Crc.more s []))) ∧ w' = w := by
  go_enter Tryd.func15, Tryd.ntmps15
  go_wp2
  refine wp_loop_rounds 1 ?_
  rw [rounds_succ]
  go_wp2
  go_ret
  exact ⟨by rw [Crc.more]; exact congrArg _ (congrArg _ ((congrArg (fun x => bits .xor .u32 x 4294967295) (Crc.u_not' s)).trans (Crc.u_not' _))), rfl⟩
theorem refMore_any (s : BitVec 32) (l : List UInt8) (v : Value) (w : World) (hl : l.length ≤ 140737488355328) (hv : BytesAt w v l) :
    Calls Tryd.prog 15 #[.int .u32 (Crc.u s), v] w fun e w' => e = .returned (.int .u32 (Crc.u (Crc.more s l))) ∧ w' = w := by
  rcases hv with ⟨rfl, rfl⟩ | ⟨b, off, cap, rfl, hc⟩
  · exact refMore_none s w
  · exact refMore_some s l b off cap w hl hc
set_option maxRecDepth 10000 in
theorem refCrc_any (l : List UInt8) (v : Value) (w : World) (hl : l.length ≤ 140737488355328) (hv : BytesAt w v l) :
    Calls Tryd.prog 14 #[v] w fun e w' => e = .returned (.int .u32 (Crc.u (Crc.more 0#32 l))) ∧ w' = w := by
  have hm := refMore_any 0#32 l v w hl hv
  have e0 : Crc.u 0#32 = 0 := rfl
  rw [e0] at hm
  clear hv
  go_enter Tryd.func14, Tryd.ntmps14
  go_wp2_with (go_at_call 15; refine hm.mono ?_; rintro e w' ⟨rfl, rfl⟩)
  go_ret
  exact ⟨rfl, rfl⟩
end Go.Proofs.YtageiccempcbaaaDoor
