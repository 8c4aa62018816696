/-
  The walks of utf8.ValidRune, utf8.AppendRune, units.isScalar, units.Encode.
-/
import Derived.Test.YtlmbbohhdgeedaaDoorRGoodW
import Derived.Maps.AppendAt
namespace Go.Proofs.YtlmbbohhdgeedaaDoor
open Go.RowKit
def cellsOf (l : List UInt8) : List Value := l.map fun c => .int .u8 (c.toNat : Int)
theorem cellsOf_length (l : List UInt8) : (cellsOf l).length = l.length := by simp [cellsOf]
theorem cellsOf_append (l m : List UInt8) : cellsOf (l ++ m) = cellsOf l ++ cellsOf m := by simp [cellsOf]
/-- A slice of bytes of the call's own. -/
def OwnB (w : World) (base : Nat) (v : Value) (l : List UInt8) : Prop := w.ownsRow base 5 1 v l.length (cellsOf l)
theorem infoU8 : (Tryd.prog.info? 5).map (fun i => (i.zero, i.size, i.bytes)) = some (some (.int .u8 0), 1, 1) := by kernel_rfl
theorem hidE {p : Prop} (h : p) : Hid p := h
set_option maxRecDepth 10000 in
theorem validRune_any (p : Int) (w : World) :
    Calls Tryd.prog 48 #[.int .i32 p] w fun e w' => e = .returned (.bool (scalarP p)) ∧ w' = w := by
  unfold scalarP
  by_cases ha : 0 ≤ p <;> by_cases hb : p ≤ 1114111 <;> by_cases hc : p < 55296 <;> by_cases hd : 57343 < p <;>
    first
    | (exfalso; omega)
    | (go_enter Tryd.func48, Tryd.ntmps48
       go_wp2
       all_goals
         go_ret
         exact ⟨by simp [ha, hb, hc, hd], rfl⟩)
set_option maxRecDepth 10000 in
theorem isScalar_any (p : Int) (w : World) :
    Calls Tryd.prog 32 #[.int .i64 p] w fun e w' => e = .returned (.bool (scalarP p)) ∧ w' = w := by
  by_cases ha : 0 ≤ p
  · by_cases hb : p ≤ 1114111
    · have HV := hidE (validRune_any p)
      go_enter Tryd.func32, Tryd.ntmps32
      go_wp2_with (go_at_call 48; refine (HV.out _).mono ?_; rintro e w' ⟨rfl, rfl⟩)
      go_ret
      exact ⟨rfl, rfl⟩
    · have hn : scalarP p = false := by simp [scalarP, hb]
      rw [hn]
      go_enter Tryd.func32, Tryd.ntmps32
      go_wp2
      go_ret
      exact ⟨rfl, rfl⟩
  · have hn : scalarP p = false := by simp [scalarP, ha]
    rw [hn]
    go_enter Tryd.func32, Tryd.ntmps32
    go_wp2
    go_ret
    exact ⟨rfl, rfl⟩
theorem cells_new (w : World) (cs : List Value) (t : TypeId) : ∀ j u, cs[j]? = some u → (w.alloc (.cells cs.toArray t)).cell? ((⟨w.heap.size, 0, none⟩ : Addr).add j) = some u := by
  intro j u h
  rw [Addr.add_lit, cell_of_row _ w.heap.size _ _ _ _ (heap_alloc_new w _), Nat.zero_add]
  simpa using h
set_option maxRecDepth 10000 in
set_option maxHeartbeats 800000 in
theorem nonAscii_any (n : Nat) (hn : scalarP (n : Int) = true) (h1 : ¬ n < 128) (base : Nat) (v : Value) (l : List UInt8) (w : World) (hown : OwnB w base v l) (hb : base ≤ w.heap.size) (hl : l.length ≤ 100000000) :
    Calls Tryd.prog 49 #[v, .int .i32 (n : Int)] w fun e w' => ∃ v', e = .returned v' ∧ OwnB w' base v' (l ++ encL n) ∧ Below base w w' := by
  obtain ⟨i0, hi, hz0, hz1, hz2⟩ := info_parts infoU8
  have hs := hn
  simp only [scalarP, Bool.and_eq_true, Bool.or_eq_true, decide_eq_true_eq] at hs
  have HO := hidE hown
  clear hown hn
  by_cases h2 : n < 2048
  · have i1 : ¬ (n : Int) < 128 := by omega
    have i2 : (n : Int) ≤ 2047 := by omega
    have i0' : (0 : Int) ≤ (n : Int) := by omega
    have he : cellsOf (encL n) = [.int .u8 (192 + (n : Int) / 64), .int .u8 (128 + (n : Int) % 64)] := by rw [encL, if_neg h1, if_pos h2]; simp only [cellsOf, List.map, u8n (192 + n / 64) (by omega), u8n (128 + n % 64) (by omega)]; rfl
    have hel : (encL n).length = 2 := by rw [encL, if_neg h1, if_pos h2]; rfl
    have HE := hidE he
    have HL := hidE hel
    clear he hel
    generalize (n : Int) = x at *
    go_enter Tryd.func49, Tryd.ntmps49
    go_wp2_with (at_builtin; refine wpList_append_own _ rfl _ _ 68 rfl base 5 i0 (.int .u8 0) 1 1 Tryd.underlying68 hi hz0 hz1 hz2 rfl (by decide) v _ _ rfl (HO.out.alloc _) ⟨w.heap.size, 0, none⟩ 2 2 [.int .u8 (192 + x / 64), .int .u8 (128 + x % 64)] rfl rfl (cells_new _ _ _) (by simp [Value.oneCell']) (by unfold maxLen; omega) (by omega) (by simp; omega) ?_; intro v' w1 hown' hgrow _)
    go_ret
    refine ⟨v', rfl, ?_, ((Below.refl base w).alloc hb _).grown hgrow (by simp; omega) (fun k hk => (World.ownsRow.lt HO.out k hk).1)⟩
    unfold OwnB
    rw [List.length_append, HL.out, cellsOf_append, HE.out]
    exact hown'
  · by_cases h3 : n < 65536
    · have i1 : ¬ (n : Int) < 128 := by omega
      have i2 : ¬ (n : Int) ≤ 2047 := by omega
      have i3 : (n : Int) ≤ 65535 := by omega
      have i0' : (0 : Int) ≤ (n : Int) := by omega
      have he : cellsOf (encL n) = [.int .u8 (224 + (n : Int) / 4096), .int .u8 (128 + (n : Int) / 64 % 64), .int .u8 (128 + (n : Int) % 64)] := by rw [encL, if_neg h1, if_neg h2, if_pos h3]; simp only [cellsOf, List.map, u8n (224 + n / 4096) (by omega), u8n (128 + n / 64 % 64) (by omega), u8n (128 + n % 64) (by omega)]; rfl
      have hel : (encL n).length = 3 := by rw [encL, if_neg h1, if_neg h2, if_pos h3]; rfl
      have HE := hidE he
      have HL := hidE hel
      clear he hel
      generalize (n : Int) = x at *
      go_enter Tryd.func49, Tryd.ntmps49
      go_wp2_with (at_builtin; refine wpList_append_own _ rfl _ _ 68 rfl base 5 i0 (.int .u8 0) 1 1 Tryd.underlying68 hi hz0 hz1 hz2 rfl (by decide) v _ _ rfl (HO.out.alloc _) ⟨w.heap.size, 0, none⟩ 3 3 [.int .u8 (224 + x / 4096), .int .u8 (128 + x / 64 % 64), .int .u8 (128 + x % 64)] rfl rfl (cells_new _ _ _) (by simp [Value.oneCell']) (by unfold maxLen; omega) (by omega) (by simp; omega) ?_; intro v' w1 hown' hgrow _)
      all_goals
        go_ret
        refine ⟨v', rfl, ?_, ((Below.refl base w).alloc hb _).grown hgrow (by simp; omega) (fun k hk => (World.ownsRow.lt HO.out k hk).1)⟩
        unfold OwnB
        rw [List.length_append, HL.out, cellsOf_append, HE.out]
        exact hown'
    · have i1 : ¬ (n : Int) < 128 := by omega
      have i2 : ¬ (n : Int) ≤ 2047 := by omega
      have i3 : ¬ (n : Int) ≤ 65535 := by omega
      have i4 : (n : Int) ≤ 1114111 := by omega
      have i0' : (0 : Int) ≤ (n : Int) := by omega
      have he : cellsOf (encL n) = [.int .u8 (240 + (n : Int) / 262144), .int .u8 (128 + (n : Int) / 4096 % 64), .int .u8 (128 + (n : Int) / 64 % 64), .int .u8 (128 + (n : Int) % 64)] := by rw [encL, if_neg h1, if_neg h2, if_neg h3]; simp only [cellsOf, List.map, u8n (240 + n / 262144) (by omega), u8n (128 + n / 4096 % 64) (by omega), u8n (128 + n / 64 % 64) (by omega), u8n (128 + n % 64) (by omega)]; rfl
      have hel : (encL n).length = 4 := by rw [encL, if_neg h1, if_neg h2, if_neg h3]; rfl
      have HE := hidE he
      have HL := hidE hel
      clear he hel
      generalize (n : Int) = x at *
      go_enter Tryd.func49, Tryd.ntmps49
      go_wp2_with (at_builtin; refine wpList_append_own _ rfl _ _ 68 rfl base 5 i0 (.int .u8 0) 1 1 Tryd.underlying68 hi hz0 hz1 hz2 rfl (by decide) v _ _ rfl (HO.out.alloc _) ⟨w.heap.size, 0, none⟩ 4 4 [.int .u8 (240 + x / 262144), .int .u8 (128 + x / 4096 % 64), .int .u8 (128 + x / 64 % 64), .int .u8 (128 + x % 64)] rfl rfl (cells_new _ _ _) (by simp [Value.oneCell']) (by unfold maxLen; omega) (by omega) (by simp; omega) ?_; intro v' w1 hown' hgrow _)
      go_ret
      refine ⟨v', rfl, ?_, ((Below.refl base w).alloc hb _).grown hgrow (by simp; omega) (fun k hk => (World.ownsRow.lt HO.out k hk).1)⟩
      unfold OwnB
      rw [List.length_append, HL.out, cellsOf_append, HE.out]
      exact hown'
set_option maxRecDepth 10000 in
set_option maxHeartbeats 800000 in
theorem appendRune_any (n : Nat) (hn : scalarP (n : Int) = true) (base : Nat) (v : Value) (l : List UInt8) (w : World) (hown : OwnB w base v l) (hb : base ≤ w.heap.size) (hl : l.length ≤ 100000000) :
    Calls Tryd.prog 33 #[v, .int .i32 (n : Int)] w fun e w' => ∃ v', e = .returned v' ∧ OwnB w' base v' (l ++ encL n) ∧ Below base w w' := by
  obtain ⟨i0, hi, hz0, hz1, hz2⟩ := info_parts infoU8
  have hs := hn
  have hs0 := hn
  simp only [scalarP, Bool.and_eq_true, Bool.or_eq_true, decide_eq_true_eq] at hs
  have HO := hidE hown
  clear hown hn
  by_cases h1 : n < 128
  · have i1 : (n : Int) < 128 := by omega
    have i2 : (n : Int) ≤ 127 := by omega
    have he : encL n = [UInt8.ofNat n] := by rw [encL, if_pos h1]
    have HE := hidE he
    clear he
    go_enter Tryd.func33, Tryd.ntmps33
    go_wp2_with (at_builtin; refine wpList_append_own _ rfl _ _ 68 rfl base 5 i0 (.int .u8 0) 1 1 Tryd.underlying68 hi hz0 hz1 hz2 rfl (by decide) v _ _ rfl (HO.out.alloc _) ⟨w.heap.size, 0, none⟩ 1 1 [.int .u8 (n : Int)] rfl rfl (cell_one_new _ _ _) (by simp [Value.oneCell']) (by unfold maxLen; omega) (by omega) (by simp; omega) ?_; intro v' w1 hown' hgrow _)
    go_ret
    refine ⟨v', rfl, ?_, ((Below.refl base w).alloc hb _).grown hgrow (by simp; omega) (fun k hk => (World.ownsRow.lt HO.out k hk).1)⟩
    unfold OwnB
    rw [HE.out, List.length_append, cellsOf_append]
    have e8 : cellsOf [UInt8.ofNat n] = [.int .u8 (n : Int)] := by simp only [cellsOf, List.map, u8n n (show n < 256 by omega)]
    rw [e8]
    exact hown'
  · have i1 : ¬ (n : Int) ≤ 127 := by omega
    have HN := hidE (nonAscii_any n hs0 h1 base v l w HO.out hb hl)
    go_enter Tryd.func33, Tryd.ntmps33
    go_wp2_with (go_at_call 49; refine HN.out.mono ?_; rintro e w1 ⟨v', rfl, ho, hb1⟩)
    go_ret
    exact ⟨v', rfl, ho, hb1⟩
end Go.Proofs.YtlmbbohhdgeedaaDoor
