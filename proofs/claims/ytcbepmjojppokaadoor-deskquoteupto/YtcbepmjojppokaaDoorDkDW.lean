/-
  The walks of desk.escaped, desk.endOfWord (stage 25).
-/
import Derived.Test.YtcbepmjojppokaaDoorDkCW
import Derived.Shelf.Strings.Prefix
import Derived.BigQuiet
import Derived.OwnWalk
import Derived.Deep.QuietTactic
namespace Go.Proofs.YtcbepmjojppokaaDoor
open Go.RowKit Go.Shelf
/-- What escaped answers. -/
def escV (l : Dy) : Value := match escD l with
  | some (b, n) => .tuple #[.int .u8 (b.toNat : Int), .int .i64 (n : Int)]
  | none => .tuple #[.int .u8 0, .int .i64 0]
theorem hx_or : ∀ h l : Fin 16, bits .or .i64 ((h.val : Int) * 16) (l.val : Int) % 256 = ((UInt8.ofNat (h.val * 16 + l.val)).toNat : Int) := by decide +kernel
theorem empty_rd (l : Dy) : (rd l).toList.isEmpty = l.isEmpty := by rw [ByteArray.toList_eq]
theorem u8_ne (c : UInt8) (n : Nat) (hn : n < 256) (h : ¬ c = UInt8.ofNat n) : ¬ (c.toNat : Int) = (n : Int) := fun e => h ((u8_is c n hn).2 e)
set_option maxRecDepth 10000 in
set_option maxHeartbeats 1600000 in
theorem escaped_any (l : Dy) (w : World) : Calls Tryd.prog 41 #[.string (rd l)] w fun e w' => e = .returned (escV l) ∧ ∃ q, w' = w.drewN q := by
  obtain ⟨s, hs⟩ : ∃ s, s = rd l := ⟨_, rfl⟩
  have hS : s.size = l.length := by rw [hs, rd_size]
  have hE : s.toList.isEmpty = l.isEmpty := by rw [hs, empty_rd]
  obtain ⟨V, hV⟩ : ∃ V, V = escV l := ⟨_, rfl⟩
  rw [← hs, ← hV]
  cases l with
  | nil =>
    have HV := hid0 hV
    have hE2 : s.toList.isEmpty = true := hE
    clear hE hS hs hV
    go_enter Tryd.func41, Tryd.ntmps41
    go_wp2
    go_ret2
    exact ⟨by rw [HV.out]; rfl, 0, rfl⟩
  | cons c r =>
    have hE2 : s.toList.isEmpty = false := hE
    have h0 : 0 < s.size := by rw [hS]; simp
    have hc0 : s[0]'h0 = c := by subst hs; rfl
    obtain ⟨x, hx⟩ : ∃ x, x = (c.toNat : Int) := ⟨_, rfl⟩
    have hg : ((s[0]'h0).toNat : Int) = x := by rw [hc0, hx]
    clear hc0 hE
    have hd : escD (c :: r) = if c = 34 ∨ c = 92 then some (c, 1) else if c = 110 then some (10, 1) else if c = 120 then escH r else none := rfl
    unfold escV at hV
    rw [hd] at hV
    clear hd
    by_cases h1 : c = 34 ∨ c = 92
    · rw [if_pos h1] at hV
      have hxx : x = 34 ∨ x = 92 := by rw [hx]; exact h1.imp (u8_is c 34 (by omega)).1 (u8_is c 92 (by omega)).1
      have hV2 : V = .tuple #[.int .u8 x, .int .i64 1] := by rw [hV, hx]; rfl
      have HV := hid0 hV2
      clear h1 hs hV hV2 hS hx
      rcases hxx with rfl | rfl <;>
        (go_enter Tryd.func41, Tryd.ntmps41
         go_wp2
         go_ret2
         exact ⟨by rw [HV.out]; rfl, 0, rfl⟩)
    · rw [if_neg h1] at hV
      have n34 : ¬ x = 34 := by rw [hx]; exact u8_ne c 34 (by omega) (fun e => h1 (.inl e))
      have n92 : ¬ x = 92 := by rw [hx]; exact u8_ne c 92 (by omega) (fun e => h1 (.inr e))
      by_cases h2 : c = 110
      · rw [if_pos h2] at hV
        have hx2 : x = 110 := by rw [hx]; exact (u8_is c 110 (by omega)).1 h2
        have HV := hid0 hV
        clear h1 h2 hs hV hS hx
        subst hx2
        go_enter Tryd.func41, Tryd.ntmps41
        go_wp2
        go_ret2
        exact ⟨by rw [HV.out]; rfl, 0, rfl⟩
      · rw [if_neg h2] at hV
        have n110 : ¬ x = 110 := by rw [hx]; exact u8_ne c 110 (by omega) h2
        by_cases h3 : c = 120
        · rw [if_pos h3] at hV
          have hx3 : x = 120 := by rw [hx]; exact (u8_is c 120 (by omega)).1 h3
          clear h1 h2 hx n34 n92 n110
          subst hx3
          by_cases h4 : s.size < 3
          · have h4I : (s.size : Int) < 3 := by omega
            have HV : Hid (V = .tuple #[.int .u8 0, .int .i64 0]) := hid0 (by
              rw [hV]
              have : escH r = none := by
                unfold escH
                split
                · simp at hS; omega
                · rfl
              rw [this])
            clear hV hs hS h3 h4
            go_enter Tryd.func41, Tryd.ntmps41
            go_wp2
            go_ret2
            exact ⟨by rw [HV.out]; rfl, 0, rfl⟩
          · have h4I : ¬ (s.size : Int) < 3 := by omega
            have h1s : (1 : Int) < (s.size : Int) := by omega
            have h2s : (2 : Int) < (s.size : Int) := by omega
            have h1n : 1 < s.size := by omega
            have h2n : 2 < s.size := by omega
            obtain ⟨a, b, t, hr⟩ : ∃ a b t, r = a :: b :: t := by
              cases r with
              | nil => simp at hS; omega
              | cons a r =>
                cases r with
                | nil => simp at hS; omega
                | cons b t => exact ⟨a, b, t, rfl⟩
            subst hr
            have ga : s[1]'h1n = a := by subst hs; rfl
            have gb : s[2]'h2n = b := by subst hs; rfl
            have hV3 : V = match (if 0 ≤ hxD a ∧ 0 ≤ hxD b then some (UInt8.ofNat (hxD a * 16 + hxD b).toNat, 3) else none : Option (UInt8 × Nat)) with
              | some (b, n) => .tuple #[.int .u8 (b.toNat : Int), .int .i64 (n : Int)]
              | none => .tuple #[.int .u8 0, .int .i64 0] := hV
            obtain ⟨bA1, bA2⟩ := hxD_lt a
            obtain ⟨bB1, bB2⟩ := hxD_lt b
            obtain ⟨xa, hxa⟩ : ∃ xa, xa = (a.toNat : Int) := ⟨_, rfl⟩
            obtain ⟨xb, hxb⟩ : ∃ xb, xb = (b.toNat : Int) := ⟨_, rfl⟩
            have ga2 : ((s[1]'h1n).toNat : Int) = xa := by rw [ga, hxa]
            have gb2 : ((s[2]'h2n).toNat : Int) = xb := by rw [gb, hxb]
            have HA : Hid (∀ W, Calls Tryd.prog 46 #[.int .u8 xa] W fun e w' => e = .returned (.int .i64 (hxD a)) ∧ w' = W) := hid0 (fun W => by rw [hxa]; exact hexValue_any a W)
            have HB : Hid (∀ W, Calls Tryd.prog 46 #[.int .u8 xb] W fun e w' => e = .returned (.int .i64 (hxD b)) ∧ w' = W) := hid0 (fun W => by rw [hxb]; exact hexValue_any b W)
            generalize hxD a = va at *
            generalize hxD b = vb at *
            clear hV hs hS h3 h4 hxa hxb ga gb
            by_cases a0 : va < 0
            · have HV : Hid (V = .tuple #[.int .u8 0, .int .i64 0]) := hid0 (by rw [hV3, if_neg (by omega)])
              clear hV3
              go_enter Tryd.func41, Tryd.ntmps41
              go_wp2
              go_quiet (first
                | (go_at_call 46; with_reducible exact Calls.quiet_of_same (HA.out _))
                | (go_at_call 46; with_reducible exact Calls.quiet_of_same (HB.out _))
                | fail)
              all_goals go_wp2
              go_ret2
              exact ⟨by rw [HV.out]; rfl, _, rfl⟩
            · by_cases b0 : vb < 0
              · have HV : Hid (V = .tuple #[.int .u8 0, .int .i64 0]) := hid0 (by rw [hV3, if_neg (by omega)])
                clear hV3
                go_enter Tryd.func41, Tryd.ntmps41
                go_wp2
                go_quiet (first
                  | (go_at_call 46; with_reducible exact Calls.quiet_of_same (HA.out _))
                  | (go_at_call 46; with_reducible exact Calls.quiet_of_same (HB.out _))
                  | fail)
                all_goals go_wp2
                go_ret2
                exact ⟨by rw [HV.out]; rfl, _, rfl⟩
              · obtain ⟨na, rfl⟩ : ∃ na : Nat, va = na := ⟨va.toNat, by omega⟩
                obtain ⟨nb, rfl⟩ : ∃ nb : Nat, vb = nb := ⟨vb.toNat, by omega⟩
                have hor := hx_or ⟨na, by omega⟩ ⟨nb, by omega⟩
                have HV : Hid (V = .tuple #[.int .u8 ((UInt8.ofNat (na * 16 + nb)).toNat : Int), .int .i64 3]) := hid0 (by
                  rw [hV3, if_pos (by omega), show ((na : Int) * 16 + (nb : Int)).toNat = na * 16 + nb by omega]
                  rfl)
                have hor2 : bits .or .i64 ((na : Int) * 16) (nb : Int) % 256 = ((UInt8.ofNat (na * 16 + nb)).toNat : Int) := hor
                generalize ((UInt8.ofNat (na * 16 + nb)).toNat : Int) = z at *
                clear hV3 hor
                go_enter Tryd.func41, Tryd.ntmps41
                go_wp2
                go_quiet (first
                  | (go_at_call 46; with_reducible exact Calls.quiet_of_same (HA.out _))
                  | (go_at_call 46; with_reducible exact Calls.quiet_of_same (HB.out _))
                  | fail)
                all_goals go_wp2
                go_ret2
                exact ⟨by rw [HV.out, ← hor2]; rfl, _, rfl⟩
        · rw [if_neg h3] at hV
          have n120 : ¬ x = 120 := by rw [hx]; exact u8_ne c 120 (by omega) h3
          have HV := hid0 hV
          clear h1 h2 h3 hs hV hS hx
          go_enter Tryd.func41, Tryd.ntmps41
          go_wp2
          go_ret2
          exact ⟨by rw [HV.out]; rfl, 0, rfl⟩
/-- What endOfWord answers. -/
def endV (t : Value) (word rest : Dy) : Value := if bOE rest = true then .tuple #[.string (rd word), .string (rd rest), .nilIface] else .tuple #[.string ⟨#[]⟩, .string ⟨#[]⟩, t]
set_option maxRecDepth 10000 in
set_option maxHeartbeats 800000 in
theorem endOfWord_any (word rest : Dy) (t : Value) (w : World) (ht : w.cell? ⟨1, 0, none⟩ = some t) :
    Calls Tryd.prog 40 #[.string (rd word), .string (rd rest)] w fun e w' => e = .returned (endV t word rest) ∧ ∃ q, w' = w.drewN q := by
  have HP : Hid (Calls Tryd.prog 13 #[.string (rd rest), .string ⟨#[32]⟩] w fun e w' => e = .returned (.bool (Lib.hasPrefix rest [32])) ∧ w' = w) := hid0 (Any.strings_HasPrefix Tryd.lays99 (rd rest) ⟨#[32]⟩ w)
  have hE : (rd rest).toList.isEmpty = rest.isEmpty := empty_rd rest
  cases rest with
  | nil =>
    have hE2 : (rd []).toList.isEmpty = true := hE
    show Calls _ _ _ _ fun e w' => e = .returned (.tuple #[.string (rd word), .string (rd []), .nilIface]) ∧ _
    generalize rd [] = R at *
    generalize rd word = W at *
    clear hE HP
    go_enter Tryd.func40, Tryd.ntmps40
    go_wp2
    go_ret3
    exact ⟨rfl, 0, rfl⟩
  | cons c r =>
    have hE2 : (rd (c :: r)).toList.isEmpty = false := hE
    by_cases hc : c = 32
    · subst hc
      have hp : Lib.hasPrefix (32 :: r) [32] = true := by simp [Lib.hasPrefix]
      rw [hp] at HP
      show Calls _ _ _ _ fun e w' => e = .returned (.tuple #[.string (rd word), .string (rd (32 :: r)), .nilIface]) ∧ _
      generalize rd (32 :: r) = R at *
      generalize rd word = W at *
      clear hE hp
      go_enter Tryd.func40, Tryd.ntmps40
      go_wp2_with (go_at_call 13; refine HP.out.mono ?_; rintro e w1 ⟨rfl, rfl⟩)
      go_ret3
      exact ⟨rfl, 0, rfl⟩
    · have hp : Lib.hasPrefix (c :: r) [32] = false := by
        have : ¬ 32 = c := fun e => hc e.symm
        unfold Lib.hasPrefix
        rw [List.isPrefixOf]
        simpa using this
      rw [hp] at HP
      have hv : endV t word (c :: r) = .tuple #[.string ⟨#[]⟩, .string ⟨#[]⟩, t] := by
        unfold endV
        rw [if_neg (by simpa [bOE] using hc)]
      rw [hv]
      generalize rd (c :: r) = R at *
      generalize rd word = W at *
      clear hE hp hv hc
      go_enter Tryd.func40, Tryd.ntmps40
      go_wp2_with (go_at_call 13; refine HP.out.mono ?_; rintro e w1 ⟨rfl, rfl⟩)
      go_quiet (fail)
      all_goals go_wp2
      go_ret3
      exact ⟨rfl, _, rfl⟩
end Go.Proofs.YtcbepmjojppokaaDoor
