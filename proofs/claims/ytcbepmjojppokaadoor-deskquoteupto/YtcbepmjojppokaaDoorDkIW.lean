/-
  The walk of caesuraref25.escaped (stage 25).
-/
import Derived.Test.YtcbepmjojppokaaDoorDkHW
namespace Go.Proofs.YtcbepmjojppokaaDoor
open Go.RowKit Go.Shelf
/-- What escaped answers of what stands behind the backslash at a place. -/
def rescV (l : Dy) (k : Nat) : Value := match escD (l.drop (k + 1)) with
  | some (b, n) => .tuple #[.string (rd [b]), .int .i64 ((k + 1 + n : Nat) : Int)]
  | none => .tuple #[.string ⟨#[]⟩, .int .i64 (-1)]
theorem hx_sum : ∀ h l : Fin 16, ((h.val : Int) * 16 + (l.val : Int)) % 256 = ((UInt8.ofNat (h.val * 16 + l.val)).toNat : Int) := by decide +kernel
theorem conv_one (b : UInt8) (w : World) : (convert 36 9 (.slice (some ⟨w.heap.size, 0, none⟩) 1 1)).run Tryd.prog (w.alloc (.cells #[.int .u8 (b.toNat : Int)] 5)) = .ok (.string (rd [b])) (w.alloc (.cells #[.int .u8 (b.toNat : Int)] 5)) := by
  refine run_convert_bytes_back (P := Tryd.prog) (w.alloc (.cells #[.int .u8 (b.toNat : Int)] 5)) 36 9 5 ⟨w.heap.size, 0, none⟩ 1 [b] Tryd.underlying36 Tryd.underlying5 Tryd.underlying9 (fun j hj => ?_)
  have hj0 : j = 0 := by simp at hj; omega
  subst hj0
  rw [Addr.add_lit, Nat.zero_add, cell_of_row _ _ _ _ _ _ (heap_alloc_new w _)]
  rfl
set_option maxRecDepth 10000 in
set_option maxHeartbeats 1600000 in
theorem refEscaped_any (l : Dy) (a : Nat) (w : World) (ha : a < l.length) (hl : l.length ≤ 70368744177664) :
    Calls Tryd.prog 34 #[.string (rd l), .int .i64 (a : Int)] w fun e w' => e = .returned (rescV l a) ∧ Below w.heap.size w w' := by
  obtain ⟨s, hs⟩ : ∃ s, s = rd l := ⟨_, rfl⟩
  have hS : s.size = l.length := by rw [hs, rd_size]
  have hG : ∀ k (h : k < s.size), ∃ h2 : k < l.length, s[k] = l[k] := by subst hs; exact fun k h => ⟨by rw [← rd_size]; exact h, rfl⟩
  obtain ⟨V, hV⟩ : ∃ V, V = rescV l a := ⟨_, rfl⟩
  rw [← hs, ← hV]
  have hls : s.size ≤ 70368744177664 := by omega
  have haI0 : (0 : Int) ≤ (a : Int) := by omega
  have haI1 : (0 : Int) ≤ (a : Int) + 1 := by omega
  unfold rescV at hV
  by_cases h1 : a + 1 < s.size
  · have h1I : (a : Int) + 1 < (s.size : Int) := by omega
    have h1J : ¬ (a : Int) + 1 ≥ (s.size : Int) := by omega
    have h2I : (a : Int) + 2 ≤ (s.size : Int) := by omega
    have h3I : (a : Int) + 1 ≤ (a : Int) + 2 := by omega
    obtain ⟨h2, hg⟩ := hG (a + 1) h1
    have hX : s.extract (a + 1) (a + 2) = rd [l[a + 1]] := by rw [hs]; exact rd_one l (a + 1) h2
    rw [drop_at l (a + 1) h2] at hV
    obtain ⟨c, hc⟩ : ∃ c, c = l[a + 1] := ⟨_, rfl⟩
    rw [← hc] at hg hV hX
    clear hc
    have hd : escD (c :: l.drop (a + 1 + 1)) = if c = 34 ∨ c = 92 then some (c, 1) else if c = 110 then some (10, 1) else if c = 120 then escH (l.drop (a + 1 + 1)) else none := rfl
    rw [hd] at hV
    clear hd
    obtain ⟨x, hx⟩ : ∃ x, x = (c.toNat : Int) := ⟨_, rfl⟩
    have hgx : (s[a + 1].toNat : Int) = x := by rw [hg, hx]
    clear hg
    by_cases c1 : c = 34 ∨ c = 92
    · rw [if_pos c1] at hV
      have hxx : x = 34 ∨ x = 92 := by rw [hx]; exact c1.imp (u8_is c 34 (by omega)).1 (u8_is c 92 (by omega)).1
      have HV : Hid (V = .tuple #[.string (s.extract (a + 1) (a + 2)), .int .i64 ((a : Int) + 2)]) := hid0 (by rw [hV, hX]; simp only [Value.tuple.injEq]; congr 3)
      clear hV hX hs hS hG hx c1
      rcases hxx with rfl | rfl <;>
        (go_enter Tryd.func34, Tryd.ntmps34
         go_wp2
         go_ret2
         exact ⟨by rw [HV.out]; rfl, Below.refl _ _⟩)
    · rw [if_neg c1] at hV
      have n34 : ¬ x = 34 := by rw [hx]; exact u8_ne c 34 (by omega) (fun e => c1 (.inl e))
      have n92 : ¬ x = 92 := by rw [hx]; exact u8_ne c 92 (by omega) (fun e => c1 (.inr e))
      by_cases c2 : c = 110
      · rw [if_pos c2] at hV
        have hxx : x = 110 := by rw [hx]; exact (u8_is c 110 (by omega)).1 c2
        have HV : Hid (V = .tuple #[.string ⟨#[10]⟩, .int .i64 ((a : Int) + 2)]) := hid0 (by rw [hV]; simp only [Value.tuple.injEq]; congr 3)
        clear hV hX hs hS hG hx c1 c2
        subst hxx
        go_enter Tryd.func34, Tryd.ntmps34
        go_wp2
        go_ret2
        exact ⟨by rw [HV.out]; rfl, Below.refl _ _⟩
      · rw [if_neg c2] at hV
        have n110 : ¬ x = 110 := by rw [hx]; exact u8_ne c 110 (by omega) c2
        by_cases c3 : c = 120
        · rw [if_pos c3] at hV
          have hxx : x = 120 := by rw [hx]; exact (u8_is c 120 (by omega)).1 c3
          by_cases h4 : a + 3 < s.size
          · have h4I : (a : Int) + 3 < (s.size : Int) := by omega
            have h4J : ¬ (a : Int) + 3 ≥ (s.size : Int) := by omega
            have h2s : (a : Int) + 2 < (s.size : Int) := by omega
            have h2J : (0 : Int) ≤ (a : Int) + 2 := by omega
            have h3J : (0 : Int) ≤ (a : Int) + 3 := by omega
            have h2n : a + 2 < s.size := by omega
            obtain ⟨k2, g2⟩ := hG (a + 2) h2n
            obtain ⟨k3, g3⟩ := hG (a + 3) h4
            rw [drop_at l (a + 1 + 1) k2, drop_at l (a + 1 + 1 + 1) k3] at hV
            obtain ⟨d, hd⟩ : ∃ d, d = l[a + 2] := ⟨_, rfl⟩
            obtain ⟨f, hf⟩ : ∃ f, f = l[a + 3] := ⟨_, rfl⟩
            rw [← hd] at g2
            rw [← hf] at g3
            have hV3 : V = match (if 0 ≤ hxD d ∧ 0 ≤ hxD f then some (UInt8.ofNat (hxD d * 16 + hxD f).toNat, 3) else none : Option (UInt8 × Nat)) with
              | some (b, n) => .tuple #[.string (rd [b]), .int .i64 ((a + 1 + n : Nat) : Int)]
              | none => .tuple #[.string ⟨#[]⟩, .int .i64 (-1)] := by rw [hV, hd, hf]; rfl
            obtain ⟨bA1, bA2⟩ := hxD_lt d
            obtain ⟨bB1, bB2⟩ := hxD_lt f
            obtain ⟨xd, hxd⟩ : ∃ xd, xd = (d.toNat : Int) := ⟨_, rfl⟩
            obtain ⟨xf, hxf⟩ : ∃ xf, xf = (f.toNat : Int) := ⟨_, rfl⟩
            have ga2 : ((s[a + 2]'h2n).toNat : Int) = xd := by rw [g2, hxd]
            have gb2 : ((s[a + 3]'h4).toNat : Int) = xf := by rw [g3, hxf]
            have HA : Hid (∀ W, Calls Tryd.prog 43 #[.int .u8 xd] W fun e w' => e = .returned (.int .i64 (hxD d)) ∧ w' = W) := hid0 (fun W => by rw [hxd]; exact refHex_any d W)
            have HB : Hid (∀ W, Calls Tryd.prog 43 #[.int .u8 xf] W fun e w' => e = .returned (.int .i64 (hxD f)) ∧ w' = W) := hid0 (fun W => by rw [hxf]; exact refHex_any f W)
            generalize hxD d = va at *
            generalize hxD f = vb at *
            clear hV hX hs hS hG hx c1 c2 c3 hxd hxf hd hf g2 g3
            subst hxx
            by_cases a0 : va < 0
            · have HV : Hid (V = .tuple #[.string ⟨#[]⟩, .int .i64 (-1)]) := hid0 (by rw [hV3, if_neg (by omega)])
              clear hV3
              go_enter Tryd.func34, Tryd.ntmps34
              go_wp2_with (first
                | (go_at_call 43; with_reducible refine (HA.out _).mono ?_; rintro e y ⟨rfl, hy⟩; subst hy)
                | (go_at_call 43; with_reducible refine (HB.out _).mono ?_; rintro e y ⟨rfl, hy⟩; subst hy)
                | fail)
              go_ret2
              exact ⟨by rw [HV.out]; rfl, Below.refl _ _⟩
            · by_cases b0 : vb < 0
              · have HV : Hid (V = .tuple #[.string ⟨#[]⟩, .int .i64 (-1)]) := hid0 (by rw [hV3, if_neg (by omega)])
                clear hV3
                go_enter Tryd.func34, Tryd.ntmps34
                go_wp2_with (first
                  | (go_at_call 43; with_reducible refine (HA.out _).mono ?_; rintro e y ⟨rfl, hy⟩; subst hy)
                  | (go_at_call 43; with_reducible refine (HB.out _).mono ?_; rintro e y ⟨rfl, hy⟩; subst hy)
                  | fail)
                go_ret2
                exact ⟨by rw [HV.out]; rfl, Below.refl _ _⟩
              · obtain ⟨na, rfl⟩ : ∃ na : Nat, va = na := ⟨va.toNat, by omega⟩
                obtain ⟨nb, rfl⟩ : ∃ nb : Nat, vb = nb := ⟨vb.toNat, by omega⟩
                have hor := hx_sum ⟨na, by omega⟩ ⟨nb, by omega⟩
                have hor2 : (na : Int) * 16 + (nb : Int) = ((UInt8.ofNat (na * 16 + nb)).toNat : Int) := by
                  rw [← show _ = ((UInt8.ofNat (na * 16 + nb)).toNat : Int) from hor, Int.emod_eq_of_lt (by omega) (by omega)]
                have HV : Hid (V = .tuple #[.string (rd [UInt8.ofNat (na * 16 + nb)]), .int .i64 ((a : Int) + 4)]) := hid0 (by
                  rw [hV3, if_pos (by omega), show ((na : Int) * 16 + (nb : Int)).toNat = na * 16 + nb by omega]
                  simp only [Value.tuple.injEq]; congr 3)
                have hcv := conv_one (UInt8.ofNat (na * 16 + nb)) w
                rw [← hor2] at hcv
                generalize UInt8.ofNat (na * 16 + nb) = b0 at *
                clear hV3 hor hor2
                go_enter Tryd.func34, Tryd.ntmps34
                go_wp2_with (first
                  | (go_at_call 43; with_reducible refine (HA.out _).mono ?_; rintro e y ⟨rfl, hy⟩; subst hy)
                  | (go_at_call 43; with_reducible refine (HB.out _).mono ?_; rintro e y ⟨rfl, hy⟩; subst hy)
                  | fail)
                go_ret2
                exact ⟨by rw [HV.out]; rfl, (Below.refl _ _).alloc (Nat.le_refl _) _⟩
          · have h4J : (a : Int) + 3 ≥ (s.size : Int) := by omega
            have HV : Hid (V = .tuple #[.string ⟨#[]⟩, .int .i64 (-1)]) := hid0 (by
              rw [hV]
              have : escH (l.drop (a + 1 + 1)) = none := by
                cases h5 : escH (l.drop (a + 1 + 1)) with
                | none => rfl
                | some p =>
                  have := (escH_len h5).2
                  rw [List.length_drop] at this
                  omega
              rw [this])
            clear hV hX hs hS hG hx c1 c2 c3 h4
            subst hxx
            go_enter Tryd.func34, Tryd.ntmps34
            go_wp2
            go_ret2
            exact ⟨by rw [HV.out]; rfl, Below.refl _ _⟩
        · rw [if_neg c3] at hV
          have n120 : ¬ x = 120 := by rw [hx]; exact u8_ne c 120 (by omega) c3
          have n120b : (x != 120) = true := by simpa using n120
          have n34b : (x == 34) = false := by simpa using n34
          have n92b : (x == 92) = false := by simpa using n92
          have n110b : (x == 110) = false := by simpa using n110
          have HV := hid0 hV
          clear hV hX hs hS hG hx c1 c2 c3
          go_enter Tryd.func34, Tryd.ntmps34
          go_wp2
          go_ret2
          exact ⟨by rw [HV.out]; rfl, Below.refl _ _⟩
  · have h1J : (a : Int) + 1 ≥ (s.size : Int) := by omega
    rw [List.drop_of_length_le (by omega)] at hV
    have HV := hid0 hV
    clear hV hs hS hG h1
    go_enter Tryd.func34, Tryd.ntmps34
    go_wp2
    go_ret2
    exact ⟨by rw [HV.out]; rfl, Below.refl _ _⟩
end Go.Proofs.YtcbepmjojppokaaDoor
