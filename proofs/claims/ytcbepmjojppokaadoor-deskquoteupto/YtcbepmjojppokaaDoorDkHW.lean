/-
  The walks of caesuraref25's plain, escaped (stage 25).
-/
import Derived.Test.YtcbepmjojppokaaDoorDkGW
namespace Go.Proofs.YtcbepmjojppokaaDoor
open Go.RowKit Go.Shelf
/-- What plain answers. -/
def plnV (l : Dy) (k : Nat) : Value := match plW (l.drop k) with
  | some (wd, n) => .tuple #[.string (rd wd), .int .i64 ((k + n : Nat) : Int)]
  | none => .tuple #[.string ⟨#[]⟩, .int .i64 (-1)]
def midL (l : Dy) (a k : Nat) : Dy := (l.take k).drop a
theorem mid_snoc (l : Dy) (a k : Nat) (h : a ≤ k) (hk : k < l.length) : midL l a (k + 1) = midL l a k ++ [l[k]] := by
  unfold midL
  rw [List.take_add_one, List.getElem?_eq_getElem hk, List.drop_append_of_le_length (by rw [List.length_take]; omega)]
  rfl
theorem mid_nil (l : Dy) (k : Nat) : midL l k k = [] := by unfold midL; exact List.drop_of_length_le (by rw [List.length_take]; omega)
theorem mid_len (l : Dy) (a k : Nat) (hk : k ≤ l.length) : (midL l a k).length = k - a := by unfold midL; rw [List.length_drop, List.length_take]; omega
set_option maxRecDepth 10000 in
set_option maxHeartbeats 1600000 in
theorem refPlain_any (l : Dy) (a : Nat) (w : World) (ha : a ≤ l.length) (hl : l.length ≤ 70368744177664) :
    Calls Tryd.prog 21 #[.string (rd l), .int .i64 (a : Int)] w fun e w' => e = .returned (plnV l a) ∧ w' = w := by
  obtain ⟨s, hs⟩ : ∃ s, s = rd l := ⟨_, rfl⟩
  have hS : s.size = l.length := by rw [hs, rd_size]
  have HG : Hid (∀ k (h : k < s.size), ∃ h2 : k < l.length, s[k] = l[k]) := hid0 (by subst hs; exact fun k h => ⟨by rw [← rd_size]; exact h, rfl⟩)
  have HX : Hid (∀ k, s.extract a k = rd (midL l a k)) := hid0 (fun k => by rw [hs]; exact rd_mid l a k)
  obtain ⟨V, hV⟩ : ∃ V, V = plnV l a := ⟨_, rfl⟩
  rw [← hs, ← hV]
  have HS := hid0 hS
  have HV := hid0 hV
  have hls : s.size ≤ 70368744177664 := by omega
  have has : a ≤ s.size := by omega
  have hasI : (a : Int) ≤ (s.size : Int) := by omega
  have haI0 : (0 : Int) ≤ (a : Int) := by omega
  clear hs hV hS hl ha
  go_enter Tryd.func21, Tryd.ntmps21
  go_wp2
  go_loopw [6] (fun i wr => ∃ k : Nat, a ≤ k ∧ k ≤ s.size ∧ i = .int .i64 (k : Int) ∧ Hid ((l.drop a).takeWhile notSp = midL l a k ++ (l.drop k).takeWhile notSp ∧ (midL l a k).all bareB = true) ∧ wr = w) (fun i _ => s.size - (intOf i).toNat)
  case atStart => exact ⟨a, Nat.le_refl _, has, rfl, hid0 ⟨by rw [mid_nil]; rfl, by rw [mid_nil]; rfl⟩, rfl⟩
  case round =>
    obtain ⟨k, hak, hk, rfl, HI, rfl⟩ := hrel
    have hkI0 : (0 : Int) ≤ (k : Int) := by omega
    have hakI : (a : Int) ≤ (k : Int) := by omega
    have hkS : (k : Int) ≤ (s.size : Int) := by omega
    have HDn : Hid ((l.drop k).takeWhile notSp = [] → V = .tuple #[.string (s.extract a k), .int .i64 (k : Int)]) := hid0 (fun h => by
      rw [HV.out]
      unfold plnV plW
      rw [HI.out.1, h, List.append_nil, if_pos HI.out.2, HX.out]
      simp only
      rw [mid_len l a k (by have := HS.out; omega), show a + (k - a) = k by omega])
    by_cases hlt : k < s.size
    · have hkI : (k : Int) < (s.size : Int) := by omega
      obtain ⟨hk2, hg⟩ := HG.out k hlt
      have HTw : Hid ((l.drop k).takeWhile notSp = if notSp l[k] = true then l[k] :: (l.drop (k + 1)).takeWhile notSp else []) := hid0 (by rw [drop_at l k hk2, List.takeWhile_cons])
      have HMs := hid0 (mid_snoc l a k hak hk2)
      obtain ⟨c, hc⟩ : ∃ c, c = l[k] := ⟨_, rfl⟩
      rw [← hc] at hg HTw HMs
      clear hc
      obtain ⟨x, hx⟩ : ∃ x, x = (c.toNat : Int) := ⟨_, rfl⟩
      have hgx : (s[k].toNat : Int) = x := by rw [hg, hx]
      have HBe : Hid (bareB c = bareZ x) := hid0 (by rw [hx]; exact bare_eq c)
      have x32 := u8_is c 32 (by omega)
      rw [← hx] at x32
      clear hx hg
      by_cases c32 : c = 32
      · have hx32 : x = 32 := x32.1 c32
        have HVt := hid0 (HDn.out (by rw [HTw.out, if_neg (by subst c32; decide)]))
        clear HDn HTw HMs HBe x32 c32 HI HV HX HS HG
        subst hx32
        go_wp2
        go_ret2
        exact ⟨by rw [HVt.out]; rfl, rfl⟩
      · have hx32 : ¬ x = 32 := fun e => c32 (x32.2 e)
        have hx32b : (x != 32) = true := by simpa using hx32
        have hns : notSp c = true := by unfold notSp; simpa using c32
        have HTw2 : Hid ((l.drop a).takeWhile notSp = midL l a (k + 1) ++ (l.drop (k + 1)).takeWhile notSp) := hid0 (by rw [HI.out.1, HTw.out, if_pos hns, HMs.out]; simp)
        cases hb : bareB c with
        | false =>
          have HVn : Hid (V = .tuple #[.string ⟨#[]⟩, .int .i64 (-1)]) := hid0 (by
            rw [HV.out]
            unfold plnV plW
            rw [HTw2.out, if_neg]
            rw [HMs.out, List.all_append, List.all_append, List.all_cons, hb]
            simp)
          have hz := HBe.out
          rw [hb] at hz
          unfold bareZ at hz
          clear HDn HTw HTw2 HMs HBe x32 c32 HI HV HX HS HG hns hb
          by_cases a1 : x < 33
          · clear hz
            go_wp2
            go_ret2
            exact ⟨by rw [HVn.out]; rfl, rfl⟩
          · by_cases a2 : x > 126
            · clear hz
              go_wp2
              go_ret2
              exact ⟨by rw [HVn.out]; rfl, rfl⟩
            · have a3 : x = 34 := by
                rw [decide_eq_true (show 33 ≤ x by omega), decide_eq_true (show x ≤ 126 by omega)] at hz
                simpa using hz.symm
              clear hz
              subst a3
              go_wp2
              go_ret2
              exact ⟨by rw [HVn.out]; rfl, rfl⟩
        | true =>
          have HN : Hid ((l.drop a).takeWhile notSp = midL l a (k + 1) ++ (l.drop (k + 1)).takeWhile notSp ∧ (midL l a (k + 1)).all bareB = true) := hid0 ⟨HTw2.out, by rw [HMs.out, List.all_append, HI.out.2, List.all_cons, hb]; rfl⟩
          have hz := HBe.out
          rw [hb] at hz
          unfold bareZ at hz
          have hz2 := hz.symm
          rw [Bool.and_eq_true, Bool.and_eq_true, decide_eq_true_eq, decide_eq_true_eq] at hz2
          have a1 : ¬ x < 33 := by omega
          have a2 : ¬ x > 126 := by omega
          have a3 : ¬ x = 34 := by simpa using hz2.2
          clear HDn HTw HTw2 HMs HBe x32 c32 HI HV HX HS HG hns hb hz hz2
          go_wp2
          go_roundw
          case rel => exact ⟨k + 1, by omega, hlt, by go_num, HN, trivial⟩
          case measure => simp [intOf]; omega
    · have hkI : ¬ (k : Int) < (s.size : Int) := by omega
      have HVt := hid0 (HDn.out (by rw [List.drop_of_length_le (by have := HS.out; omega)]; rfl))
      clear HDn HI HV HX HS HG
      go_wp2
      go_ret2
      exact ⟨by rw [HVt.out]; rfl, rfl⟩
end Go.Proofs.YtcbepmjojppokaaDoor
