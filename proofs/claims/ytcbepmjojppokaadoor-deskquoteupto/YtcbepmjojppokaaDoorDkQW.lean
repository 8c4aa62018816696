/-
  The walks of caesuraref25's bare, Quote (stage 25).
-/
import Derived.Test.YtcbepmjojppokaaDoorDkPW
import Derived.Test.YtcbepmjojppokaaDoorDkJW
namespace Go.Proofs.YtcbepmjojppokaaDoor
open Go.RowKit Go.Shelf
def bareY (x : Int) : Bool := bareZ x && !(x == 92)
theorem bareY_eq (c : UInt8) : (bareB c && !(c == 92)) = bareY (c.toNat : Int) := by
  unfold bareY
  rw [bare_eq, show (92 : UInt8) = UInt8.ofNat 92 from rfl, u8_eq c 92 (by omega)]
  rfl
set_option maxRecDepth 10000 in
set_option maxHeartbeats 1600000 in
theorem refBare_any (l : Dy) (w : World) (hl : l.length ≤ 70368744177664) :
    Calls Tryd.prog 19 #[.string (rd l)] w fun e w' => e = .returned (.bool (bareQ l)) ∧ w' = w := by
  obtain ⟨s, hs⟩ : ∃ s, s = rd l := ⟨_, rfl⟩
  have hS : s.size = l.length := by rw [hs, rd_size]
  have HG : Hid (∀ k (h : k < s.size), ∃ h2 : k < l.length, s[k] = l[k]) := hid0 (by subst hs; exact fun k h => ⟨by rw [← rd_size]; exact h, rfl⟩)
  have hE : s.toList.isEmpty = l.isEmpty := by rw [hs, empty_rd]
  rw [← hs]
  obtain ⟨V, hV⟩ : ∃ V, V = bareQ l := ⟨_, rfl⟩
  rw [← hV]
  have hls : s.size ≤ 70368744177664 := by omega
  cases l with
  | nil =>
    have HV := hid0 hV
    have hE2 : s.toList.isEmpty = true := hE
    clear hE hS hs hV hl
    go_enter Tryd.func19, Tryd.ntmps19
    go_wp2
    go_ret
    exact ⟨by rw [HV.out]; rfl, rfl⟩
  | cons c0 r0 =>
    have hE2 : s.toList.isEmpty = false := hE
    have h0 : 0 < s.size := by rw [hS]; simp
    have h0I : (0 : Int) < (s.size : Int) := by omega
    have hc0 : s[0]'h0 = c0 := by subst hs; rfl
    obtain ⟨x0, hx0⟩ : ∃ x0, x0 = (c0.toNat : Int) := ⟨_, rfl⟩
    have hg0 : ((s[0]'h0).toNat : Int) = x0 := by rw [hc0, hx0]
    have hd : bareQ (c0 :: r0) = (!(c0 == 35) && (c0 :: r0).all (fun b => bareB b && !(b == 92))) := rfl
    rw [hd] at hV
    have c35 := u8_is c0 35 (by omega)
    rw [← hx0] at c35
    by_cases hc35 : c0 = 35
    · have hx35 : x0 = 35 := c35.1 hc35
      have HV : Hid (V = false) := hid0 (by rw [hV, hc35]; rfl)
      clear hd hV hE hS hs hl hx0 c35 hc35 hc0 HG
      subst hx35
      go_enter Tryd.func19, Tryd.ntmps19
      go_wp2
      go_ret
      exact ⟨by rw [HV.out]; rfl, rfl⟩
    · have hx35 : ¬ x0 = 35 := fun e => hc35 (c35.2 e)
      have hx35b : (x0 == 35) = false := by simpa using hx35
      have HV : Hid (V = (c0 :: r0).all (fun b => bareB b && !(b == 92))) := hid0 (by rw [hV, show (c0 == 35) = false by simpa using hc35]; rfl)
      have HS := hid0 hS
      clear hd hV hE hS hs hl hx0 c35 hc35 hc0
      generalize c0 :: r0 = l at *
      go_enter Tryd.func19, Tryd.ntmps19
      go_wp2
      go_loopw [3] (fun i wr => ∃ k : Nat, k ≤ s.size ∧ i = .int .i64 (k : Int) ∧ Hid ((l.take k).all (fun b => bareB b && !(b == 92)) = true) ∧ wr = w) (fun i _ => s.size - (intOf i).toNat)
      case atStart => exact ⟨0, by omega, rfl, hid0 rfl, rfl⟩
      case round =>
        obtain ⟨k, hk, rfl, HA, rfl⟩ := hrel
        have hkI0 : (0 : Int) ≤ (k : Int) := by omega
        by_cases hlt : k < s.size
        · have hkI : (k : Int) < (s.size : Int) := by omega
          obtain ⟨hk2, hg⟩ := HG.out k hlt
          have HB := hid0 (bareY_eq l[k])
          have HT : Hid ((l.take (k + 1)).all (fun b => bareB b && !(b == 92)) = (bareB l[k] && !(l[k] == 92))) := hid0 (by rw [List.take_add_one, List.all_append, HA.out, List.getElem?_eq_getElem hk2]; simp)
          have HF : Hid ((bareB l[k] && !(l[k] == 92)) = false → V = false) := hid0 (fun h => by
            rw [HV.out, List.all_eq_false]
            exact ⟨l[k], List.getElem_mem hk2, by rw [h]; simp⟩)
          generalize l[k] = c at *
          obtain ⟨x, hx⟩ : ∃ x, x = (c.toNat : Int) := ⟨_, rfl⟩
          have hgx : (s[k].toNat : Int) = x := by rw [hg, hx]
          rw [← hx] at HB
          clear hx hg
          by_cases a1 : x < 33
          · have HVf := hid0 (HF.out (by rw [HB.out]; unfold bareY bareZ; rw [decide_eq_false (by omega)]; rfl))
            clear HF HB HT HA HV HG HS
            go_wp2
            go_ret
            exact ⟨by rw [HVf.out]; rfl, rfl⟩
          · by_cases a2 : x > 126
            · have HVf := hid0 (HF.out (by rw [HB.out]; unfold bareY bareZ; rw [decide_eq_false (show ¬ x ≤ 126 by omega)]; simp))
              clear HF HB HT HA HV HG HS
              go_wp2
              go_ret
              exact ⟨by rw [HVf.out]; rfl, rfl⟩
            · by_cases a3 : x = 34
              · have HVf := hid0 (HF.out (by rw [HB.out, a3]; rfl))
                clear HF HB HT HA HV HG HS
                subst a3
                go_wp2
                go_ret
                exact ⟨by rw [HVf.out]; rfl, rfl⟩
              · by_cases a4 : x = 92
                · have HVf := hid0 (HF.out (by rw [HB.out, a4]; rfl))
                  clear HF HB HT HA HV HG HS
                  subst a4
                  go_wp2
                  go_ret
                  exact ⟨by rw [HVf.out]; rfl, rfl⟩
                · have hT : Hid ((l.take (k + 1)).all (fun b => bareB b && !(b == 92)) = true) := hid0 (by rw [HT.out, HB.out]; unfold bareY bareZ; rw [decide_eq_true (show 33 ≤ x by omega), decide_eq_true (show x ≤ 126 by omega), show (x == 34) = false by simpa using a3, show (x == 92) = false by simpa using a4]; rfl)
                  have a3b : (x == 34) = false := by simpa using a3
                  have a4b : (x == 92) = false := by simpa using a4
                  clear HF HB HT HA HV HG HS
                  go_wp2
                  go_roundw
                  case rel => exact ⟨k + 1, hlt, by go_num, hT, trivial⟩
                  case measure => simp [intOf]; omega
        · have hkI : ¬ (k : Int) < (s.size : Int) := by omega
          have HVt : Hid (V = true) := hid0 (by
            have h := HA.out
            have h2 := HS.out
            rw [List.take_of_length_le (by omega)] at h
            rw [HV.out, h])
          clear HA HV HG HS
          go_wp2
          go_ret
          exact ⟨by rw [HVt.out]; rfl, rfl⟩
end Go.Proofs.YtcbepmjojppokaaDoor
