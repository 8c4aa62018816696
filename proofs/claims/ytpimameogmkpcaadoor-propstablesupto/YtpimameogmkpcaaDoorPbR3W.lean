/-
  The walk of caesuraref5's Class.
-/
import Derived.Test.YtpimameogmkpcaaDoorPbNwW
namespace Go.Proofs.YtpimameogmkpcaaDoor
open Go.RowKit
set_option maxRecDepth 10000 in
set_option maxHeartbeats 1600000 in
theorem refClass_any (N : Int) (w : World) (U : Nat) (ss : List Sp) (a : Option Addr) (cap : Nat) (p : Int) (hl : ss.length ≤ 1000000000) (hR : Rise N ss) (hN : N ≤ 254) (h1 : w.cell? ⟨U, 1, none⟩ = some (.slice a ss.length cap)) (hp : PA w a ss) :
    Calls Tryd.prog 22 #[.pointer (some ⟨U, 0, none⟩), .int .i64 p] w fun e w' => e = .returned (.int .i64 (cls ss p)) ∧ w' = w := by
  have HS := hid0 hp
  have HR := hid0 hR
  clear hp hR
  go_enter Tryd.func22, Tryd.ntmps22
  go_wp2
  go_loopw [5] (fun i wr => ∃ k : Nat, k ≤ ss.length ∧ i = .int .i64 (k : Int) ∧ Hid (cls ss p = cls (ss.drop k) p) ∧ wr = w) (fun i _ => ss.length - (intOf i).toNat)
  case atStart => exact ⟨0, Nat.zero_le _, rfl, hid0 (by simp), rfl⟩
  case round =>
    obtain ⟨k, hk, rfl, HK, rfl⟩ := hrel
    by_cases hlt : k < ss.length
    · obtain ⟨b, off, rfl, _, c0, c1, c2⟩ := HS.out.at' k hlt
      have hkI : (k : Int) < (ss.length : Int) := by omega
      have hkI0 : (0 : Int) ≤ (k : Int) := by omega
      have hnm := (HR.out.one ss[k] (List.getElem_mem hlt)).2.2.2
      have HF : Hid (cls ss p = if hits p ss[k] then ss[k].2.2 + 1 else cls (ss.drop (k + 1)) p) := hid0 (by rw [HK.out, List.drop_eq_getElem_cons hlt, cls_cons])
      clear HK
      obtain ⟨s, hs⟩ : ∃ s, ss[k] = s := ⟨_, rfl⟩
      rw [hs] at c0 c1 c2 HF hnm
      obtain ⟨lo, hi', nm⟩ := s
      simp only at c0 c1 c2 hnm
      obtain ⟨hn0, hn1⟩ := hnm
      clear hs
      by_cases t1 : lo ≤ p
      · by_cases t2 : p ≤ hi'
        · have HV : Hid (cls ss p = nm + 1) := hid0 (by rw [HF.out, if_pos ((hits_iff _ _).2 ⟨t1, t2⟩)])
          clear HF
          have hwr : IntKind.i64.wrap (nm + 1) = nm + 1 := by simp [IntKind.wrap, IntKind.bits, IntKind.signed]; omega
          go_wp2
          go_ret
          exact ⟨by rw [HV.out]; rfl, rfl⟩
        · have HV : Hid (cls ss p = cls (ss.drop (k + 1)) p) := hid0 (by rw [HF.out, if_neg (by rw [hits_iff]; simp only; omega)])
          clear HF
          go_wp2
          go_roundw
          case rel => exact ⟨k + 1, by omega, by go_num, HV, trivial⟩
          case measure => simp [intOf]; omega
      · have HV : Hid (cls ss p = cls (ss.drop (k + 1)) p) := hid0 (by rw [HF.out, if_neg (by rw [hits_iff]; simp only; omega)])
        clear HF
        go_wp2
        go_roundw
        case rel => exact ⟨k + 1, by omega, by go_num, HV, trivial⟩
        case measure => simp [intOf]; omega
    · have hkI : ¬ (k : Int) < (ss.length : Int) := by omega
      have HV : Hid (cls ss p = 0) := hid0 (by rw [HK.out, List.drop_of_length_le (by omega)]; rfl)
      go_wp2
      go_ret
      exact ⟨by rw [HV.out]; rfl, rfl⟩
end Go.Proofs.YtpimameogmkpcaaDoor
