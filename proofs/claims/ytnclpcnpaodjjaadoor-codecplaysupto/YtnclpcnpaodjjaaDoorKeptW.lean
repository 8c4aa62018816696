/-
  The walk of caesuralaw1.kept.
-/
import Derived.Test.YtnclpcnpaodjjaaDoorKitW
import Derived.Deep.QuietTactic
import Derived.BigQuiet
namespace Go.Proofs.YtnclpcnpaodjjaaDoor
open Go.RowKit
set_option maxRecDepth 10000 in
set_option maxHeartbeats 400000 in
theorem kept_any (s : ByteArray) (b off cap : Nat) (w : World) (hs : s.size ≤ 140737488351232)
    (hc : ∀ k (h : k < (s.data.toList ++ marks 64).length), w.cell? ⟨b, off + k, none⟩ = some (.int .u8 ((s.data.toList ++ marks 64)[k].toNat : Int))) :
    Calls Tryd.prog 10 #[.slice (some ⟨b, off, none⟩) (s.size + 64) cap, .string s] w fun e w' => e = .returned (.bool true) ∧ ∃ n, w' = w.drewN n := by
  have hlen : (s.data.toList ++ marks 64).length = s.size + 64 := by simp [marks_length]
  have hA : ∀ k (h : k < s.size), w.cell? ⟨b, off + k, none⟩ = some (.int .u8 (s[k].toNat : Int)) := fun k h => by
    rw [hc k (by omega), List.getElem_append_left (by simpa using h)]; rfl
  have hB : ∀ k (h : s.size ≤ k) (h' : k < s.size + 64), w.cell? ⟨b, off + k, none⟩ = some (.int .u8 (200 + ((k : Int) - s.size) % 7)) := fun k h h' => by
    rw [hc k (by omega), List.getElem_append_right (by simpa using h)]
    have e : ((marks 64)[k - s.data.toList.length]'(by simp [marks_length]; omega)).toNat = 200 + (k - s.size) % 7 := by
      simp [marks]; omega
    rw [e]
    congr 2; omega
  clear hc hlen
  go_enter Tryd.func10, Tryd.ntmps10
  go_wp2
  go_loopw [5] (fun i wr => ∃ k n : Nat, k ≤ s.size + 64 ∧ i = .int .i64 k ∧ wr = w.drewN n) (fun i _ => s.size + 64 - (intOf i).toNat)
  case atStart => exact ⟨0, 0, Nat.zero_le _, rfl, rfl⟩
  case round =>
    obtain ⟨k, n, hk, rfl, rfl⟩ := hrel
    by_cases hlt : k < s.size
    · have hck := hA k hlt
      have hd : decide (s.size ≤ k) = false := by simpa using hlt
      clear hA hB
      go_wp2
      go_quiet ((fail))
      go_wp2
      go_roundw
      case rel => exact ⟨k + 1, _, by omega, by go_num, rfl⟩
      case measure => simp [intOf]; omega
    · by_cases hl2 : k < s.size + 64
      · have hck := hB k (by omega) hl2
        have hd : decide (k < s.size) = false := by simpa using hlt
        have hd2 : decide (s.size ≤ k) = true := by simp; omega
        clear hA hB
        go_wp2
        go_quiet ((fail))
        go_wp2
        go_roundw
        case rel => exact ⟨k + 1, _, by omega, by go_num, rfl⟩
        case measure => simp [intOf]; omega
      · have hk64 : k = s.size + 64 := by omega
        subst hk64
        clear hA hB
        go_wp2
        go_ret
        exact ⟨by simp, n, rfl⟩
end Go.Proofs.YtnclpcnpaodjjaaDoor
