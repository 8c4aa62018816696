/-
  The walks of caesuraref7's Canon, cut, Cut.
-/
import Derived.Test.YtbdjnmbhphflbaaGreatDoorLt4W
namespace Go.Proofs.YtbdjnmbhphflbaaGreatDoor
open Go.RowKit Go.Shelf Go.Lib
def canV : Option (List UInt8) → Value
  | some c => .tuple #[.string (strOf c), .int .i64 0]
  | none => .tuple #[.string ⟨#[]⟩, .int .i64 2]
set_option maxRecDepth 10000 in
set_option maxHeartbeats 400000 in
theorem refCanon_any (s : ByteArray) (w : World) : Calls Tryz.prog 39 #[.string s] w fun e w' => e = .returned (canV (tagF s.data.toList)) ∧ Below w.heap.size w w' := by
  have HT := hid0 (refTag_any s w)
  cases hq : tagF s.data.toList with
  | none =>
    rw [hq] at HT
    have HT2 : Hid (Calls Tryz.prog 64 #[.string s] w fun e w' => e = .returned (.tuple #[.string ⟨#[]⟩, .bool false]) ∧ Below w.heap.size w w') := HT
    clear HT hq
    go_enter Tryz.func39, Tryz.ntmps39
    go_wp2_with (go_at_call 64; refine HT2.out.mono ?_; rintro e w1 ⟨rfl, hb1⟩)
    go_returns
    exact ⟨rfl, hb1⟩
  | some c =>
    rw [hq] at HT
    have HT2 : Hid (Calls Tryz.prog 64 #[.string s] w fun e w' => e = .returned (.tuple #[.string (strOf c), .bool true]) ∧ Below w.heap.size w w') := HT
    clear HT hq
    unfold canV
    simp only
    generalize strOf c = C at *
    go_enter Tryz.func39, Tryz.ntmps39
    go_wp2_with (go_at_call 64; refine HT2.out.mono ?_; rintro e w1 ⟨rfl, hb1⟩)
    go_returns
    exact ⟨rfl, hb1⟩
def cutB (s : ByteArray) : ByteArray := if Lib.lastIndexByte s 95 ≤ 0 then rootB else s.extract 0 (Lib.lastIndexByte s 95).toNat
/-- Where the last _ stands among the first k bytes; 0, if nowhere. -/
def lastU (s : ByteArray) (k : Nat) : Nat := (Lib.lastIdx s 95 k).toNat
theorem lastIdx_lt (s : ByteArray) (c : Int) (k : Nat) : -1 ≤ Lib.lastIdx s c k ∧ Lib.lastIdx s c k < k := by
  rcases Lib.lastIdx_spec s c k with ⟨e, _⟩ | ⟨i, hi, e, _⟩ <;> rw [e] <;> omega
theorem byte_bang (s : ByteArray) (k : Nat) (h : k < s.size) : s.data[k]! = s[k] := LastIndex.byteBang s k h
theorem lastU_next (s : ByteArray) (k : Nat) (h : k < s.size) : lastU s (k + 1) = if (s[k].toNat : Int) = 95 then k else lastU s k := by
  unfold lastU
  rw [Lib.lastIdx, byte_bang s k h]
  split <;> simp
set_option maxRecDepth 10000 in
set_option maxHeartbeats 800000 in
theorem refCut_any (s : ByteArray) (hs : s.size ≤ 1000000) (w : World) : Calls Tryz.prog 65 #[.string s] w fun e w' => e = .returned (.string (cutB s)) ∧ w' = w := by
  go_enter Tryz.func65, Tryz.ntmps65
  go_wp2
  go_loopw [3, 4] (fun v i wr => ∃ k : Nat, k ≤ s.size ∧ i = .int .i64 (k : Int) ∧ v = .int .i64 (lastU s k : Int) ∧ wr = w) (fun _ i _ => s.size - (intOf i).toNat)
  case atStart => exact ⟨0, Nat.zero_le _, rfl, rfl, rfl⟩
  case round =>
    obtain ⟨k, hk, rfl, rfl, rfl⟩ := hrel
    by_cases hlt : k < s.size
    · have HN := hid0 (lastU_next s k hlt)
      have hkI : (k : Int) < (s.size : Int) := by omega
      have hkI0 : (0 : Int) ≤ (k : Int) := by omega
      obtain ⟨hx0, hx1⟩ := byteI s[k]
      by_cases h95 : (s[k].toNat : Int) = 95
      · have hb : ((s[k].toNat : Int) == 95) = true := by simpa using h95
        have HV : Hid (lastU s (k + 1) = k) := hid0 (by rw [HN.out, if_pos h95])
        generalize lastU s k = u at *
        go_wp2
        go_roundw
        case rel => exact ⟨k + 1, hlt, by go_num, by rw [HV.out], trivial⟩
        case measure => simp [intOf]; omega
      · have hb : ((s[k].toNat : Int) == 95) = false := by simpa using h95
        have HV : Hid (lastU s (k + 1) = lastU s k) := hid0 (by rw [HN.out, if_neg h95])
        generalize lastU s k = u at *
        go_wp2
        go_roundw
        case rel => exact ⟨k + 1, hlt, by go_num, by rw [HV.out], trivial⟩
        case measure => simp [intOf]; omega
    · have hkI : ¬ (k : Int) < (s.size : Int) := by omega
      have hkn : k = s.size := by omega
      have h1 := lastIdx_lt s 95 k
      have HU : Hid (lastU s k = (Lib.lastIndexByte s 95).toNat) := hid0 (by rw [hkn]; rfl)
      by_cases h0 : (lastU s k : Int) = 0
      · have hb : ((lastU s k : Int) == 0) = true := by simpa using h0
        have HV : Hid (cutB s = rootB) := hid0 (by rw [cutB, if_pos]; have := HU.out; omega)
        generalize lastU s k = u at *
        go_wp2
        go_ret
        exact ⟨by rw [HV.out]; rfl, rfl⟩
      · have hb : ((lastU s k : Int) == 0) = false := by simpa using h0
        have HV : Hid (cutB s = s.extract 0 (lastU s k)) := hid0 (by rw [cutB, if_neg, HU.out]; have := HU.out; omega)
        have hu1 : (lastU s k : Int) ≤ (s.size : Int) := by unfold lastU; omega
        have hu0 : (0 : Int) ≤ (lastU s k : Int) := by omega
        generalize lastU s k = u at *
        go_wp2
        go_ret
        exact ⟨by rw [HV.out]; rfl, rfl⟩
noncomputable def cutV : Option (List UInt8) → Value
  | some c => if c = rootL then .tuple #[.string ⟨#[]⟩, .int .i64 7] else .tuple #[.string (cutB (strOf c)), .int .i64 0]
  | none => .tuple #[.string ⟨#[]⟩, .int .i64 2]
theorem tagF_le {t c : List UInt8} (h : tagF t = some c) : c.length ≤ 64 ∧ validP (pieces t) = true ∧ t.length ≤ 64 ∧ c = joinU (canonP (pieces t)) := by
  unfold tagF at h
  split at h
  · rename_i hc
    simp only [Option.some.injEq] at h
    refine ⟨?_, hc.2, hc.1, h.symm⟩
    rw [← h, join_len _ _ (canonP_lens (pieces t)), join_pieces]
    simpa using hc.1
  · cases h
theorem root_beq (c : List UInt8) : ((strOf c).toList == [114, 111, 111, 116]) = decide (c = rootL) := by
  rw [← rootB_list, str_eq]
  exact decide_eq_decide.2 (strOf_root _)
end Go.Proofs.YtbdjnmbhphflbaaGreatDoor
