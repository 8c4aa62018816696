/-
  What every locale of a chain is like; the walk of slices.Contains over texts.
-/
import Derived.Test.YtbdjnmbhphflbaaGreatDoorLc6W
import Derived.Lib.SlicesS
namespace Go.Proofs.YtbdjnmbhphflbaaGreatDoor
open Go.RowKit Go.Shelf Go.Lib
/-- A locale that may be cut: 64 bytes at most, and its first is not _. -/
structure Gd (x : ByteArray) : Prop where
  size : x.size ≤ 64
  head : ((x.data[0]!).toNat : Int) ≠ 95
theorem Gd.last {x : ByteArray} (h : Gd x) : Lib.lastIndexByte x 95 ≠ 0 := by
  intro h0
  rcases Lib.lastIndexByte_spec x 95 with ⟨e, _⟩ | ⟨i, hi, e, hb, _⟩
  · omega
  · have hi0 : i = 0 := by omega
    subst hi0
    exact h.head hb
theorem gd_root : Gd rootB := ⟨by decide, by decide⟩
theorem gd_cut {x : ByteArray} (h : Gd x) : Gd (cutB x) := by
  unfold cutB
  split
  · exact gd_root
  · rename_i hn
    have h1 := lastIdx_lt x 95 x.size
    have h2 : Lib.lastIndexByte x 95 < x.size := h1.2
    obtain ⟨k, hk⟩ : ∃ k : Nat, Lib.lastIndexByte x 95 = (k : Int) := ⟨(Lib.lastIndexByte x 95).toNat, by omega⟩
    rw [hk] at hn h2 ⊢
    have hsz : (x.extract 0 k).size = k := by simp [ByteArray.size_extract]; omega
    have hs := h.size
    refine ⟨by simp only [Int.toNat_natCast]; omega, ?_⟩
    have e : ((x.extract 0 k).data[0]!) = x.data[0]! := by
      rw [byte_bang _ 0 (by omega), byte_bang x 0 (by omega)]
      simp [ByteArray.getElem_extract]
    simp only [Int.toNat_natCast, e]
    exact h.head
theorem tag_first {t c : List UInt8} (h : tagF t = some c) : (((strOf c).data[0]!).toNat : Int) ≠ 95 ∧ (strOf c).size ≤ 64 := by
  obtain ⟨_, hv, hle, hc⟩ := tagF_le h
  refine ⟨fun hb => ?_, by rw [strOf_size]; omega⟩
  simp only [validP, Bool.and_eq_true, decide_eq_true_eq] at hv
  cases hq : pieces t with
  | nil => exact absurd hq (pieces_ne t)
  | cons p r =>
    rw [hq] at hv hc
    simp only [List.headD_cons] at hv
    have hpl := hv.1.2
    cases p with
    | nil => simp at hpl
    | cons b p =>
      have hb1 : isL b = true := by have := hv.1.1.2; simp at this; exact this.1
      have hc0 : c[0]? = some (lowerB b) := by
        rw [hc]
        cases r with
        | nil => simp [canonP, joinU_one]
        | cons q r => simp [canonP, joinU_cons]
      have hi : 0 < (strOf c).size := by
        rw [strOf_size]
        cases c with
        | nil => simp at hc0
        | cons x c => simp
      have h2 : c[0]? = some ((strOf c)[0]'hi) := by
        have := bget (strOf c) 0 hi
        rw [strOf_data] at this
        exact this
      rw [byte_bang (strOf c) 0 hi] at hb
      have h95 : ((strOf c)[0]'hi) = 95 := UInt8.toNat_inj.1 (by have : (95 : UInt8).toNat = 95 := rfl; omega)
      rw [h95, hc0] at h2
      have h3 := Option.some.inj h2
      have h4 := L_lo b
      rw [h3, hb1] at h4
      revert h4
      decide
theorem gd_tag {t c : List UInt8} (h : tagF t = some c) : Gd (strOf c) := ⟨(tag_first h).2, (tag_first h).1⟩
theorem gd_isTag {s : ByteArray} (h : isTagB s = true) : Gd s := by
  have h1 := gd_tag (of_decide_eq_true h)
  have e : strOf s.data.toList = s := by simp [strOf]
  rwa [e] at h1
theorem str_beqF (a b : ByteArray) (h : ¬ a = b) : (a.toList == b.toList) = false := by
  rw [str_eq]; exact decide_eq_false h
set_option maxRecDepth 10000 in
set_option maxHeartbeats 800000 in
theorem indexS_any (L : List ByteArray) (a : Option Addr) (cap : Nat) (x : ByteArray) (w : World) (hl : L.length ≤ 1000000000000) (ha : SA w a L) :
    Calls Tryz.prog 47 #[.slice a L.length cap, .string x] w fun e w' => e = .returned (.int .i64 (Lib.idxOfS L x)) ∧ w' = w := by
  have HS := hid0 ha
  clear ha
  go_enter Tryz.func47, Tryz.ntmps47
  go_wp2
  go_loopw [8] (fun i wr => ∃ k : Nat, k ≤ L.length ∧ i = .int .i64 (k : Int) ∧ (∀ j, j < k → L.getD j ByteArray.empty ≠ x) ∧ wr = w) (fun i _ => L.length - (intOf i).toNat)
  case atStart => exact ⟨0, Nat.zero_le _, rfl, fun j hj => absurd hj (Nat.not_lt_zero _), rfl⟩
  case round =>
    obtain ⟨k, hk, rfl, hall, rfl⟩ := hrel
    have HA := hid0 hall
    clear hall
    by_cases hlt : k < L.length
    · obtain ⟨b, off, rfl, _, hc⟩ := HS.out.at' k hlt
      have hkI : (k : Int) < (L.length : Int) := by omega
      have hkI0 : (0 : Int) ≤ (k : Int) := by omega
      have hgd : L.getD k ByteArray.empty = L[k] := by simp [List.getD, hlt]
      by_cases he : L[k] = x
      · have HV : Hid (Lib.idxOfS L x = (k : Int)) := hid0 (by
          have := Lib.idxFromS_hit x L k 0 hlt (hgd.trans he) HA.out
          rw [Lib.idxOfS, this]; simp)
        rw [he] at hc
        clear HA hgd he HS
        go_wp2
        go_ret
        exact ⟨by rw [HV.out]; rfl, rfl⟩
      · have HN : Hid (∀ j, j < k + 1 → L.getD j ByteArray.empty ≠ x) := hid0 (fun j hj => by
          by_cases e : j = k
          · subst e; rw [hgd]; exact he
          · exact HA.out j (by omega))
        have hne := str_beqF _ _ (fun e => he e.symm)
        clear HA hgd he HS
        go_wp2
        go_roundw
        case rel => exact ⟨k + 1, hlt, by go_num, HN.out, trivial⟩
        case measure => simp [intOf]; omega
    · have hkI : ¬ (k : Int) < (L.length : Int) := by omega
      have HV : Hid (Lib.idxOfS L x = -1) := hid0 (by
        have hkn : k = L.length := by omega
        exact Lib.idxFromS_miss x L 0 (fun j hj => HA.out j (by omega)))
      clear HA HS
      go_wp2
      go_ret
      exact ⟨by rw [HV.out]; rfl, rfl⟩
set_option maxRecDepth 10000 in
set_option maxHeartbeats 800000 in
theorem containsS_any (L : List ByteArray) (a : Option Addr) (cap : Nat) (x : ByteArray) (w : World) (hl : L.length ≤ 1000000000000) (ha : SA w a L) :
    Calls Tryz.prog 27 #[.slice a L.length cap, .string x] w fun e w' => e = .returned (.bool (Lib.containsS L x)) ∧ w' = w := by
  have HI := hid0 (indexS_any L a cap x w hl ha)
  have HV : Hid (Lib.containsS L x = decide (0 ≤ Lib.idxOfS L x)) := hid0 rfl
  generalize Lib.idxOfS L x = q at *
  generalize Lib.containsS L x = r at *
  clear ha
  go_enter Tryz.func27, Tryz.ntmps27
  go_wp2_with (go_at_call 47; refine HI.out.mono ?_; rintro e w1 ⟨rfl, rfl⟩)
  go_ret
  exact ⟨by rw [HV.out]; simp, rfl⟩
end Go.Proofs.YtbdjnmbhphflbaaGreatDoor
