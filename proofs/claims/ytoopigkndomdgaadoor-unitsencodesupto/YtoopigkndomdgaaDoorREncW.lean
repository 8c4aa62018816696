/-
  The walk of caesuraref2.Encode.
-/
import Derived.Test.YtoopigkndomdgaaDoorNumsW
import Derived.Lib.AppendStr
namespace Go.Proofs.YtoopigkndomdgaaDoor
open Go.RowKit
theorem strCells_bytes (l : List UInt8) : Go.Lib.strCells ⟨l.toArray⟩ = cellsOf l := by simp [Go.Lib.strCells, cellsOf]
/-- What the reference answers. -/
def refVal (ps : List Int) : Value := if ps.all scalarP then .tuple #[.string ⟨(encAll ps).toArray⟩, .int .i64 0] else .tuple #[.string ⟨#[]⟩, .int .i64 1]
set_option maxRecDepth 10000 in
set_option maxHeartbeats 800000 in
theorem refEncode_any (ps : List Int) (a : Option Addr) (cap : Nat) (hl : ps.length ≤ 20000000) (w : World) (ha : PA w a ps) :
    Calls Tryd.prog 18 #[.slice a ps.length cap] w fun e w' => e = .returned (refVal ps) ∧ Below w.heap.size w w' := by
  obtain ⟨i0, hi, hz0, hz1, hz2⟩ := info_parts infoU8
  have HA := hidE ha
  clear ha
  go_enter Tryd.func18, Tryd.ntmps18
  go_wp2
  go_loopw [4, 5] (fun v i wr => ∃ k : Nat, k ≤ ps.length ∧ i = .int .i64 (k : Int) ∧ OwnB wr w.heap.size v (encAll (ps.take k)) ∧ (ps.all scalarP = (ps.drop k).all scalarP) ∧ Below w.heap.size w wr) (fun _ i _ => ps.length - (intOf i).toNat)
  case atStart => exact ⟨0, Nat.zero_le _, rfl, World.ownsRow_nil _ _ _ _, rfl, Below.refl _ _⟩
  case round =>
    obtain ⟨k, hk, rfl, hown, hall, hB⟩ := hrel
    have HO := hidE hown
    have HL := hidE hall
    have hs := hB.size
    clear hown hall
    by_cases hlt : k < ps.length
    · obtain ⟨b, off, rfl, hc⟩ := HA.out.at' k hlt
      have hbl := World.block_lt_of_cell? w _ hc
      have hck : wr.cell? ⟨b, off + k, none⟩ = some (.int .i64 ps[k]) := (hB.cell (p := ⟨b, off + k, none⟩) hbl).trans hc
      have HS := hidE (refScalar_any ps[k])
      have HT := hidE (all_step ps k hlt)
      have HN := hidE (encAll_snoc ps k hlt)
      have hlen := encAll_len (ps.take k)
      rw [List.length_take] at hlen
      have hki : (k : Int) < (ps.length : Int) := by omega
      clear hc
      cases hq : scalarP ps[k] with
      | false =>
        rw [hq] at HS HT
        have HV : Hid (refVal ps = .tuple #[.string ⟨#[]⟩, .int .i64 1]) := by show _ = _; rw [refVal, HL.out, HT.out]; rfl
        generalize ps[k] = q at *
        clear HL HT HN HO hq
        go_wp2_with (go_at_call 32; refine (HS.out _).mono ?_; rintro e w1 ⟨rfl, rfl⟩)
        go_ret2
        exact ⟨by rw [HV.out]; rfl, hB⟩
      | true =>
        rw [hq] at HS HT
        have HL2 : Hid (ps.all scalarP = (ps.drop (k + 1)).all scalarP) := by show _ = _; rw [HL.out, HT.out, Bool.true_and]
        have hq2 := hq
        simp only [scalarP, Bool.and_eq_true, Bool.or_eq_true, decide_eq_true_eq] at hq2
        obtain ⟨m, hm⟩ : ∃ m : Nat, ps[k] = (m : Int) := ⟨ps[k].toNat, by omega⟩
        rw [hm] at hck HS HN hq hq2
        rw [Int.toNat_natCast] at HN
        have hel := encL_len m
        have HOn := hidE (fun w' => refOne_any m w' (by omega))
        have hsz : (⟨(encL m).toArray⟩ : ByteArray).size = (encL m).length := by simp [ByteArray.size]
        clear HL HT hq hm
        go_wp2_with (first
          | (go_at_call 32; refine (HS.out _).mono ?_; rintro e w1 ⟨rfl, rfl⟩)
          | (go_at_call 33; refine (HOn.out _).mono ?_; rintro e w2 ⟨rfl, hb2⟩; have HO2 := hidE (HO.out.later hb2); have HB2 := hidE (hB.trans (hb2.mono hB.size)); have hs2 := hb2.size; clear hb2)
          | (at_builtin; refine Go.Lib.wpList_append_own_string _ rfl _ _ 58 9 rfl w.heap.size 5 i0 Tryd.underlying58 Tryd.underlying9 hi hz0 hz1 hz2 _ (encAll (ps.take k)).length (cellsOf (encAll (ps.take k))) rfl HO2.out ⟨(encL m).toArray⟩ rfl (by rw [hsz]; unfold maxLen; omega) (by rw [hsz]; omega) (by omega) ?_; intro v3 w3 hown3 hgrow3 _; have HO3 : Hid (OwnB w3 w.heap.size v3 (encAll (ps.take (k + 1)))) := by { show OwnB _ _ _ _; unfold OwnB; rw [HN.out, List.length_append, cellsOf_append, ← strCells_bytes (encL m), ← hsz]; exact hown3 }; have HB3 : Hid (Below w.heap.size w w3) := HB2.out.grown hgrow3 (by omega) (fun k hk => (World.ownsRow.lt HO2.out k hk).1); clear hown3 hgrow3)
          | fail)
        go_roundw
        case rel => exact ⟨k + 1, by omega, by go_num, HO3.out, HL2.out, HB3.out⟩
        case measure => simp [intOf]; omega
    · have HV : Hid (refVal ps = .tuple #[.string ⟨(encAll ps).toArray⟩, .int .i64 0]) := by show _ = _; rw [refVal, HL.out, List.drop_of_length_le (by omega)]; rfl
      have hcv := toStr HO.out
      rw [List.take_of_length_le (by omega)] at hcv
      have hki : ¬ (k : Int) < (ps.length : Int) := by omega
      go_wp2
      go_ret2
      exact ⟨by rw [HV.out]; rfl, hB⟩
end Go.Proofs.YtoopigkndomdgaaDoor
