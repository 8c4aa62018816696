/-
  The walks of caesuraref5's Names, Number.
-/
import Derived.Test.YtpimameogmkpcaaDoorPbR4W
namespace Go.Proofs.YtpimameogmkpcaaDoor
open Go.RowKit Go.Shelf
theorem RTab.cells {w : World} {lo U : Nat} {L : List ByteArray} {ss : List Sp} {vN vS : Value} (h : RTab w lo U L ss vN vS) : w.cell? ⟨U, 0, none⟩ = some vN ∧ w.cell? ⟨U, 1, none⟩ = some vS := ⟨by rw [cell_of_row _ _ _ _ _ _ h.row]; rfl, by rw [cell_of_row _ _ _ _ _ _ h.row]; rfl⟩
theorem OwnS.nil_cap {w : World} {base : Nat} {L : List ByteArray} {c n : Nat} (h : OwnS w base (.slice none n c) L) : c = 0 := by
  rcases h.2 with ⟨e, _⟩ | ⟨g, cap, cur, e, _⟩
  · cases e; rfl
  · cases e
set_option maxRecDepth 10000 in
set_option maxHeartbeats 1600000 in
theorem refTabNames_any (w : World) (lo U : Nat) (L : List ByteArray) (ss : List Sp) (vN vS : Value) (hl : L.length ≤ 62) (h : RTab w lo U L ss vN vS) :
    Calls Tryd.prog 23 #[.pointer (some ⟨U, 0, none⟩)] w fun e w' => ∃ v, e = .returned v ∧ OwnS w' w.heap.size v (otherB :: L) ∧ Below w.heap.size w w' := by
  obtain ⟨y0, _⟩ := h.cells
  obtain ⟨aN, cN, rfl, hsa, _, _⟩ := h.names.sa
  have hB1 : Below w.heap.size w (w.alloc (.cells #[.string ⟨#[79, 116, 104, 101, 114]⟩] 9)) := (Below.refl _ _).alloc (Nat.le_refl _) _
  have HNIL : Hid (aN = none → cN = 0) := hid0 (fun e => by subst e; exact h.names.nil_cap)
  have HSA : Hid (SA (w.alloc (.cells #[.string ⟨#[79, 116, 104, 101, 114]⟩] 9)) aN L) := hid0 (hsa.below hB1)
  have HOW : Hid (OwnS (w.alloc (.cells #[.string ⟨#[79, 116, 104, 101, 114]⟩] 9)) w.heap.size (.slice (some ⟨w.heap.size, 0, none⟩) [otherB].length 1) [otherB]) := hid0 (World.ownsRow_lit w #[.string ⟨#[79, 116, 104, 101, 114]⟩] 1 (Nat.le_refl _) (by unfold maxLen; omega) rfl)
  have x0 : (w.alloc (.cells #[.string ⟨#[79, 116, 104, 101, 114]⟩] 9)).cell? ⟨U, 0, none⟩ = some (.slice aN L.length cN) := cell_alloc y0 _
  have HB1 := hid0 hB1
  have HSZ : Hid (w.heap.size ≤ (w.alloc (.cells #[.string ⟨#[79, 116, 104, 101, 114]⟩] 9)).heap.size) := hid0 (by simp)
  clear h hsa hB1
  go_enter Tryd.func23, Tryd.ntmps23
  go_wp2_with (at_builtin; refine wpList_spreadOn (by rfl) _ _ (by rfl) ⟨w.heap.size, 0, none⟩ [otherB] 1 aN L cN w.heap.size (by rfl) (by simp) HOW.out (by rfl) HNIL.out HSA.out (by simp; omega) HSZ.out ?_; intro vC w5 hoC hgC; have HOC := hid0 hoC; have HGC := hid0 hgC; clear hoC hgC)
  go_ret
  exact ⟨_, rfl, HOC.out, ⟨HGC.out.os.trans HB1.out.os, HGC.out.tape.trans HB1.out.tape, HGC.out.output.trans HB1.out.output, Nat.le_trans HB1.out.size HGC.out.size, fun k hk => (HGC.out.block k (Nat.lt_of_lt_of_le hk HB1.out.size) (by simp; omega)).trans (HB1.out.block k hk)⟩⟩
set_option maxRecDepth 10000 in
set_option maxHeartbeats 1600000 in
theorem refNumber_any (w : World) (lo U : Nat) (L : List ByteArray) (ss : List Sp) (vN vS : Value) (x : ByteArray) (hl : L.length ≤ 62) (h : RTab w lo U L ss vN vS) :
    Calls Tryd.prog 26 #[.pointer (some ⟨U, 0, none⟩), .string x] w fun e w' => e = .returned (.int .i64 (Lib.idxOfS (otherB :: L) x)) ∧ Below w.heap.size w w' := by
  have HNM := hid0 (refTabNames_any w lo U L ss vN vS hl h)
  have hM : (otherB :: L).length ≤ 63 := by simp; omega
  generalize otherB :: L = M at *
  clear h hl
  go_enter Tryd.func26, Tryd.ntmps26
  go_wp2_with (go_at_call 23; refine HNM.out.mono ?_; rintro e w1 ⟨v, rfl, hown, hbel⟩; obtain ⟨aM, cM, rfl, hsa, hj1, hj2⟩ := hown.sa; clear hj1 hj2; have HS := hid0 hsa; have HB := hid0 hbel; clear hown hsa hbel HNM)
  go_loopw [6] (fun i wr => ∃ k : Nat, k ≤ M.length ∧ i = .int .i64 (k : Int) ∧ (∀ j, j < k → M.getD j ByteArray.empty ≠ x) ∧ wr = w1) (fun i _ => M.length - (intOf i).toNat)
  case atStart => exact ⟨0, Nat.zero_le _, rfl, fun j hj => absurd hj (Nat.not_lt_zero _), rfl⟩
  case round =>
    obtain ⟨k, hk, rfl, hall, rfl⟩ := hrel
    have HA := hid0 hall
    clear hall
    by_cases hlt : k < M.length
    · obtain ⟨b, off, rfl, _, hc⟩ := HS.out.at' k hlt
      have hkI : (k : Int) < (M.length : Int) := by omega
      have hkI0 : (0 : Int) ≤ (k : Int) := by omega
      have hgd : M.getD k ByteArray.empty = M[k] := by simp [List.getD, hlt]
      by_cases he : M[k] = x
      · have HV : Hid (Lib.idxOfS M x = (k : Int)) := hid0 (by
          have := Lib.idxFromS_hit x M k 0 hlt (hgd.trans he) HA.out
          rw [Lib.idxOfS, this]; simp)
        rw [he] at hc
        clear HA hgd he HS
        go_wp2
        go_ret
        exact ⟨by rw [HV.out]; rfl, HB.out⟩
      · have HN : Hid (∀ j, j < k + 1 → M.getD j ByteArray.empty ≠ x) := hid0 (fun j hj => by
          by_cases e : j = k
          · subst e; rw [hgd]; exact he
          · exact HA.out j (by omega))
        have hne := str_beq _ _ he
        clear HA hgd he HS
        go_wp2
        go_roundw
        case rel => exact ⟨k + 1, hlt, by go_num, HN.out, trivial⟩
        case measure => simp [intOf]; omega
    · have hkI : ¬ (k : Int) < (M.length : Int) := by omega
      have HV : Hid (Lib.idxOfS M x = -1) := hid0 (by
        have hkn : k = M.length := by omega
        exact Lib.idxFromS_miss x M 0 (fun j hj => HA.out j (by omega)))
      clear HA HS
      go_wp2
      go_ret
      exact ⟨by rw [HV.out]; rfl, HB.out⟩
end Go.Proofs.YtpimameogmkpcaaDoor
