/-
  The walks of locale's Canon, withoutLast, Cut; caesuralaw7.LocaleTags.
-/
import Derived.Test.YtbdjnmbhphflbaaGreatDoorLtCW
import Derived.Test.YtbdjnmbhphflbaaGreatDoorLt9W
namespace Go.Proofs.YtbdjnmbhphflbaaGreatDoor
open Go.RowKit Go.Shelf Go.Lib
def canE (A : Nat → Addr) : Option (List UInt8) → Value
  | some c => .tuple #[.string (strOf c), .nilIface]
  | none => .tuple #[.string ⟨#[]⟩, .iface 192 (.pointer (some (A 1)))]
set_option maxRecDepth 10000 in
set_option maxHeartbeats 800000 in
theorem canon_any (A : Nat → Addr) (s : ByteArray) (w : World) (hm : Mx w) (hT : Tb w) (he : Sents w A) : Calls Tryz.prog 13 #[.string s] w fun e w' => e = .returned (canE A (tagF s.data.toList)) ∧ Below w.heap.size w w' := by
  have HTL : Hid (s.data.toList.length = s.size) := hid0 (by simp)
  by_cases h64 : (64 : Int) < (s.size : Int)
  · have hv : tagF s.data.toList = none := by
      unfold tagF
      rw [if_neg]
      rintro ⟨h1, _⟩
      have h4 := HTL.out
      omega
    rw [hv]
    unfold canE
    have x1 := he.c1
    clear hm hT he hv
    go_enter Tryz.func13, Tryz.ntmps13
    go_wp2
    go_quiet ((fail))
    go_wp2
    go_returns
    exact ⟨rfl, ⟨rfl, rfl, rfl, Nat.le_refl _, fun _ _ => rfl⟩⟩
  · have hle : s.data.toList.length ≤ 64 := by rw [HTL.out]; omega
    have hLF := locale_form s.data.toList hle
    obtain ⟨F, hF⟩ : ∃ F, F = strOf (joinU (formL (pieces s.data.toList))) := ⟨_, rfl⟩
    have HO : Hid (Calls Tryz.prog 34 #[.string s] w fun e w' => e = .returned (.string F) ∧ Below w.heap.size w w') := hid0 (by rw [hF]; exact oneFormL_any s (by omega) w hm hT)
    have HI : Hid (∀ W, Below w.heap.size w W → Calls Tryz.prog 35 #[.string F] W fun e w' => e = .returned (.bool (isTagB F)) ∧ Below W.heap.size W w') := hid0 (fun W hW => isTag_any A F W (hm.below hW) (he.below hW))
    have HE : Hid (∀ W, Below w.heap.size w W → W.cell? ⟨2, 0, none⟩ = some (.iface 192 (.pointer (some (A 1))))) := hid0 (fun W hW => (he.below hW).c1)
    cases hq : tagF s.data.toList with
    | none =>
      have hi : isTagB F = false := by
        unfold isTagB
        rw [hF, strOf_data]
        simpa using hLF.1 hq
      rw [hi] at HI
      unfold canE
      clear hm hT he hq hi hF hLF
      go_enter Tryz.func13, Tryz.ntmps13
      go_wp2_with (first
        | (go_at_call 34; refine HO.out.mono ?_; rintro e w1 ⟨rfl, hb1⟩; have HB1 := hid0 hb1; clear hb1)
        | (go_at_call 35; refine (HI.out _ HB1.out).mono ?_; rintro e w2 ⟨rfl, hb2⟩; have HB2 := hid0 (Below.later HB1.out hb2); have x1 := HE.out w2 (Below.later HB1.out hb2); clear hb2))
      go_quiet ((fail))
      go_wp2
      go_returns
      exact ⟨rfl, ⟨HB2.out.os, HB2.out.tape, HB2.out.output, HB2.out.size, HB2.out.block⟩⟩
    | some c =>
      obtain ⟨h1, h2⟩ := hLF.2 c hq
      have hi : isTagB F = true := by
        unfold isTagB
        rw [hF, strOf_data, h1, h2]
        simp
      have hc : strOf c = F := by rw [hF, h1]
      rw [hi] at HI
      unfold canE
      simp only
      rw [hc]
      clear hm hT he hq hi hF hLF hc h1 h2
      go_enter Tryz.func13, Tryz.ntmps13
      go_wp2_with (first
        | (go_at_call 34; refine HO.out.mono ?_; rintro e w1 ⟨rfl, hb1⟩; have HB1 := hid0 hb1; clear hb1)
        | (go_at_call 35; refine (HI.out _ HB1.out).mono ?_; rintro e w2 ⟨rfl, hb2⟩; have HB2 := hid0 (Below.later HB1.out hb2); clear hb2))
      go_returns
      exact ⟨rfl, HB2.out⟩
set_option maxRecDepth 10000 in
set_option maxHeartbeats 400000 in
theorem without_any (s : ByteArray) (hs : s.size ≤ 1000000) (h0 : Lib.lastIndexByte s 95 ≠ 0) (w : World) : Calls Tryz.prog 37 #[.string s] w fun e w' => e = .returned (.string (cutB s)) ∧ w' = w := by
  have HL : Hid (Calls Tryz.prog 61 #[.string s, .int .u8 95] w fun e w' => e = .returned (.int .i64 (Lib.lastIndexByte s 95)) ∧ w' = w) := hid0 (Any.strings_LastIndexByte Tryz.lays149 s 95 (by omega) w)
  have hr := lastIdx_lt s 95 s.size
  have hr' : -1 ≤ Lib.lastIndexByte s 95 ∧ Lib.lastIndexByte s 95 < s.size := hr
  clear hr
  by_cases hn : Lib.lastIndexByte s 95 < 0
  · have HV : Hid (cutB s = rootB) := hid0 (by rw [cutB, if_pos (by omega)])
    generalize Lib.lastIndexByte s 95 = u at *
    go_enter Tryz.func37, Tryz.ntmps37
    go_wp2_with (go_at_call 61; refine HL.out.mono ?_; rintro e w1 ⟨rfl, rfl⟩)
    go_ret
    exact ⟨by rw [HV.out]; rfl, rfl⟩
  · have HV : Hid (cutB s = s.extract 0 (Lib.lastIndexByte s 95).toNat) := hid0 (by rw [cutB, if_neg (by omega)])
    obtain ⟨u, hu⟩ : ∃ u : Nat, Lib.lastIndexByte s 95 = (u : Int) := ⟨(Lib.lastIndexByte s 95).toNat, by omega⟩
    rw [hu] at HL HV hr' hn h0
    clear hu
    have hu1 : (u : Int) ≤ (s.size : Int) := by omega
    have hu0 : (0 : Int) ≤ (u : Int) := by omega
    go_enter Tryz.func37, Tryz.ntmps37
    go_wp2_with (go_at_call 61; refine HL.out.mono ?_; rintro e w1 ⟨rfl, rfl⟩)
    go_ret
    exact ⟨by rw [HV.out]; rfl, rfl⟩
theorem tag_head {t c : List UInt8} (h : tagF t = some c) : Lib.lastIndexByte (strOf c) 95 ≠ 0 := by
  obtain ⟨_, hv, _, hc⟩ := tagF_le h
  intro h0
  rcases Lib.lastIndexByte_spec (strOf c) 95 with ⟨e, _⟩ | ⟨i, hi, e, hb, _⟩
  · omega
  · have hi0 : i = 0 := by omega
    subst hi0
    have h1 : (strOf c).data[0]! = (strOf c)[0]'hi := byte_bang (strOf c) 0 hi
    rw [h1] at hb
    have h2 : c[0]? = some ((strOf c)[0]'hi) := by
      have := bget (strOf c) 0 hi
      rw [strOf_data] at this
      exact this
    have h95 : ((strOf c)[0]'hi) = 95 := UInt8.toNat_inj.1 (by have : (95 : UInt8).toNat = 95 := rfl; omega)
    rw [h95] at h2
    simp only [validP, Bool.and_eq_true, decide_eq_true_eq] at hv
    cases hq : pieces t with
    | nil => exact absurd hq (pieces_ne t)
    | cons p r =>
      rw [hq] at hv hc
      simp only [List.headD_cons] at hv
      have hpl := hv.1.2
      cases p with
      | nil => simp at hpl
      | cons b p =>
        have hb1 : isL b = true := by have := hv.1.1.2; simp at this; exact this.1
        have hc0 : c[0]? = some (lowerB b) := by
          rw [hc]
          cases r with
          | nil => simp [canonP, joinU_one]
          | cons q r => simp [canonP, joinU_cons]
        rw [hc0] at h2
        have h3 := Option.some.inj h2
        have h4 := L_lo b
        rw [h3, hb1] at h4
        revert h4
        decide
noncomputable def cutE (A : Nat → Addr) : Option (List UInt8) → Value
  | some c => if c = rootL then .tuple #[.string ⟨#[]⟩, .iface 192 (.pointer (some (A 5)))] else .tuple #[.string (cutB (strOf c)), .nilIface]
  | none => .tuple #[.string ⟨#[]⟩, .iface 192 (.pointer (some (A 1)))]
set_option maxRecDepth 10000 in
set_option maxHeartbeats 800000 in
theorem cut_any (A : Nat → Addr) (s : ByteArray) (w : World) (hm : Mx w) (hT : Tb w) (he : Sents w A) : Calls Tryz.prog 15 #[.string s] w fun e w' => e = .returned (cutE A (tagF s.data.toList)) ∧ Below w.heap.size w w' := by
  have HC := hid0 (canon_any A s w hm hT he)
  have HE : Hid (∀ W, Below w.heap.size w W → W.cell? ⟨7, 0, none⟩ = some (.iface 192 (.pointer (some (A 5))))) := hid0 (fun W hW => (he.below hW).c5)
  clear hm hT he
  cases hq : tagF s.data.toList with
  | none =>
    rw [hq] at HC
    have HC2 : Hid (Calls Tryz.prog 13 #[.string s] w fun e w' => e = .returned (.tuple #[.string ⟨#[]⟩, .iface 192 (.pointer (some (A 1)))]) ∧ Below w.heap.size w w') := HC
    unfold cutE
    clear HC hq
    go_enter Tryz.func15, Tryz.ntmps15
    go_wp2_with (first | (go_at_call 13; refine HC2.out.mono ?_; rintro e w1 ⟨rfl, hb1⟩) | fail)
    go_returns
    exact ⟨rfl, hb1⟩
  | some c =>
    rw [hq] at HC
    have HC2 : Hid (Calls Tryz.prog 13 #[.string s] w fun e w' => e = .returned (.tuple #[.string (strOf c), .nilIface]) ∧ Below w.heap.size w w') := HC
    have hle := (tagF_le hq).1
    have HW : Hid (∀ W, Calls Tryz.prog 37 #[.string (strOf c)] W fun e w' => e = .returned (.string (cutB (strOf c))) ∧ w' = W) := hid0 (fun W => without_any (strOf c) (by rw [strOf_size]; omega) (tag_head hq) W)
    have hrt := root_beq c
    by_cases hr : c = rootL
    · have hv : cutE A (some c) = .tuple #[.string ⟨#[]⟩, .iface 192 (.pointer (some (A 5)))] := by rw [cutE, if_pos hr]
      rw [hv]
      have hrt' : ((strOf c).toList == [114, 111, 111, 116]) = true := by rw [hrt]; simpa using hr
      generalize strOf c = C at *
      clear HC hq hrt hv hr hle
      go_enter Tryz.func15, Tryz.ntmps15
      go_wp2_with (first | (go_at_call 13; refine HC2.out.mono ?_; rintro e w1 ⟨rfl, hb1⟩; have x1 := HE.out w1 hb1) | fail)
      go_quiet ((fail))
      go_wp2
      go_returns
      exact ⟨rfl, ⟨hb1.os, hb1.tape, hb1.output, hb1.size, hb1.block⟩⟩
    · have hv : cutE A (some c) = .tuple #[.string (cutB (strOf c)), .nilIface] := by rw [cutE, if_neg hr]
      rw [hv]
      have hrt' : ((strOf c).toList == [114, 111, 111, 116]) = false := by rw [hrt]; simpa using hr
      generalize cutB (strOf c) = C2 at *
      generalize strOf c = C at *
      clear HC hq hrt hv hr hle
      go_enter Tryz.func15, Tryz.ntmps15
      go_wp2_with (first
        | (go_at_call 13; refine HC2.out.mono ?_; rintro e w1 ⟨rfl, hb1⟩)
        | (go_at_call 37; refine (HW.out _).mono ?_; rintro e w2 ⟨rfl, rfl⟩))
      go_returns
      exact ⟨rfl, hb1⟩
end Go.Proofs.YtbdjnmbhphflbaaGreatDoor
