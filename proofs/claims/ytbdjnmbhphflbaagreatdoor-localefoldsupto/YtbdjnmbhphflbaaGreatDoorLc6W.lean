/-
  The walk of locale's parentOf.
-/
import Derived.Test.YtbdjnmbhphflbaaGreatDoorLc5W
namespace Go.Proofs.YtbdjnmbhphflbaaGreatDoor
open Go.RowKit Go.Shelf Go.Lib
/-- The parent of a locale. -/
noncomputable def parL (L : List Sec) (t : ByteArray) : ByteArray := match secOf L t with
  | some s => if (s.par.toList == []) = true then cutB t else s.par
  | none => cutB t
set_option maxRecDepth 10000 in
set_option maxHeartbeats 800000 in
theorem parentOf_any (L : List Sec) (a : Option Addr) (c : Nat) (t : ByteArray) (w : World) (hl : L.length ≤ 1000000) (hs : t.size ≤ 1000000) (h0 : Lib.lastIndexByte t 95 ≠ 0) (ha : XA w a L) :
    Calls Tryz.prog 26 #[.agg #[.slice a L.length c], .string t] w fun e w' => e = .returned (.string (parL L t)) ∧ Below w.heap.size w w' := by
  obtain ⟨wa, hwa⟩ : ∃ wa, wa = w.alloc (.cells #[.slice a L.length c] 24) := ⟨_, rfl⟩
  have b0a : Below w.heap.size w wa := by rw [hwa]; exact (Below.refl _ _).alloc (Nat.le_refl _) _
  have r0 : wa.heap[w.heap.size]? = some (.cells #[.slice a L.length c] 24 (0, 0)) := by rw [hwa]; exact heap_alloc_new w _
  have x0 : wa.cell? ⟨w.heap.size, 0, none⟩ = some (.slice a L.length c) := by rw [cell_of_row _ _ _ _ _ _ r0]; rfl
  have HS := hid0 (sectionOf_any L a c t wa hl (ha.later b0a))
  have HW := hid0 (fun W => without_any t hs h0 W)
  have HB := hid0 b0a
  have hfd : ∀ (l p : ByteArray) (ae : Option Addr) (n ce : Nat) (w : World), (Instr.field 27 (.agg #[.string l, .string p, .slice ae n ce]) 1).run Tryz.prog w = .ok (.string p) w := fun _ _ _ _ _ _ => by kernel_rfl
  have hf1 := hwa.symm
  clear ha hwa b0a r0 hs h0
  obtain ⟨R, hR⟩ : ∃ R, R = parL L t := ⟨_, rfl⟩
  rw [← hR]
  unfold parL at hR
  cases hq : secOf L t with
  | none =>
    rw [hq] at hR HS
    simp only at hR
    have HR := hid0 hR
    have hem : ((⟨#[]⟩ : ByteArray).toList == []) = true := (empty_beq []).trans (by simp)
    clear hR hq
    go_enter Tryz.func26, Tryz.ntmps26
    go_wp2_with (first
      | (go_at_call 30; refine HS.out.mono ?_; rintro e w1 ⟨⟨v, rfl, hv⟩, hb1⟩; have hv2 : v = .agg #[.string ⟨#[]⟩, .string ⟨#[]⟩, .slice none 0 0] := hv; subst hv2; have HB1 := hid0 (Below.later HB.out hb1); clear hb1 hv)
      | (go_at_call 37; refine (HW.out _).mono ?_; rintro e w2 ⟨rfl, rfl⟩)
      | fail)
    go_ret
    exact ⟨by rw [HR.out]; rfl, HB1.out⟩
  | some s =>
    rw [hq] at hR HS
    simp only at hR
    obtain ⟨l, p, ed⟩ := s
    simp only at hR
    cases hp : (p.toList == []) with
    | true =>
      rw [hp] at hR
      simp only [if_true] at hR
      have HR := hid0 hR
      clear hR hq
      go_enter Tryz.func26, Tryz.ntmps26
      go_wp2_with (first
        | (go_at_call 30; refine HS.out.mono ?_; rintro e w1 ⟨⟨v, rfl, ae, ce, hv, _⟩, hb1⟩; subst hv; have HB1 := hid0 (Below.later HB.out hb1); clear hb1)
        | (go_at_call 37; refine (HW.out _).mono ?_; rintro e w2 ⟨rfl, rfl⟩)
        | fail)
      go_ret
      exact ⟨by rw [HR.out]; rfl, HB1.out⟩
    | false =>
      rw [hp] at hR
      simp only [Bool.false_eq_true, if_false] at hR
      have HR := hid0 hR
      clear hR hq
      go_enter Tryz.func26, Tryz.ntmps26
      go_wp2_with (first
        | (go_at_call 30; refine HS.out.mono ?_; rintro e w1 ⟨⟨v, rfl, ae, ce, hv, _⟩, hb1⟩; subst hv; have HB1 := hid0 (Below.later HB.out hb1); clear hb1)
        | fail)
      go_ret
      exact ⟨by rw [HR.out]; rfl, HB1.out⟩
end Go.Proofs.YtbdjnmbhphflbaaGreatDoor
