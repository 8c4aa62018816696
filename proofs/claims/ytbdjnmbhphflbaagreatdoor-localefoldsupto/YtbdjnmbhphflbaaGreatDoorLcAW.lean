/-
  The walk of the document's canonical.
-/
import Derived.Test.YtbdjnmbhphflbaaGreatDoorLc9W
namespace Go.Proofs.YtbdjnmbhphflbaaGreatDoor
open Go.RowKit Go.Shelf Go.Lib
theorem strOf_eq (c : List UInt8) (s : ByteArray) : (strOf c).toList == s.toList ↔ c = s.data.toList := by
  rw [str_eq, decide_eq_true_eq]
  constructor
  · rintro rfl; rw [strOf_data]
  · rintro rfl; simp [strOf]
set_option maxRecDepth 10000 in
set_option maxHeartbeats 400000 in
theorem canonical_any (s : ByteArray) (w : World) : Calls Tryz.prog 79 #[.string s] w fun e w' => e = .returned (.bool (isTagB s)) ∧ Below w.heap.size w w' := by
  have HT := hid0 (refTag_any s w)
  obtain ⟨q, hq⟩ : ∃ q, q = isTagB s := ⟨_, rfl⟩
  rw [← hq]
  unfold isTagB at hq
  cases ht : tagF s.data.toList with
  | none =>
    rw [ht] at HT hq
    simp only [tagV] at HT
    have HV : Hid (q = false) := hid0 (by rw [hq]; simp)
    clear hq ht
    go_enter Tryz.func79, Tryz.ntmps79
    go_wp2_with (first
      | (go_at_call 64; refine HT.out.mono ?_; rintro e w1 ⟨rfl, hb1⟩; have HB1 := hid0 hb1; clear hb1)
      | fail)
    go_ret
    exact ⟨by rw [HV.out]; rfl, HB1.out⟩
  | some c =>
    rw [ht] at HT hq
    simp only [tagV] at HT
    have he := strOf_eq c s
    have HV : Hid (q = ((strOf c).toList == s.toList)) := hid0 (by
      rw [hq, Bool.eq_iff_iff, decide_eq_true_eq, Option.some.injEq]
      exact he.symm)
    clear hq ht he
    generalize strOf c = C at *
    generalize hd : (C.toList == s.toList) = d at *
    go_enter Tryz.func79, Tryz.ntmps79
    go_wp2_with (first
      | (go_at_call 64; refine HT.out.mono ?_; rintro e w1 ⟨rfl, hb1⟩; have HB1 := hid0 hb1; clear hb1)
      | fail)
    go_ret
    exact ⟨by rw [HV.out]; rfl, HB1.out⟩
end Go.Proofs.YtbdjnmbhphflbaaGreatDoor
