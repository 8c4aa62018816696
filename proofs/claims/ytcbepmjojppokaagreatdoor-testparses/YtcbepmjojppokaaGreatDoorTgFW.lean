/-
  strconv.ParseUint at 16 and 64, of up to six signs.
-/
import Derived.Test.YtcbepmjojppokaaGreatDoorTgEW
import Derived.Test.YtcbepmjojppokaaGreatDoorShelfV
import Derived.Lib.AtoiErrMem
namespace Go.Proofs.YtcbepmjojppokaaGreatDoor
open Go.RowKit Go.Shelf Go.Lib
set_option maxRecDepth 10000 in
theorem parseUint16_none (w : World) : Calls Tryz.prog 107 #[.string ⟨#[]⟩, .int .i64 16, .int .i64 64] w fun e w' => e = .returned (.tuple #[.int .u64 0, .iface 169 (.int .i64 2)]) ∧ w' = w := by
  go_enter Tryz.func107, Tryz.ntmps107
  go_wp2
  go_ret2
  exact ⟨rfl, rfl⟩
theorem below_bytes (w : World) (t : ByteArray) : Below w.heap.size w (Lib.bytesWorld w 5 t) := Lib.bytesWorld_below w 5 t
set_option maxRecDepth 10000 in
theorem pubUint_ok (t : ByteArray) (h4 : 1 ≤ t.size) (h6 : t.size ≤ 6) (hx : ∀ c ∈ t.data.toList, isHx c = true) (w : World) : Calls Tryz.prog 88 #[.string t, .int .i64 16, .int .i64 64] w fun e w' => e = .returned (.tuple #[.int .u64 (hexN t.data.toList : Int), .nilIface]) ∧ Below w.heap.size w w' := by
  have hP := parseUint16 t h4 h6 hx w
  have HB := hid0 (below_bytes w t)
  generalize Lib.bytesWorld w 5 t = W1 at *
  generalize hexN t.data.toList = n at *
  clear hx
  go_enter Tryz.func88, Tryz.ntmps88
  go_wp2_with (go_at_call 107; refine hP.mono ?_; rintro e w1 ⟨rfl, hw1⟩; have hw1' := hw1.symm; subst hw1'; clear hw1)
  go_ret2
  exact ⟨rfl, HB.out⟩
/-- The library's own refusal stands in its variable. -/
def Syn (w : World) : Prop := ∃ ev, w.cell? ⟨17, 0, none⟩ = some ev ∧ (ev = .nilIface ∨ ∃ te pe, ev = .iface te pe)
theorem Syn.below {w w' : World} (h : Syn w) (hb : Below w.heap.size w w') : Syn w' := by
  obtain ⟨ev, h1, h2⟩ := h
  exact ⟨ev, (hb.cell (show (⟨17, 0, none⟩ : Addr).block < w.heap.size from lt_of_cell h1)).trans h1, h2⟩
theorem least_of {p : Nat → Prop} : ∀ n, p n → ∃ k, p k ∧ ∀ j, j < k → ¬ p j := by
  intro n
  induction n using Nat.strongRecOn with
  | ind n ih =>
    intro h
    by_cases h1 : ∃ j, j < n ∧ p j
    · obtain ⟨j, hj, hp⟩ := h1
      exact ih j hj hp
    · exact ⟨n, h, fun j hj hp => h1 ⟨j, hj, hp⟩⟩
theorem uint_bad (t : ByteArray) (h6 : t.size ≤ 6) (hx : ¬ (1 ≤ t.size ∧ ∀ c ∈ t.data.toList, isHx c = true)) (w : World) :
    Calls Tryz.prog 107 #[.string t, .int .i64 16, .int .i64 64] w fun e w' => e = .returned (.tuple #[.int .u64 0, .iface 169 (.int .i64 2)]) ∧ Below w.heap.size w w' := by
  by_cases h1 : t.size = 0
  · have e : t = ⟨#[]⟩ := by
      apply ByteArray.ext
      exact Array.eq_empty_of_size_eq_zero h1
    subst e
    refine (parseUint16_none w).mono ?_
    rintro e w1 ⟨rfl, rfl⟩
    exact ⟨rfl, Below.refl _ _⟩
  · have h2 : ∃ k, ∃ h : k < t.size, isHx t[k] = false := by
      refine Classical.byContradiction fun hn => hx ⟨by omega, fun c hc => ?_⟩
      obtain ⟨j, hj, rfl⟩ := List.getElem_of_mem hc
      have hj2 : j < t.size := by simpa using hj
      have e : t.data.toList[j]'hj = t[j]'hj2 := by simp; rfl
      rw [e]
      cases hh : isHx t[j] with
      | true => rfl
      | false => exact absurd ⟨j, hj2, hh⟩ hn
    obtain ⟨k0, hk0⟩ := h2
    obtain ⟨k, ⟨h, hb⟩, hmin⟩ := least_of (p := fun k => ∃ h : k < t.size, isHx t[k] = false) k0 hk0
    refine (parseUint16_bad t k h h6 (fun j hj hlt => ?_) hb w).mono ?_
    · cases hh : isHx t[j] with
      | true => rfl
      | false => exact absurd ⟨hj, hh⟩ (hmin j hlt)
    · rintro e w1 ⟨rfl, rfl⟩
      exact ⟨rfl, below_bytes w t⟩
set_option maxRecDepth 10000 in
theorem pubUint_bad (t : ByteArray) (h6 : t.size ≤ 6) (hx : ¬ (1 ≤ t.size ∧ ∀ c ∈ t.data.toList, isHx c = true)) (w : World) (hs : Syn w) : Calls Tryz.prog 88 #[.string t, .int .i64 16, .int .i64 64] w fun e w' => (∃ ty p, e = .returned (.tuple #[.int .u64 0, .iface ty p])) ∧ Below w.heap.size w w' := by
  have HP := hid0 (uint_bad t h6 hx w)
  have HT : Hid (∀ W, Below w.heap.size w W → Calls Tryz.prog 108 #[.string ⟨#[80, 97, 114, 115, 101, 85, 105, 110, 116]⟩, .string t, .int .i64 16, .int .i64 64, .iface 169 (.int .i64 2)] W fun e w' => ∃ N, e = .returned (.iface 171 (.pointer (some ⟨N, 0, none⟩))) ∧ Below w.heap.size w w') := hid0 (fun W hW => by
    obtain ⟨ev, h1, h2⟩ := hs.below hW
    refine (Any.strconv_toError_syntax Tryz.laysC245 ⟨#[80, 97, 114, 115, 101, 85, 105, 110, 116]⟩ t 16 64 ev W (by omega) h1 h2).mono ?_
    rintro e w2 ⟨N, rfl, _, _, hb⟩
    exact ⟨N, rfl, Below.later hW hb⟩)
  clear hx hs
  go_enter Tryz.func88, Tryz.ntmps88
  go_wp2_with (first
    | (go_at_call 107; refine HP.out.mono ?_; rintro e w1 ⟨rfl, hb1⟩; have HB1 := hid0 hb1; clear hb1)
    | (go_at_call 108; refine (HT.out _ HB1.out).mono ?_; rintro e w2 ⟨N, rfl, hb2⟩; have HB2 := hid0 hb2; clear hb2)
    | fail)
  go_ret2
  exact ⟨⟨_, _, rfl⟩, HB2.out⟩
end Go.Proofs.YtcbepmjojppokaaGreatDoor
