/-
  The walk of (propfile.claim).check.
-/
import Derived.Test.YthdmhelgmejicaaGreatDoorPfRc4W
import Derived.Test.YthdmhelgmejicaaGreatDoorSentW
namespace Go.Proofs.YthdmhelgmejicaaGreatDoor
open Go.RowKit Go.Shelf
def otherL : By := [79, 116, 104, 101, 114]
/-- A refusal. -/
def errAt (A : Nat → Addr) (i : Nat) : Value := .iface 236 (.pointer (some (A i)))
/-- Which refusal a claim meets alone. -/
def chkNo (lo hi : Nat) (nm : By) : Option Nat := if 1114111 < lo ∨ 1114111 < hi ∨ nm = otherL then some 0 else if hi < lo then some 6 else none
def errOf (A : Nat → Addr) : Option Nat → Value
  | some i => errAt A i
  | none => .nilIface
theorem rd_ne (x y : By) (h : ¬ x = y) : ((rd x).toList == (rd y).toList) = false := by
  rw [Bool.eq_false_iff]
  intro he
  rw [beq_iff_eq, ByteArray.toList_eq, ByteArray.toList_eq] at he
  exact h he
set_option maxRecDepth 10000 in
set_option maxHeartbeats 800000 in
theorem check_any (lo hi : Nat) (nm : By) (A : Nat → Addr) (w : World) (hE : Sents w A) :
    Calls Tryz.prog 47 #[claimVal (lo : Int) (hi : Int) (rd nm)] w fun e w' => e = .returned (errOf A (chkNo lo hi nm)) ∧ Below w.heap.size w w' := by
  have hb : ∀ o, Below w.heap.size w (w.alloc o) := fun o => (Below.refl _ _).alloc (Nat.le_refl _) o
  have g0 : ∀ o, (w.alloc o).cell? ⟨1, 0, none⟩ = some (.iface 236 (.pointer (some (A 0)))) := fun o => (hE.below (hb o)).c0
  have g6 : ∀ o, (w.alloc o).cell? ⟨5, 0, none⟩ = some (.iface 236 (.pointer (some (A 6)))) := fun o => (hE.below (hb o)).c6
  have HB := hid0 hb
  clear hb hE
  unfold claimVal
  by_cases h1 : 1114111 < lo
  · have HV : Hid (errOf A (chkNo lo hi nm) = .iface 236 (.pointer (some (A 0)))) := hid0 (by rw [chkNo, if_pos (.inl h1)]; rfl)
    have h1I : (1114111 : Int) < (lo : Int) := by omega
    go_enter Tryz.func47, Tryz.ntmps47
    go_wp2
    go_ret
    exact ⟨by rw [HV.out]; rfl, HB.out _⟩
  · have h1I : ¬ (1114111 : Int) < (lo : Int) := by omega
    by_cases h2 : 1114111 < hi
    · have HV : Hid (errOf A (chkNo lo hi nm) = .iface 236 (.pointer (some (A 0)))) := hid0 (by rw [chkNo, if_pos (.inr (.inl h2))]; rfl)
      have h2I : (1114111 : Int) < (hi : Int) := by omega
      go_enter Tryz.func47, Tryz.ntmps47
      go_wp2
      go_ret
      exact ⟨by rw [HV.out]; rfl, HB.out _⟩
    · have h2I : ¬ (1114111 : Int) < (hi : Int) := by omega
      by_cases h3 : nm = otherL
      · have HV : Hid (errOf A (chkNo lo hi nm) = .iface 236 (.pointer (some (A 0)))) := hid0 (by rw [chkNo, if_pos (.inr (.inr h3))]; rfl)
        subst h3
        unfold otherL at HV ⊢
        go_enter Tryz.func47, Tryz.ntmps47
        go_wp2
        go_ret
        exact ⟨by rw [HV.out]; rfl, HB.out _⟩
      · have hne : ((rd nm).toList == [79, 116, 104, 101, 114]) = false := by
          have h5 := rd_ne _ _ h3
          rw [show (rd otherL).toList = [79, 116, 104, 101, 114] by rw [ByteArray.toList_eq]; rfl] at h5
          exact h5
        by_cases h4 : hi < lo
        · have HV : Hid (errOf A (chkNo lo hi nm) = .iface 236 (.pointer (some (A 6)))) := hid0 (by rw [chkNo, if_neg (by rintro (h | h | h) <;> contradiction), if_pos h4]; rfl)
          have h4I : (hi : Int) < (lo : Int) := by omega
          clear h3
          generalize rd nm = s at hne ⊢
          go_enter Tryz.func47, Tryz.ntmps47
          go_wp2
          go_ret
          exact ⟨by rw [HV.out]; rfl, HB.out _⟩
        · have HV : Hid (errOf A (chkNo lo hi nm) = .nilIface) := hid0 (by rw [chkNo, if_neg (by rintro (h | h | h) <;> contradiction), if_neg h4]; rfl)
          have h4I : ¬ (hi : Int) < (lo : Int) := by omega
          clear h3
          generalize rd nm = s at hne ⊢
          go_enter Tryz.func47, Tryz.ntmps47
          go_wp2
          go_ret
          exact ⟨by rw [HV.out]; rfl, HB.out _⟩
end Go.Proofs.YthdmhelgmejicaaGreatDoor
