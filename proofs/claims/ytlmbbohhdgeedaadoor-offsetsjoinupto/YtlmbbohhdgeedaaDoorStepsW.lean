/-
  The walks of units.Prev, caesuraref2.Next, caesuraref2.Prev, caesurakit.Pick.
-/
import Derived.Test.YtlmbbohhdgeedaaDoorNearM
namespace Go.Proofs.YtlmbbohhdgeedaaDoor
open Go.RowKit
def optVal (o : Option (Int × Nat × Nat)) : Value := match o with
  | some u => .tuple #[unitVal u.1 u.2.1 u.2.2, .bool true]
  | none => .tuple #[noUnit, .bool false]
theorem nextVal_eq (l : List UInt8) (k : Nat) : nextVal l k = optVal (if edgeL l k then some (unitU l k) else none) := by
  unfold nextVal optVal
  split <;> rfl
set_option maxRecDepth 10000 in
set_option maxHeartbeats 400000 in
theorem next_out (s : ByteArray) (k : Int) (hk : k < 0 ∨ (s.size : Int) ≤ k) (w : World) :
    Calls Tryd.prog 42 #[.string s, .int .i64 k] w fun e w' => e = .returned (optVal none) ∧ Below w.heap.size w w' := by
  by_cases h : (s.size : Int) ≤ k
  · go_enter Tryd.func42, Tryd.ntmps42
    go_wp2
    go_returns
    exact ⟨rfl, by go_grown⟩
  · have HE := hid (fun w => edge_out s k (.inl (by omega)) w)
    go_enter Tryd.func42, Tryd.ntmps42
    go_wp2_with (go_at_call 53; refine (HE.out _).mono ?_; rintro e w1 ⟨rfl, rfl⟩)
    go_returns
    exact ⟨rfl, by go_grown⟩
theorem prevFrom_lt (l : List UInt8) (k : Nat) (h0 : 0 < k) : ∀ n j, j + n ≤ k - 1 → prevFrom l k n j < k := by
  intro n
  induction n with
  | zero => intro j _; rw [prevFrom]; omega
  | succ n ih => intro j h; rw [prevFrom]; split; omega; exact ih _ (by omega)
end Go.Proofs.YtlmbbohhdgeedaaDoor
