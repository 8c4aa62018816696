/-
  The walks of caesuraref2.Next, caesuraref2.Prev, caesurakit.Pick, caesuralaw2.UnitsSteps.
-/
import Derived.Test.YtlmbbohhdgeedaaDoorStepsW
import Derived.Test.YtlmbbohhdgeedaaDoorSameUW
namespace Go.Proofs.YtlmbbohhdgeedaaDoor
open Go.RowKit
def atS (x : Int) (u : Int × Nat × Nat) : Bool := ((u.2.1 : Int) == x)
def atE (x : Int) (u : Int × Nat × Nat) : Bool := ((u.2.2 : Int) == x)
theorem unit_le (l : List UInt8) : ∀ u ∈ unitsOf l, u.2.1 < l.length ∧ 0 < u.2.2 ∧ u.2.2 ≤ l.length := by
  intro u hu
  have h1 := starts_ge l _ 0 (Nat.le_refl _) u hu
  have h2 : ∀ (d j : Nat), l.length - j ≤ d → ∀ u ∈ unitsAt l j, u.2.2 ≤ l.length := by
    intro d
    induction d with
    | zero => intro j h u hu; rw [unitsAt_end l j (by omega)] at hu; simp at hu
    | succ d ih =>
      intro j h u hu
      by_cases hj : j < l.length
      · have hs := drop_size l j hj
        rw [unitsAt_step l j hj] at hu
        rcases List.mem_cons.1 hu with rfl | hu
        · simp only; omega
        · exact ih _ (by omega) u hu
      · rw [unitsAt_end l j (by omega)] at hu; simp at hu
  have := h2 _ 0 (Nat.le_refl _) u hu
  omega
theorem find_nat (us : List (Int × Nat × Nat)) (k : Nat) : us.find? (atS (k : Int)) = us.find? (fun u => u.2.1 == k) ∧ us.find? (atE (k : Int)) = us.find? (fun u => u.2.2 == k) := by
  have e1 : atS (k : Int) = fun u => u.2.1 == k := by funext u; rw [atS, Bool.eq_iff_iff]; simp; omega
  have e2 : atE (k : Int) = fun u => u.2.2 == k := by funext u; rw [atE, Bool.eq_iff_iff]; simp; omega
  rw [e1, e2]
  exact ⟨rfl, rfl⟩
theorem next_all (s : ByteArray) (x : Int) (hs : s.size ≤ 140737488355328) (w : World) (hT : SeqAt w) :
    Calls Tryd.prog 42 #[.string s, .int .i64 x] w fun e w' => e = .returned (optVal ((unitsOf s.data.toList).find? (atS x))) ∧ Below w.heap.size w w' := by
  by_cases h : x < 0 ∨ (s.size : Int) ≤ x
  · have hn : (unitsOf s.data.toList).find? (atS x) = none := List.find?_eq_none.2 (fun u hu => by
      have := unit_le _ u hu
      rw [bsize] at this
      simp only [atS, beq_iff_eq]
      omega)
    rw [hn]
    exact next_out s x h w
  · obtain ⟨k, rfl⟩ : ∃ k : Nat, x = (k : Int) := ⟨x.toNat, by omega⟩
    rw [(find_nat _ k).1, next_find _ k (by rw [bsize]; omega), ← nextVal_eq]
    exact next_in s k (by omega) hs w hT
theorem find_step (us : List (Int × Nat × Nat)) (f : Int × Nat × Nat → Bool) (k : Nat) (hk : k < us.length) : (us.drop k).find? f = if f us[k] then some us[k] else (us.drop (k + 1)).find? f := by
  rw [List.drop_eq_getElem_cons hk, List.find?_cons]
  cases f us[k] <;> rfl
set_option maxRecDepth 10000 in
set_option maxHeartbeats 400000 in
theorem pick_any (k : Int) (n : Nat) (hn : 0 < n) (hn2 : n ≤ 2000000) (w : World) :
    Calls Tryd.prog 21 #[.int .i64 k, .int .i64 (n : Int)] w fun e w' => (∃ r : Nat, r < n ∧ e = .returned (.int .i64 (r : Int))) ∧ w' = w := by
  have hm1 := Int.tmod_lt_of_pos k (b := (n : Int)) (by omega)
  have hm2 : -(n : Int) < k.tmod n := by
    have := Int.tmod_lt_of_pos (-k) (b := (n : Int)) (by omega)
    rw [Int.neg_tmod] at this
    omega
  have hz : ((n : Int) == 0) = false := by simp; omega
  have hz2 : ¬ (n : Int) = 0 := by omega
  have hz3 : ¬ (n : Int) < 1 := by omega
  by_cases hneg : k.tmod n < 0
  · go_enter Tryd.func21, Tryd.ntmps21
    go_wp2
    go_ret
    refine ⟨⟨(k.tmod n + n).toNat, by omega, ?_⟩, rfl⟩
    have e : (((k.tmod n + n).toNat : Nat) : Int) = k.tmod n + n := by omega
    rw [e]
    rfl
  · go_enter Tryd.func21, Tryd.ntmps21
    go_wp2
    go_ret
    refine ⟨⟨(k.tmod n).toNat, by omega, ?_⟩, rfl⟩
    have e : (((k.tmod n).toNat : Nat) : Int) = k.tmod n := by omega
    rw [e]
    rfl
theorem rowB {w : World} {g : Nat} {a b c : Value} {t : TypeId} (h : w.heap[g]? = some (.cells #[a, b, c] t (0, 0))) : w.cell? ⟨g, 0, none⟩ = some a ∧ w.cell? ⟨g, 1, none⟩ = some b ∧ w.cell? ⟨g, 2, none⟩ = some c := (row3 h).1
theorem opt_eq (o : Option (Int × Nat × Nat)) : ∃ p a b : Int, ∃ ok : Bool, optVal o = .tuple #[.agg #[.int .i64 p, .int .i64 a, .int .i64 b], .bool ok] := by
  cases o with
  | none => exact ⟨0, 0, 0, false, rfl⟩
  | some u => exact ⟨u.1, u.2.1, u.2.2, true, rfl⟩
end Go.Proofs.YtlmbbohhdgeedaaDoor
