/-
  A mark, as the program writes it; strconv.FormatInt at 16 (stage 23).
-/
import Derived.Test.YtcbepmjojppokaaGreatDoorTpGW
import Derived.Test.YtcbepmjojppokaaGreatDoorShelfT
import Derived.Shelf.Slices.SearchI
import Derived.Shelf.Slices.Empties
import Derived.Shelf.Strings.OnBuilder
import Derived.Shelf.Strings.Repeat
import Derived.Shelf.Spec.TrailingZeros
namespace Go.Proofs.YtcbepmjojppokaaGreatDoor.Tp
open Go.RowKit Go.Shelf
theorem rise_pair : ∀ (L : List Int) (c lo : Int), riseF c lo L = true → L.Pairwise (· ≤ ·)
  | [], _, _, _ => List.Pairwise.nil
  | y :: L, c, lo, h => by
    simp only [riseF, Bool.and_eq_true, decide_eq_true_eq] at h
    refine List.Pairwise.cons (fun x hx => ?_) (rise_pair L c (y + 1) h.2)
    have := rise_ge L c (y + 1) h.2 x hx
    omega
set_option maxRecDepth 10000 in
set_option maxHeartbeats 1600000 in
/-- The mark at a place. -/
theorem mark_any (B : List Int) (vP : Value) (aB : Option Addr) (cB i : Nat) (c : Int) (w : World) (hb : B.length ≤ 1000000000) (hr : riseF c 0 B = true) (hB : IA w aB B) :
    Calls Tryz.prog 56 #[.agg #[vP, .slice aB B.length cB], .int .i64 (i : Int)] w fun e w' => e = .returned (.string ⟨(mkF B i).toArray⟩) ∧ Below w.heap.size w w' := by
  obtain ⟨w0, hw0⟩ : ∃ w0, w0 = w.alloc (.cells #[vP, .slice aB B.length cB] 50) := ⟨_, rfl⟩
  have hb0 : Below w.heap.size w w0 := by rw [hw0]; exact (Below.refl _ _).alloc (Nat.le_refl _) _
  have hr0 : w0.heap[w.heap.size]? = some (.cells #[vP, .slice aB B.length cB] 50 (0, 0)) := by rw [hw0]; exact heap_alloc_new w _
  have x1 : w0.cell? ⟨w.heap.size, 1, none⟩ = some (.slice aB B.length cB) := by rw [cell_of_row _ _ _ _ _ _ hr0]; rfl
  have hB0 := hB.past hb0
  have HBs : Hid (Calls Tryz.prog 74 #[.slice aB B.length cB, .int .i64 (i : Int)] w0 fun e w' => ∃ k : Int, e = .returned (.tuple #[.int .i64 k, .bool (decide ((i : Int) ∈ B))]) ∧ ∃ n, w' = w0.drewN n) := hid0 (by
    by_cases h0 : 0 < B.length
    · obtain ⟨b, off, e, _, _⟩ := hB0.at' 0 h0
      rw [e]
      refine (Any.slices_BinarySearch_int Tryz.lays225 b off B.length cB B (i : Int) w0 (Nat.le_refl _) (by omega) (fun j hj => ?_) ?_).mono ?_
      · obtain ⟨b', o', e', h1, h2⟩ := hB0.at' j hj
        rw [e] at e'
        cases e'
        rw [List.getD_eq_getElem?_getD, List.getElem?_eq_getElem hj]
        exact h2
      · rw [List.take_length]
        exact rise_pair B c 0 hr
      · rintro e w' ⟨rfl, n, rfl⟩
        have hc : B.contains (i : Int) = decide ((i : Int) ∈ B) := by rw [Bool.eq_iff_iff]; simp
        rw [List.take_length, hc]
        exact ⟨_, rfl, n, rfl⟩
    · have ht : B = [] := List.length_eq_zero_iff.1 (by omega)
      subst ht
      refine (Any.slices_BinarySearch_int_empty Tryz.lays225 aB cB (i : Int) w0).mono ?_
      rintro e w' ⟨rfl, hw⟩
      exact ⟨0, rfl, 0, hw⟩)
  have HM : Hid (mkF B i = if decide ((i : Int) ∈ B) = true then [195, 183] else [195, 151]) := hid0 (by unfold mkF; by_cases h : (i : Int) ∈ B <;> simp [h])
  have HB0 := hid0 hb0
  have hfold := hw0.symm
  clear hw0 hb0 hr0 hB hB0 hr
  generalize B.length = m at *
  generalize mkF B i = M at *
  cases hq : decide ((i : Int) ∈ B) with
  | true =>
    rw [hq] at HBs HM
    have HMt := HM.out
    rw [if_pos rfl] at HMt
    subst HMt
    clear hq HM
    go_enter Tryz.func56, Tryz.ntmps56
    go_wp2_with (go_at_call 74; go_loud ((refine HBs.out.mono ?_; rintro e w1 ⟨k, rfl, n, rfl⟩)))
    go_ret
    exact ⟨rfl, below_drew' HB0.out _⟩
  | false =>
    rw [hq] at HBs HM
    have HMt := HM.out
    rw [if_neg (by simp)] at HMt
    subst HMt
    clear hq HM
    go_enter Tryz.func56, Tryz.ntmps56
    go_wp2_with (go_at_call 74; go_loud ((refine HBs.out.mono ?_; rintro e w1 ⟨k, rfl, n, rfl⟩)))
    go_ret
    exact ⟨rfl, below_drew' HB0.out _⟩
end Go.Proofs.YtcbepmjojppokaaGreatDoor.Tp
