/-
  PlVW, PlTM, PlEaM, PlWW, PlXW, ShelfZ, PlEbW, PlEcW, PlEdW, PlYW, PlGbM, PlGcM, PlGdM, PlHaM, PlRM.
-/
import Derived.Test.YtlkgghbdgjomkaaDoorMub
import Derived.ChangeKeysEq
import Derived.Lib.TrailingZeros
import Derived.Shelf.Spec.TrailingZeros
import Derived.Ground.Names7Prog
import Derived.Test.YtlkgghbdgjomkaaDoorProg
import Derived.RangeFuncNested
import Derived.RangeFuncBound
import Derived.RangeFuncCalls
import Derived.RangeFuncLeaves
import Derived.RangeFuncBox
import Derived.Shelf.Abstract
import Derived.OwnWalkIn
import Derived.TacticsInMore
import Derived.LoopNIn
import Derived.LoopIn
import Derived.Laws.CopyRow
import Derived.Test.YtlkgghbdgjomkaaDoorMua
import Derived.Deep.RegionLaw
namespace Go.Proofs.YtlkgghbdgjomkaaDoor
open Go.RowKit Go.Shelf
theorem infoU64 : (Tryd.prog.info? 72).map (fun i => (i.zero, i.size, i.bytes)) = some (some (.int .u64 0), 1, 8) := by kernel_rfl
theorem undU64 : Tryd.prog.underlying 72 = some (.int .u64) := by kernel_rfl
theorem undBlk : Tryd.prog.underlying 74 = some (.array 8 72) := by kernel_rfl
theorem cellsU64 : Tryd.prog.cellsOf 72 = 1 := by kernel_rfl
theorem eq_u64 (d : Nat) (a b : Int) (w : World) : (Op.equalIn (d + 1) 72 (.int .u64 a) (.int .u64 b)).run Tryd.prog w = .ok (a == b) w := by
  simp only [Op.equalIn, Sem.run_bind, run_underlying undU64, Result.andThen_ok, if_true, Sem.run_pure]
theorem part_u64 (xs : Array Value) (k : Nat) (a : Int) (h : xs[k]? = some (.int .u64 a)) (w : World) : (part 72 xs k).run Tryd.prog w = .ok (.int .u64 a) w := by
  obtain ⟨i, hi, hz0, hz1, hz2⟩ := info_parts infoU64
  simp [part, h, go_sem]
theorem items_u64 (d : Nat) (xs ys : Array Value) (f g : Nat → Int) (w : World) : ∀ is : List Nat, (∀ i ∈ is, xs[i]? = some (.int .u64 (f i)) ∧ ys[i]? = some (.int .u64 (g i))) → (Op.eqItems (d + 1) 72 1 xs ys is).run Tryd.prog w = .ok (is.all (fun i => f i == g i)) w
  | [], _ => by simp [Op.eqItems]
  | i :: is, h => by
    obtain ⟨h1, h2⟩ := h i (by simp)
    have ih := items_u64 d xs ys f g w is (fun j hj => h j (by simp [hj]))
    simp only [Op.eqItems, Sem.run_bind, Nat.mul_one, part_u64 xs i _ h1, part_u64 ys i _ h2, eq_u64, Result.andThen_ok, List.all_cons]
    cases hfg : (f i == g i)
    · simp
    · simpa using ih
def zeroB (f : Nat → Bool) (k : Nat) : Bool := (List.range 8).all (fun i => (wordOf f (k * 8 + i) : Int) == 0)
def emF (f : Nat → Bool) (m : Nat) : Bool := (List.range (512 * m)).all (fun q => !f q)
theorem emF_iff (f : Nat → Bool) (m : Nat) : emF f m = true ↔ ∀ q, q < 512 * m → f q = false := by
  simp [emF]
theorem wordOf_eq_zero (f : Nat → Bool) (i : Nat) : wordOf f i = 0 ↔ ∀ j, j < 64 → f (64 * i + j) = false := by
  constructor
  · intro h j hj
    have hb := wordOf_bit f i j
    rw [h, Nat.zero_testBit, decide_eq_true hj, Bool.true_and] at hb
    exact hb.symm
  · intro h
    apply Nat.eq_of_testBit_eq
    intro j
    rw [wordOf_bit, Nat.zero_testBit]
    by_cases hj : j < 64
    · rw [h j hj, Bool.and_false]
    · rw [decide_eq_false hj, Bool.false_and]
theorem zeroB_all {f : Nat → Bool} {k : Nat} (h : zeroB f k = true) (q : Nat) (h1 : 512 * k ≤ q) (h2 : q < 512 * (k + 1)) : f q = false := by
  have h3 := List.all_eq_true.1 h ((q - 512 * k) / 64) (by simp; omega)
  have h4 : wordOf f (k * 8 + (q - 512 * k) / 64) = 0 := by
    have := eq_of_beq h3; omega
  have h5 := (wordOf_eq_zero f _).1 h4 (q % 64) (by omega)
  rw [show 64 * (k * 8 + (q - 512 * k) / 64) + q % 64 = q by omega] at h5
  exact h5
theorem zeroB_not {f : Nat → Bool} {k : Nat} (h : zeroB f k = false) : ∃ q, q < 512 * (k + 1) ∧ f q = true := by
  obtain ⟨i, h1, h2⟩ := List.all_eq_false.1 h
  have h1 : i < 8 := List.mem_range.1 h1
  have h3 : ¬ wordOf f (k * 8 + i) = 0 := fun e => h2 (by rw [e]; rfl)
  rw [wordOf_eq_zero] at h3
  have : ∃ j, j < 64 ∧ f (64 * (k * 8 + i) + j) = true := by
    apply Classical.byContradiction
    intro hn
    apply h3
    intro j hj
    cases hf : f (64 * (k * 8 + i) + j)
    · rfl
    · exact absurd ⟨j, hj, hf⟩ hn
  obtain ⟨j, hj, hf⟩ := this
  exact ⟨_, by omega, hf⟩
theorem eq_blk (f : Nat → Bool) (k : Nat) (w : World) : (Op.equalIn 10000 74 (.agg #[.int .u64 (wordOf f (k * 8) : Int), .int .u64 (wordOf f (k * 8 + 1) : Int), .int .u64 (wordOf f (k * 8 + 2) : Int), .int .u64 (wordOf f (k * 8 + 3) : Int), .int .u64 (wordOf f (k * 8 + 4) : Int), .int .u64 (wordOf f (k * 8 + 5) : Int), .int .u64 (wordOf f (k * 8 + 6) : Int), .int .u64 (wordOf f (k * 8 + 7) : Int)]) (.agg #[.int .u64 0, .int .u64 0, .int .u64 0, .int .u64 0, .int .u64 0, .int .u64 0, .int .u64 0, .int .u64 0])).run Tryd.prog w = .ok (zeroB f k) w := by
  obtain ⟨i, hi, _⟩ := info_parts infoU64
  rw [show (10000 : Nat) = 9998 + 1 + 1 from rfl, run_equalIn_array w (9998 + 1) _ _ undBlk hi, cellsU64, items_u64 9998 _ _ (fun i => (wordOf f (k * 8 + i) : Int)) (fun _ => 0) w _ (fun i hi => ?_)]
  · rfl
  · have h8 : i < 8 := List.mem_range.1 hi
    have : i = 0 ∨ i = 1 ∨ i = 2 ∨ i = 3 ∨ i = 4 ∨ i = 5 ∨ i = 6 ∨ i = 7 := by omega
    rcases this with rfl | rfl | rfl | rfl | rfl | rfl | rfl | rfl <;> exact ⟨rfl, rfl⟩
set_option maxRecDepth 10000 in
set_option maxHeartbeats 1600000 in
theorem isEmpty_any (g m : Nat) (f : Nat → Bool) (w : World) (hm : m ≤ 1000000) (h : BS w g m f) :
    Calls Tryd.prog 54 #[.agg #[.slice (some ⟨g, 0, none⟩) m m]] w fun e w' => e = .returned (.bool (emF f m)) ∧ Below w.heap.size w w' := by
  obtain ⟨w0, hw0⟩ : ∃ w0, w0 = w.alloc (.cells #[.slice (some ⟨g, 0, none⟩) m m] 56) := ⟨_, rfl⟩
  have hb0 : Below w.heap.size w w0 := by rw [hw0]; exact (Below.refl _ _).alloc (Nat.le_refl _) _
  have HB0 := hid0 (h.kept (w' := w0) (hb0.block g h.lt))
  have hs : w0.cell? ⟨w.heap.size, 0, none⟩ = some (.slice (some ⟨g, 0, none⟩) m m) := by rw [hw0]; exact cell_one_new _ _ _ 0 _ rfl
  have HBe := hid0 hb0
  have hfold := hw0.symm
  clear h hb0 hw0
  go_enter Tryd.func54, Tryd.ntmps54
  go_wp2
  go_loopw [7] (fun i wr => ∃ k : Nat, k ≤ m ∧ i = .int .i64 (k : Int) ∧ wr = w0 ∧ Hid (∀ q, q < 512 * k → f q = false)) (fun i _ => m - (intOf i).toNat)
  case atStart => exact ⟨0, Nat.zero_le _, rfl, rfl, hid0 (fun q hq => by omega)⟩
  case round =>
    obtain ⟨k, hk, rfl, rfl, HD⟩ := hrel
    by_cases hlt : k < m
    · have hkI : (k : Int) < (m : Int) := by omega
      have hkI0 : (0 : Int) ≤ (k : Int) := by omega
      have c0 := (HB0.out.cell (k * 8) (by omega)).1
      have c1 := (HB0.out.cell (k * 8 + 1) (by omega)).1
      have c2 := (HB0.out.cell (k * 8 + 2) (by omega)).1
      have c3 := (HB0.out.cell (k * 8 + 3) (by omega)).1
      have c4 := (HB0.out.cell (k * 8 + 4) (by omega)).1
      have c5 := (HB0.out.cell (k * 8 + 5) (by omega)).1
      have c6 := (HB0.out.cell (k * 8 + 6) (by omega)).1
      have c7 := (HB0.out.cell (k * 8 + 7) (by omega)).1
      have heq := eq_blk f k wr
      cases hz : zeroB f k
      · have HD2 : Hid (emF f m = false) := hid0 (by
          obtain ⟨q, h1, h2⟩ := zeroB_not hz
          cases he : emF f m
          · rfl
          · have := (emF_iff f m).1 he q (by omega)
            rw [this] at h2; cases h2)
        rw [hz] at heq
        clear HD
        go_wp2
        go_ret
        exact ⟨by rw [HD2.out]; rfl, HBe.out⟩
      · have HD2 : Hid (∀ q, q < 512 * (k + 1) → f q = false) := hid0 (fun q hq => by
          by_cases h1 : q < 512 * k
          · exact HD.out q h1
          · exact zeroB_all hz q (by omega) hq)
        rw [hz] at heq
        clear HD
        go_wp2
        go_roundw
        case rel => exact ⟨k + 1, by omega, by go_num, trivial, HD2⟩
        case measure => simp [intOf]; omega
    · have hkI : ¬ (k : Int) < (m : Int) := by omega
      have HD2 : Hid (emF f m = true) := hid0 (by
        refine (emF_iff f m).2 (fun q hq => HD.out q (by omega)))
      clear HD
      go_wp2
      go_ret
      exact ⟨by rw [HD2.out]; rfl, HBe.out⟩
end Go.Proofs.YtlkgghbdgjomkaaDoor
namespace Go.Proofs.YtlkgghbdgjomkaaDoor
theorem low_form (x : Nat) (h0 : x ≠ 0) (h : x < 2 ^ 64) : ∃ m, x = 2 ^ Lib.ctz 64 x * (2 * m + 1) ∧ Lib.ctz 64 x < 64 := by
  obtain ⟨m, h1, h2⟩ := Lib.ctzFrom_spec 64 x (by omega) h
  have : Lib.ctz 64 x = Lib.ctzFrom 64 x := by simp [Lib.ctz, h0]
  rw [this]
  exact ⟨m, h1, h2⟩
theorem pow_form_div (k m : Nat) : 2 ^ k * (2 * m + 1) / 2 ^ k = 2 * m + 1 := by
  rw [Nat.mul_comm, Nat.mul_div_cancel _ (Nat.two_pow_pos k)]
theorem pow_form_pred (k m : Nat) : (2 ^ k * (2 * m + 1) - 1) / 2 ^ k = 2 * m := by
  have hp := Nat.two_pow_pos k
  have e : 2 ^ k * (2 * m + 1) - 1 = 2 ^ k * (2 * m) + (2 ^ k - 1) := by rw [Nat.mul_add, Nat.mul_one]; omega
  rw [e, Nat.mul_add_div hp, Nat.div_eq_of_lt (show 2 ^ k - 1 < 2 ^ k by omega), Nat.add_zero]
theorem low_bits (k m j : Nat) : (2 ^ k * (2 * m + 1)).testBit j = (decide (j = k) || (decide (k < j) && (2 ^ k * (2 * m + 1)).testBit j)) := by
  by_cases h1 : j = k
  · subst h1
    rw [Nat.testBit_eq_decide_div_mod_eq, pow_form_div]
    simp
  · by_cases h2 : k < j
    · simp [h1, h2]
    · have h3 : j < k := by omega
      rw [Nat.testBit_two_pow_mul, decide_eq_false (show ¬ j ≥ k by omega)]
      simp [h1, h2]
theorem low_off (k m j : Nat) : (2 ^ k * (2 * m + 1) &&& (2 ^ k * (2 * m + 1) - 1)).testBit j = (decide (k < j) && (2 ^ k * (2 * m + 1)).testBit j) := by
  rw [Nat.testBit_and]
  by_cases h1 : j = k
  · subst h1
    have : (2 ^ j * (2 * m + 1) - 1).testBit j = false := by
      rw [Nat.testBit_eq_decide_div_mod_eq, pow_form_pred]; simp
    simp [this]
  · by_cases h2 : k < j
    · obtain ⟨i, rfl⟩ : ∃ i, j = k + 1 + i := ⟨j - k - 1, by omega⟩
      have e : (2 ^ k * (2 * m + 1) - 1).testBit (k + 1 + i) = (2 ^ k * (2 * m + 1)).testBit (k + 1 + i) := by
        rw [Nat.testBit_eq_decide_div_mod_eq, Nat.testBit_eq_decide_div_mod_eq, Nat.pow_add, Nat.pow_add, ← Nat.div_div_eq_div_mul, ← Nat.div_div_eq_div_mul, ← Nat.div_div_eq_div_mul, ← Nat.div_div_eq_div_mul, pow_form_pred, pow_form_div]
        have : 2 * m / 2 ^ 1 = (2 * m + 1) / 2 ^ 1 := by omega
        rw [this]
      rw [e, decide_eq_true h2]; simp
    · have : (2 ^ k * (2 * m + 1)).testBit j = false := by
        rw [low_bits]; simp [h1, h2]
      rw [this]; simp
/-- The lowest bit of a word; the word without it. -/
theorem low_word (x : Nat) (h0 : x ≠ 0) (h : x < 2 ^ 64) : x.testBit (Lib.ctz 64 x) = true ∧ Lib.ctz 64 x < 64 ∧ ∀ j, (j < Lib.ctz 64 x → x.testBit j = false) ∧ (x &&& (x - 1)).testBit j = (decide (Lib.ctz 64 x < j) && x.testBit j) := by
  obtain ⟨m, h1, h2⟩ := low_form x h0 h
  generalize Lib.ctz 64 x = k at *
  subst h1
  refine ⟨by rw [low_bits]; simp, h2, fun j => ⟨fun hj => ?_, low_off k m j⟩⟩
  rw [low_bits]; simp; omega
end Go.Proofs.YtlkgghbdgjomkaaDoor
namespace Go.Proofs.YtlkgghbdgjomkaaDoor
/-- The places of a set below n, rising. -/
def plB (f : Nat → Bool) (n : Nat) : List Nat := (List.range n).filter f
theorem plB_zero (f : Nat → Bool) : plB f 0 = [] := rfl
theorem plB_succ (f : Nat → Bool) (n : Nat) : plB f (n + 1) = if f n then plB f n ++ [n] else plB f n := by
  simp only [plB, List.range_succ, List.filter_append]
  cases h : f n <;> simp [h]
theorem plB_skip (f : Nat → Bool) (a : Nat) : ∀ d, (∀ q, a ≤ q → q < a + d → f q = false) → plB f (a + d) = plB f a
  | 0, _ => rfl
  | d + 1, h => by
    rw [← Nat.add_assoc, plB_succ, h (a + d) (by omega) (by omega)]
    simp [plB_skip f a d (fun q h1 h2 => h q h1 (by omega))]
/-- A word without the bits below c. -/
def wordFrom (f : Nat → Bool) (c i : Nat) : Nat := wordOf (fun q => f q && decide (64 * i + c ≤ q)) i
theorem wordFrom_zero (f : Nat → Bool) (i : Nat) : wordFrom f 0 i = wordOf f i := by
  apply Nat.eq_of_testBit_eq
  intro k
  rw [wordFrom, wordOf_bit, wordOf_bit]
  simp
theorem wordFrom_bit (f : Nat → Bool) (c i k : Nat) : (wordFrom f c i).testBit k = (decide (k < 64) && (f (64 * i + k) && decide (c ≤ k))) := by
  rw [wordFrom, wordOf_bit]
  have : decide (64 * i + c ≤ 64 * i + k) = decide (c ≤ k) := by
    by_cases h : c ≤ k
    · rw [decide_eq_true h, decide_eq_true (by omega)]
    · rw [decide_eq_false h, decide_eq_false (by omega)]
  rw [this]
theorem wordFrom_lt (f : Nat → Bool) (c i : Nat) : wordFrom f c i < 18446744073709551616 := wordOf_lt _ _
theorem wordFrom_none {f : Nat → Bool} {c i : Nat} (h : wordFrom f c i = 0) (hc : c ≤ 64) : plB f (64 * (i + 1)) = plB f (64 * i + c) := by
  have := plB_skip f (64 * i + c) (64 - c) (fun q h1 h2 => by
    have hb := wordFrom_bit f c i (q - 64 * i)
    rw [h, Nat.zero_testBit, decide_eq_true (show q - 64 * i < 64 by omega), decide_eq_true (show c ≤ q - 64 * i by omega), show 64 * i + (q - 64 * i) = q by omega] at hb
    simpa using hb.symm)
  rw [← this]
  congr 1
  omega
theorem wordFrom_some {f : Nat → Bool} {c i : Nat} (h : wordFrom f c i ≠ 0) : ∃ t, Lib.ctz 64 (wordFrom f c i) = t ∧ c ≤ t ∧ t < 64 ∧ f (64 * i + t) = true ∧ wordFrom f c i &&& (wordFrom f c i - 1) = wordFrom f (t + 1) i ∧ plB f (64 * i + (t + 1)) = plB f (64 * i + c) ++ [64 * i + t] := by
  obtain ⟨h1, h2, h3⟩ := low_word _ h (wordFrom_lt f c i)
  refine ⟨_, rfl, ?_⟩
  generalize Lib.ctz 64 (wordFrom f c i) = t at *
  rw [wordFrom_bit, decide_eq_true h2, Bool.true_and, Bool.and_eq_true] at h1
  have hct : c ≤ t := of_decide_eq_true h1.2
  refine ⟨hct, h2, h1.1, ?_, ?_⟩
  · apply Nat.eq_of_testBit_eq
    intro j
    rw [(h3 j).2, wordFrom_bit, wordFrom_bit]
    by_cases hj : t < j
    · rw [decide_eq_true hj, decide_eq_true (show c ≤ j by omega), decide_eq_true (show t + 1 ≤ j by omega), Bool.true_and]
    · rw [decide_eq_false hj, decide_eq_false (show ¬ t + 1 ≤ j by omega)]
      simp
  · rw [← Nat.add_assoc, plB_succ, h1.1, if_pos rfl]
    have := plB_skip f (64 * i + c) (t - c) (fun q h4 h5 => by
      have hb := (h3 (q - 64 * i)).1 (by omega)
      rw [wordFrom_bit, decide_eq_true (show q - 64 * i < 64 by omega), decide_eq_true (show c ≤ q - 64 * i by omega), show 64 * i + (q - 64 * i) = q by omega] at hb
      simpa using hb)
    rw [show 64 * i + t = 64 * i + c + (t - c) by omega, this]
end Go.Proofs.YtlkgghbdgjomkaaDoor
namespace Go.Proofs.YtlkgghbdgjomkaaDoor
open Go.RowKit Go.Shelf
def orTo (f h : Nat → Bool) (n q : Nat) : Bool := f q || (decide (q < n) && h q)
def andTo (f h : Nat → Bool) (n q : Nat) : Bool := f q && (h q || decide (n ≤ q))
theorem orTo_zero (f h : Nat → Bool) : orTo f h 0 = f := by funext q; simp [orTo]
theorem andTo_zero (f h : Nat → Bool) : andTo f h 0 = f := by funext q; simp [andTo]
theorem wordOf_same {f h : Nat → Bool} {i : Nat} (e : ∀ j, j < 64 → f (64 * i + j) = h (64 * i + j)) : wordOf f i = wordOf h i := by
  apply Nat.eq_of_testBit_eq
  intro k
  rw [wordOf_bit, wordOf_bit]
  by_cases hl : k < 64
  · rw [e k hl]
  · rw [decide_eq_false hl, Bool.false_and, Bool.false_and]
theorem orTo_other (f h : Nat → Bool) (x i : Nat) (hi : ¬ i = x) : wordOf (orTo f h (64 * (x + 1))) i = wordOf (orTo f h (64 * x)) i :=
  wordOf_same (fun j hj => by
    unfold orTo
    have : decide (64 * i + j < 64 * (x + 1)) = decide (64 * i + j < 64 * x) := by
      by_cases h1 : 64 * i + j < 64 * x
      · rw [decide_eq_true h1, decide_eq_true (by omega)]
      · rw [decide_eq_false h1, decide_eq_false (by omega)]
    rw [this])
theorem andTo_other (f h : Nat → Bool) (x i : Nat) (hi : ¬ i = x) : wordOf (andTo f h (64 * (x + 1))) i = wordOf (andTo f h (64 * x)) i :=
  wordOf_same (fun j hj => by
    unfold andTo
    have : decide (64 * (x + 1) ≤ 64 * i + j) = decide (64 * x ≤ 64 * i + j) := by
      by_cases h1 : 64 * x ≤ 64 * i + j
      · rw [decide_eq_true h1, decide_eq_true (by omega)]
      · rw [decide_eq_false h1, decide_eq_false (by omega)]
    rw [this])
theorem orTo_word (f h : Nat → Bool) (x : Nat) : wordOf (orTo f h (64 * x)) x ||| wordOf h x = wordOf (orTo f h (64 * (x + 1))) x := by
  apply Nat.eq_of_testBit_eq
  intro k
  rw [Nat.testBit_or, wordOf_bit, wordOf_bit, wordOf_bit]
  by_cases hl : k < 64
  · unfold orTo
    rw [decide_eq_true hl, decide_eq_true (show 64 * x + k < 64 * (x + 1) by omega), decide_eq_false (show ¬ 64 * x + k < 64 * x by omega)]
    simp
  · rw [decide_eq_false hl]; rfl
theorem andTo_word (f h : Nat → Bool) (x : Nat) : wordOf (andTo f h (64 * x)) x &&& wordOf h x = wordOf (andTo f h (64 * (x + 1))) x := by
  apply Nat.eq_of_testBit_eq
  intro k
  rw [Nat.testBit_and, wordOf_bit, wordOf_bit, wordOf_bit]
  by_cases hl : k < 64
  · unfold andTo
    rw [decide_eq_true hl, decide_eq_false (show ¬ 64 * (x + 1) ≤ 64 * x + k by omega), decide_eq_true (show 64 * x ≤ 64 * x + k by omega)]
    simp
  · rw [decide_eq_false hl]; rfl
theorem BS.put {w : World} {g m : Nat} {f f' : Nat → Bool} (h : BS w g m f) (x : Nat) (he : ∀ i, ¬ i = x → wordOf f' i = wordOf f i) (ho : ∀ q, 512 * m ≤ q → f' q = false) : BS (w.setCell ⟨g, x, none⟩ (.int .u64 (wordOf f' x : Int))) g m f' := by
  obtain ⟨cur, h1, h2⟩ := h.row
  refine ⟨⟨_, heap_setCell_same w g x _ _ _ h1, fun i hi => ?_⟩, ho⟩
  by_cases e : i = x
  · subst e
    have : i < cur.size := (Array.getElem?_eq_some_iff.1 (h2 _ hi)).1
    simp [this]
  · rw [Array.getElem?_setIfInBounds_ne (fun e' => e e'.symm), h2 i hi, he i e]
theorem index_blk (h : Nat → Bool) (k j : Nat) (hj : j < 8) (w : World) : (Instr.index 74 (.agg #[.int .u64 (wordOf h (k * 8) : Int), .int .u64 (wordOf h (k * 8 + 1) : Int), .int .u64 (wordOf h (k * 8 + 2) : Int), .int .u64 (wordOf h (k * 8 + 3) : Int), .int .u64 (wordOf h (k * 8 + 4) : Int), .int .u64 (wordOf h (k * 8 + 5) : Int), .int .u64 (wordOf h (k * 8 + 6) : Int), .int .u64 (wordOf h (k * 8 + 7) : Int)]) (.int .i64 (j : Int))).run Tryd.prog w = .ok (.int .u64 (wordOf h (k * 8 + j) : Int)) w := by
  obtain ⟨i, hi, hz0, hz1, hz2⟩ := info_parts infoU64
  have : j = 0 ∨ j = 1 ∨ j = 2 ∨ j = 3 ∨ j = 4 ∨ j = 5 ∨ j = 6 ∨ j = 7 := by omega
  rcases this with rfl | rfl | rfl | rfl | rfl | rfl | rfl | rfl <;> simp [Instr.index, go_sem, part]
theorem BS.only {w w' : World} {g m : Nat} {f : Nat → Bool} {S : Nat → Prop} (h : BS w g m f) (ho : Only w w' S) (hs : ¬ S g) : BS w' g m f := h.kept (ho.block g h.lt hs)
set_option maxRecDepth 10000 in
set_option maxHeartbeats 3200000 in
theorem join_any (A o g g2 m : Nat) (f h : Nat → Bool) (w : World) (hm : m ≤ 1000000) (hAl : A < w.heap.size) (hA : ¬ A = g) (hgg : ¬ g2 = g) (hs : w.cell? ⟨A, o, none⟩ = some (.slice (some ⟨g, 0, none⟩) m m)) (hf : BS w g m f) (hh : BS w g2 m h) :
    Calls Tryd.prog 57 #[.pointer (some ⟨A, o, none⟩), .agg #[.slice (some ⟨g2, 0, none⟩) m m]] w fun e w' => e = .returned (.tuple #[]) ∧ BS w' g m (orTo f h (64 * (m * 8))) ∧ Only w w' (fun k => k = g) := by
  obtain ⟨w0, hw0⟩ : ∃ w0, w0 = w.alloc (.cells #[.slice (some ⟨g2, 0, none⟩) m m] 56) := ⟨_, rfl⟩
  have ho0 : Only w w0 (fun k => k = g) := by rw [hw0]; exact Only.alloc _ _ _
  have hgl := hf.lt
  have hs0 : w0.heap.size = w.heap.size + 1 := by rw [hw0]; simp
  have HF0 := hid0 (hf.kept (w' := w0) (by rw [hw0]; exact Below.heap_alloc w _ g hf.lt))
  have HH0 := hid0 (hh.only ho0 hgg)
  have hsA : w0.cell? ⟨A, o, none⟩ = some (.slice (some ⟨g, 0, none⟩) m m) := by rw [ho0.cell (p := ⟨A, o, none⟩) hAl hA]; exact hs
  have hsB : w0.cell? ⟨w.heap.size, 0, none⟩ = some (.slice (some ⟨g2, 0, none⟩) m m) := by rw [hw0]; exact cell_one_new _ _ _ 0 _ rfl
  have HO0 := hid0 ho0
  have HSA := hid0 hsA
  have HSB := hid0 hsB
  have HOut : Hid (∀ n q, 512 * m ≤ q → orTo f h n q = false) := hid0 (fun n q hq => by simp [orTo, hf.out q hq, hh.out q hq])
  have hfold := hw0.symm
  clear hf hh hs hw0 ho0
  go_enter Tryd.func57, Tryd.ntmps57
  go_wp2
  go_loopw [15] (fun i wr => ∃ k : Nat, k ≤ m ∧ i = .int .i64 (k : Int) ∧ Hid (BS wr g m (orTo f h (64 * (k * 8)))) ∧ Hid (Only w0 wr (fun k => k = g))) (fun i _ => m - (intOf i).toNat)
  case atStart => exact ⟨0, Nat.zero_le _, rfl, hid0 (by rw [show 64 * (0 * 8) = 0 from rfl, orTo_zero]; exact HF0.out), hid0 (Only.refl _ _)⟩
  case round =>
    obtain ⟨k, hk, rfl, HF, HO⟩ := hrel
    by_cases hlt : k < m
    · have hkI : (k : Int) < (m : Int) := by omega
      have hkI0 : (0 : Int) ≤ (k : Int) := by omega
      have hB1 : wr.cell? ⟨w.heap.size, 0, none⟩ = some (.slice (some ⟨g2, 0, none⟩) m m) := by rw [HO.out.cell (p := ⟨w.heap.size, 0, none⟩) (by show w.heap.size < _; omega) (by show ¬ w.heap.size = g; omega)]; exact HSB.out
      have HH1 := HH0.out.only HO.out hgg
      have c0 := (HH1.cell (k * 8) (by omega)).1
      have c1 := (HH1.cell (k * 8 + 1) (by omega)).1
      have c2 := (HH1.cell (k * 8 + 2) (by omega)).1
      have c3 := (HH1.cell (k * 8 + 3) (by omega)).1
      have c4 := (HH1.cell (k * 8 + 4) (by omega)).1
      have c5 := (HH1.cell (k * 8 + 5) (by omega)).1
      have c6 := (HH1.cell (k * 8 + 6) (by omega)).1
      have c7 := (HH1.cell (k * 8 + 7) (by omega)).1
      clear HH1
      go_wp2
      go_loopw [23] (fun i wr => ∃ j : Nat, j ≤ 8 ∧ i = .int .i64 (j : Int) ∧ Hid (BS wr g m (orTo f h (64 * (k * 8 + j)))) ∧ Hid (Only w0 wr (fun k => k = g))) (fun i _ => 8 - (intOf i).toNat)
      case atStart => exact ⟨0, Nat.zero_le _, rfl, HF, HO⟩
      case round =>
        clear hB1 c0 c1 c2 c3 c4 c5 c6 c7 HF HO
        obtain ⟨j, hj, rfl, HF, HO⟩ := hrel
        by_cases hj8 : j < 8
        · have hjI : (j : Int) < 8 := by omega
          have hjI0 : (0 : Int) ≤ (j : Int) := by omega
          have hA1 : wr.cell? ⟨A, o, none⟩ = some (.slice (some ⟨g, 0, none⟩) m m) := by rw [HO.out.cell (p := ⟨A, o, none⟩) (by show A < _; omega) hA]; exact HSA.out
          obtain ⟨k0, k1⟩ := HF.out.cell (k * 8 + j) (by omega)
          have hix := index_blk h k j hj8 wr
          obtain ⟨a, ha⟩ : ∃ a : Nat, a = wordOf (orTo f h (64 * (k * 8 + j))) (k * 8 + j) := ⟨_, rfl⟩
          obtain ⟨b, hb⟩ : ∃ b : Nat, b = wordOf h (k * 8 + j) := ⟨_, rfl⟩
          have hal : a < 18446744073709551616 := by rw [ha]; exact wordOf_lt _ _
          have hbl : b < 18446744073709551616 := by rw [hb]; exact wordOf_lt _ _
          rw [← ha] at k0
          rw [← hb] at hix
          obtain ⟨aI, haI⟩ : ∃ aI : Int, (a : Int) = aI := ⟨_, rfl⟩
          obtain ⟨bI, hbI⟩ : ∃ bI : Int, (b : Int) = bI := ⟨_, rfl⟩
          obtain ⟨eI, heI⟩ : ∃ eI : Int, ((a ||| b : Nat) : Int) = eI := ⟨_, rfl⟩
          have hor : bits .or .u64 aI bI = eI := by rw [← haI, ← hbI, ← heI]; exact bits_or_u64_nat a b hal hbl
          have hs2 : a ||| b = wordOf (orTo f h (64 * (k * 8 + j + 1))) (k * 8 + j) := by
            rw [ha, hb]; exact orTo_word f h (k * 8 + j)
          have hBS := HF.out.put (k * 8 + j) (orTo_other f h (k * 8 + j)) (HOut.out _)
          rw [← hs2, heI] at hBS
          have HBS : Hid (∀ n, BS ((wr.drewN n).setCell ⟨g, k * 8 + j, none⟩ (.int .u64 eI)) g m (orTo f h (64 * (k * 8 + (j + 1))))) := hid0 (fun n => ⟨hBS.row, hBS.out⟩)
          have HO1 : Hid (∀ n, Only w0 ((wr.drewN n).setCell ⟨g, k * 8 + j, none⟩ (.int .u64 eI)) (fun k => k = g)) := hid0 (fun n => HO.out.trans ((Only.drewN wr n _).trans (Only.setCell _ g _ _) (fun i hi => .inl hi)) (fun i hi => .inl hi))
          rw [haI] at k0
          rw [hbI] at hix
          clear ha hb hal hbl haI hbI heI hs2 hBS HF HO
          go_wp2
          go_region
          go_wp2
          go_roundw
          case rel => exact ⟨j + 1, by omega, by go_num, hid0 (HBS.out _), hid0 (HO1.out _)⟩
          case measure => simp [intOf]; omega
        · have hjI : ¬ (j : Int) < 8 := by omega
          have HE : Hid (BS wr g m (orTo f h (64 * ((k + 1) * 8)))) := hid0 (by have := HF.out; rwa [show k * 8 + j = (k + 1) * 8 by omega] at this)
          clear HF
          go_wp2
          go_roundw
          case rel => exact ⟨k + 1, by omega, by go_num, HE, HO⟩
          case measure => simp [intOf]; omega
    · have hkI : ¬ (k : Int) < (m : Int) := by omega
      have HE : Hid (BS wr g m (orTo f h (64 * (m * 8)))) := hid0 (by have := HF.out; rwa [show k = m by omega] at this)
      clear HF
      go_wp2
      go_end0
      exact ⟨rfl, HE.out, HO0.out.trans HO.out (fun i hi => .inl hi)⟩
set_option maxRecDepth 10000 in
set_option maxHeartbeats 3200000 in
theorem meet_any (A o g g2 m : Nat) (f h : Nat → Bool) (w : World) (hm : m ≤ 1000000) (hAl : A < w.heap.size) (hA : ¬ A = g) (hgg : ¬ g2 = g) (hs : w.cell? ⟨A, o, none⟩ = some (.slice (some ⟨g, 0, none⟩) m m)) (hf : BS w g m f) (hh : BS w g2 m h) :
    Calls Tryd.prog 52 #[.pointer (some ⟨A, o, none⟩), .agg #[.slice (some ⟨g2, 0, none⟩) m m]] w fun e w' => e = .returned (.tuple #[]) ∧ BS w' g m (andTo f h (64 * (m * 8))) ∧ Only w w' (fun k => k = g) := by
  obtain ⟨w0, hw0⟩ : ∃ w0, w0 = w.alloc (.cells #[.slice (some ⟨g2, 0, none⟩) m m] 56) := ⟨_, rfl⟩
  have ho0 : Only w w0 (fun k => k = g) := by rw [hw0]; exact Only.alloc _ _ _
  have hgl := hf.lt
  have hs0 : w0.heap.size = w.heap.size + 1 := by rw [hw0]; simp
  have HF0 := hid0 (hf.kept (w' := w0) (by rw [hw0]; exact Below.heap_alloc w _ g hf.lt))
  have HH0 := hid0 (hh.only ho0 hgg)
  have hsA : w0.cell? ⟨A, o, none⟩ = some (.slice (some ⟨g, 0, none⟩) m m) := by rw [ho0.cell (p := ⟨A, o, none⟩) hAl hA]; exact hs
  have hsB : w0.cell? ⟨w.heap.size, 0, none⟩ = some (.slice (some ⟨g2, 0, none⟩) m m) := by rw [hw0]; exact cell_one_new _ _ _ 0 _ rfl
  have HO0 := hid0 ho0
  have HSA := hid0 hsA
  have HSB := hid0 hsB
  have HOut : Hid (∀ n q, 512 * m ≤ q → andTo f h n q = false) := hid0 (fun n q hq => by simp [andTo, hf.out q hq, hh.out q hq])
  have hfold := hw0.symm
  clear hf hh hs hw0 ho0
  go_enter Tryd.func52, Tryd.ntmps52
  go_wp2
  go_loopw [12] (fun i wr => ∃ k : Nat, k ≤ m ∧ i = .int .i64 (k : Int) ∧ Hid (BS wr g m (andTo f h (64 * (k * 8)))) ∧ Hid (Only w0 wr (fun k => k = g))) (fun i _ => m - (intOf i).toNat)
  case atStart => exact ⟨0, Nat.zero_le _, rfl, hid0 (by rw [show 64 * (0 * 8) = 0 from rfl, andTo_zero]; exact HF0.out), hid0 (Only.refl _ _)⟩
  case round =>
    obtain ⟨k, hk, rfl, HF, HO⟩ := hrel
    by_cases hlt : k < m
    · have hkI : (k : Int) < (m : Int) := by omega
      have hkI0 : (0 : Int) ≤ (k : Int) := by omega
      have hB1 : wr.cell? ⟨w.heap.size, 0, none⟩ = some (.slice (some ⟨g2, 0, none⟩) m m) := by rw [HO.out.cell (p := ⟨w.heap.size, 0, none⟩) (by show w.heap.size < _; omega) (by show ¬ w.heap.size = g; omega)]; exact HSB.out
      have HH1 := HH0.out.only HO.out hgg
      have c0 := (HH1.cell (k * 8) (by omega)).1
      have c1 := (HH1.cell (k * 8 + 1) (by omega)).1
      have c2 := (HH1.cell (k * 8 + 2) (by omega)).1
      have c3 := (HH1.cell (k * 8 + 3) (by omega)).1
      have c4 := (HH1.cell (k * 8 + 4) (by omega)).1
      have c5 := (HH1.cell (k * 8 + 5) (by omega)).1
      have c6 := (HH1.cell (k * 8 + 6) (by omega)).1
      have c7 := (HH1.cell (k * 8 + 7) (by omega)).1
      clear HH1
      go_wp2
      go_loopw [20] (fun i wr => ∃ j : Nat, j ≤ 8 ∧ i = .int .i64 (j : Int) ∧ Hid (BS wr g m (andTo f h (64 * (k * 8 + j)))) ∧ Hid (Only w0 wr (fun k => k = g))) (fun i _ => 8 - (intOf i).toNat)
      case atStart => exact ⟨0, Nat.zero_le _, rfl, HF, HO⟩
      case round =>
        clear hB1 c0 c1 c2 c3 c4 c5 c6 c7 HF HO
        obtain ⟨j, hj, rfl, HF, HO⟩ := hrel
        by_cases hj8 : j < 8
        · have hjI : (j : Int) < 8 := by omega
          have hjI0 : (0 : Int) ≤ (j : Int) := by omega
          have hA1 : wr.cell? ⟨A, o, none⟩ = some (.slice (some ⟨g, 0, none⟩) m m) := by rw [HO.out.cell (p := ⟨A, o, none⟩) (by show A < _; omega) hA]; exact HSA.out
          obtain ⟨k0, k1⟩ := HF.out.cell (k * 8 + j) (by omega)
          have hix := index_blk h k j hj8 wr
          obtain ⟨a, ha⟩ : ∃ a : Nat, a = wordOf (andTo f h (64 * (k * 8 + j))) (k * 8 + j) := ⟨_, rfl⟩
          obtain ⟨b, hb⟩ : ∃ b : Nat, b = wordOf h (k * 8 + j) := ⟨_, rfl⟩
          have hal : a < 18446744073709551616 := by rw [ha]; exact wordOf_lt _ _
          have hbl : b < 18446744073709551616 := by rw [hb]; exact wordOf_lt _ _
          rw [← ha] at k0
          rw [← hb] at hix
          obtain ⟨aI, haI⟩ : ∃ aI : Int, (a : Int) = aI := ⟨_, rfl⟩
          obtain ⟨bI, hbI⟩ : ∃ bI : Int, (b : Int) = bI := ⟨_, rfl⟩
          obtain ⟨eI, heI⟩ : ∃ eI : Int, ((a &&& b : Nat) : Int) = eI := ⟨_, rfl⟩
          have hor : bits .and .u64 aI bI = eI := by rw [← haI, ← hbI, ← heI]; exact bits_and_u64_nat a b hal hbl
          have hs2 : a &&& b = wordOf (andTo f h (64 * (k * 8 + j + 1))) (k * 8 + j) := by
            rw [ha, hb]; exact andTo_word f h (k * 8 + j)
          have hBS := HF.out.put (k * 8 + j) (andTo_other f h (k * 8 + j)) (HOut.out _)
          rw [← hs2, heI] at hBS
          have HBS : Hid (∀ n, BS ((wr.drewN n).setCell ⟨g, k * 8 + j, none⟩ (.int .u64 eI)) g m (andTo f h (64 * (k * 8 + (j + 1))))) := hid0 (fun n => ⟨hBS.row, hBS.out⟩)
          have HO1 : Hid (∀ n, Only w0 ((wr.drewN n).setCell ⟨g, k * 8 + j, none⟩ (.int .u64 eI)) (fun k => k = g)) := hid0 (fun n => HO.out.trans ((Only.drewN wr n _).trans (Only.setCell _ g _ _) (fun i hi => .inl hi)) (fun i hi => .inl hi))
          rw [haI] at k0
          rw [hbI] at hix
          clear ha hb hal hbl haI hbI heI hs2 hBS HF HO
          go_wp2
          go_region
          go_wp2
          go_roundw
          case rel => exact ⟨j + 1, by omega, by go_num, hid0 (HBS.out _), hid0 (HO1.out _)⟩
          case measure => simp [intOf]; omega
        · have hjI : ¬ (j : Int) < 8 := by omega
          have HE : Hid (BS wr g m (andTo f h (64 * ((k + 1) * 8)))) := hid0 (by have := HF.out; rwa [show k * 8 + j = (k + 1) * 8 by omega] at this)
          clear HF
          go_wp2
          go_roundw
          case rel => exact ⟨k + 1, by omega, by go_num, HE, HO⟩
          case measure => simp [intOf]; omega
    · have hkI : ¬ (k : Int) < (m : Int) := by omega
      have HE : Hid (BS wr g m (andTo f h (64 * (m * 8)))) := hid0 (by have := HF.out; rwa [show k = m by omega] at this)
      clear HF
      go_wp2
      go_end0
      exact ⟨rfl, HE.out, HO0.out.trans HO.out (fun i hi => .inl hi)⟩
end Go.Proofs.YtlkgghbdgjomkaaDoor
namespace Go.Proofs.YtlkgghbdgjomkaaDoor
open Go.RowKit Go.Shelf
set_option maxRecDepth 10000 in
set_option maxHeartbeats 800000 in
theorem joinNil_any (A o g m : Nat) (w : World) (hm : m ≤ 1000000) (hAl : A < w.heap.size) (hs : w.cell? ⟨A, o, none⟩ = some (.slice (some ⟨g, 0, none⟩) m m)) :
    Calls Tryd.prog 57 #[.pointer (some ⟨A, o, none⟩), .agg #[.slice none 0 0]] w fun e w' => e = .returned (.tuple #[]) ∧ Below w.heap.size w w' := by
  obtain ⟨w0, hw0⟩ : ∃ w0, w0 = w.alloc (.cells #[.slice none 0 0] 56) := ⟨_, rfl⟩
  have hb0 : Below w.heap.size w w0 := by rw [hw0]; exact (Below.refl _ _).alloc (Nat.le_refl _) _
  have hsA : w0.cell? ⟨A, o, none⟩ = some (.slice (some ⟨g, 0, none⟩) m m) := by rw [hb0.cell (p := ⟨A, o, none⟩) hAl]; exact hs
  have hsB : w0.cell? ⟨w.heap.size, 0, none⟩ = some (.slice none 0 0) := by rw [hw0]; exact cell_one_new _ _ _ 0 _ rfl
  have HB0 := hid0 hb0
  have hfold := hw0.symm
  have hmI : (0 : Int) ≤ (m : Int) := by omega
  clear hw0 hb0 hs
  go_enter Tryd.func57, Tryd.ntmps57
  go_wp2
  go_loopw [15] (fun i wr => i = .int .i64 0 ∧ wr = w0) (fun _ _ => 0)
  case atStart => exact ⟨rfl, rfl⟩
  case round =>
    obtain ⟨rfl, rfl⟩ := hrel
    go_wp2
    go_end0
    exact ⟨rfl, HB0.out⟩
/-- A row of places. -/
inductive RowIs (w : World) (m : Nat) (L : List Int) : Option Nat → Value → Prop
  | short (a : Option Addr) (c : Nat) (h : IA w a L) : RowIs w m L (a.map (·.block)) (.agg #[.slice a L.length c, .slice none 0 0])
  | long (g : Nat) (h : BS w g m (addF L (fun _ => false))) : RowIs w m L (some g) (.agg #[.slice none 0 0, .slice (some ⟨g, 0, none⟩) m m])
theorem IA.only {w w' : World} {a : Option Addr} {L : List Int} {S : Nat → Prop} (h : IA w a L) (ho : Only w w' S) (hs : ∀ p, a = some p → ¬ S p.block) : IA w' a L := ⟨fun k hk => by
  obtain ⟨b, off, rfl, h1, h2⟩ := h.at' k hk
  exact ⟨b, off, rfl, Nat.lt_of_lt_of_le h1 ho.size, (ho.cell (p := ⟨b, off + k, none⟩) h1 (hs ⟨b, off, none⟩ rfl)).trans h2⟩⟩
theorem RowIs.only {w w' : World} {m : Nat} {L : List Int} {x : Option Nat} {v : Value} {S : Nat → Prop} (h : RowIs w m L x v) (ho : Only w w' S) (hs : ∀ b, x = some b → ¬ S b) : RowIs w' m L x v := by
  cases h with
  | short a c h => exact .short a c (h.only ho (fun p hp => hs _ (by rw [hp]; rfl)))
  | long g h => exact .long g (h.only ho (hs g rfl))
theorem addF_or (L : List Int) (f : Nat → Bool) (n : Nat) (h : L.all (oneOf n) = true) (m : Nat) (hn : n ≤ 512 * m) : orTo f (addF L (fun _ => false)) (64 * (m * 8)) = addF L f := by
  funext q
  unfold orTo addF
  by_cases hq : q < 64 * (m * 8)
  · rw [decide_eq_true hq, Bool.true_and, Bool.or_false, Bool.or_comm]
  · rw [decide_eq_false hq, Bool.false_and, Bool.or_false]
    have : L.any (fun x => decide (x = (q : Int))) = false := by
      rw [List.any_eq_false]
      intro x hx hd
      have h1 := (oneOf_iff n x).1 (List.all_eq_true.1 h x hx)
      have h2 := of_decide_eq_true hd
      omega
    rw [this, Bool.false_or]
set_option maxRecDepth 10000 in
set_option maxHeartbeats 1600000 in
theorem joinTo_any (A o g m n : Nat) (f : Nat → Bool) (L : List Int) (x : Option Nat) (v : Value) (w : World) (hl : L.length ≤ 100000000000000) (hm : m ≤ 1000000) (hn : n ≤ 512 * m) (hall : L.all (oneOf n) = true) (hAl : A < w.heap.size) (hA : ¬ A = g) (hs : w.cell? ⟨A, o, none⟩ = some (.slice (some ⟨g, 0, none⟩) m m)) (h : BS w g m f) (hv : RowIs w m L x v) (hx : ¬ x = some g) :
    Calls Tryd.prog 51 #[v, .pointer (some ⟨A, o, none⟩)] w fun e w' => e = .returned (.tuple #[]) ∧ BS w' g m (addF L f) ∧ Only w w' (fun k => k = g) := by
  have hgl := h.lt
  cases hv with
  | short a c hi =>
    obtain ⟨w0, hw0⟩ : ∃ w0, w0 = w.alloc (.cells #[.slice a L.length c, .slice none 0 0] 64) := ⟨_, rfl⟩
    have ho0 : Only w w0 (fun k => k = g) := by rw [hw0]; exact Only.alloc _ _ _
    have hb0 : Below w.heap.size w w0 := by rw [hw0]; exact (Below.refl _ _).alloc (Nat.le_refl _) _
    have hr0 : w0.heap[w.heap.size]? = some (.cells #[.slice a L.length c, .slice none 0 0] 64 (0, 0)) := by rw [hw0]; exact heap_alloc_new w _
    have hs0 : w0.heap.size = w.heap.size + 1 := by rw [hw0]; simp
    have c0 : w0.cell? ⟨w.heap.size, 0, none⟩ = some (.slice a L.length c) := by rw [cell_of_row _ _ _ _ _ _ hr0]; rfl
    have hsA : w0.cell? ⟨A, o, none⟩ = some (.slice (some ⟨g, 0, none⟩) m m) := by rw [hb0.cell (p := ⟨A, o, none⟩) hAl]; exact hs
    have HC := hid0 (addAll_any A o g m n f L a c w0 hl hm hn hall (by omega) hA hsA (hi.past hb0) (fun p hp e => hx (by rw [hp]; exact congrArg some e)) (h.kept (hb0.block g h.lt)))
    have HN : Hid (∀ w1, Only w0 w1 (fun k => k = g) → Calls Tryd.prog 57 #[.pointer (some ⟨A, o, none⟩), .agg #[.slice none 0 0]] w1 fun e w' => e = .returned (.tuple #[]) ∧ Below w1.heap.size w1 w') := hid0 (fun w1 ho1 => joinNil_any A o g m w1 hm (by have := ho1.size; omega) (by rw [ho1.cell (p := ⟨A, o, none⟩) (by show A < _; omega) hA]; exact hsA))
    have HR : Hid (∀ w1, Only w0 w1 (fun k => k = g) → w1.cell? ⟨w.heap.size, 1, none⟩ = some (.slice none 0 0)) := hid0 (fun w1 ho1 => by
      rw [ho1.cell (p := ⟨w.heap.size, 1, none⟩) (by show w.heap.size < _; omega) (by show ¬ w.heap.size = g; omega), cell_of_row _ _ _ _ _ _ hr0]; rfl)
    have HO := hid0 ho0
    have hfold := hw0.symm
    clear hw0 ho0 hb0 hr0 hs h hi hall
    go_enter Tryd.func51, Tryd.ntmps51
    go_wp2_with (first
      | (go_at_call 50; refine HC.out.mono ?_; rintro e w1 ⟨rfl, hb1, ho1⟩; have HB1 := hid0 hb1; have c1 := HR.out w1 ho1; have HJ := hid0 (HN.out w1 ho1); have HO1 := hid0 ho1; clear hb1 ho1)
      | (go_at_call 57; refine HJ.out.mono ?_; rintro e w2 ⟨rfl, hb2⟩; have HB2 := hid0 hb2; clear hb2))
    go_end0
    exact ⟨rfl, HB1.out.kept (HB2.out.block g HB1.out.lt), (HO.out.trans HO1.out (fun i hi => .inl hi)).trans (Only.ofBelow HB2.out (fun _ => False) (fun i h1 h2 => by omega)) (fun i hi => absurd hi id)⟩
  | long g2 h2 =>
    have hg2 : ¬ g2 = g := fun e => hx (by rw [e])
    have hl2 := h2.lt
    obtain ⟨w0, hw0⟩ : ∃ w0, w0 = w.alloc (.cells #[.slice none 0 0, .slice (some ⟨g2, 0, none⟩) m m] 64) := ⟨_, rfl⟩
    have ho0 : Only w w0 (fun k => k = g) := by rw [hw0]; exact Only.alloc _ _ _
    have hb0 : Below w.heap.size w w0 := by rw [hw0]; exact (Below.refl _ _).alloc (Nat.le_refl _) _
    have hr0 : w0.heap[w.heap.size]? = some (.cells #[.slice none 0 0, .slice (some ⟨g2, 0, none⟩) m m] 64 (0, 0)) := by rw [hw0]; exact heap_alloc_new w _
    have hs0 : w0.heap.size = w.heap.size + 1 := by rw [hw0]; simp
    have c0 : w0.cell? ⟨w.heap.size, 0, none⟩ = some (.slice none 0 0) := by rw [cell_of_row _ _ _ _ _ _ hr0]; rfl
    have hsA : w0.cell? ⟨A, o, none⟩ = some (.slice (some ⟨g, 0, none⟩) m m) := by rw [hb0.cell (p := ⟨A, o, none⟩) hAl]; exact hs
    have HC := hid0 (addAll_any A o g m n f [] none 0 w0 (by simp) hm hn rfl (by omega) hA hsA ⟨fun k hk => by simp at hk⟩ (fun p hp => by cases hp) (h.kept (hb0.block g h.lt)))
    have h20 := h2.kept (hb0.block g2 h2.lt)
    have HN : Hid (∀ w1, BS w1 g m (addF [] f) → Only w0 w1 (fun k => k = g) → Calls Tryd.prog 57 #[.pointer (some ⟨A, o, none⟩), .agg #[.slice (some ⟨g2, 0, none⟩) m m]] w1 fun e w' => e = .returned (.tuple #[]) ∧ BS w' g m (addF L f) ∧ Only w1 w' (fun k => k = g)) := hid0 (fun w1 hb1 ho1 => by
      rw [addF_nil] at hb1
      rw [← addF_or L f n hall m hn]
      exact join_any A o g g2 m f _ w1 hm (by have := ho1.size; omega) hA hg2 (by rw [ho1.cell (p := ⟨A, o, none⟩) (by show A < _; omega) hA]; exact hsA) hb1 (h20.only ho1 hg2))
    have HR : Hid (∀ w1, Only w0 w1 (fun k => k = g) → w1.cell? ⟨w.heap.size, 1, none⟩ = some (.slice (some ⟨g2, 0, none⟩) m m)) := hid0 (fun w1 ho1 => by
      rw [ho1.cell (p := ⟨w.heap.size, 1, none⟩) (by show w.heap.size < _; omega) (by show ¬ w.heap.size = g; omega), cell_of_row _ _ _ _ _ _ hr0]; rfl)
    have HO := hid0 ho0
    have hfold := hw0.symm
    clear hw0 ho0 hb0 hr0 hs h h2 h20 hall
    go_enter Tryd.func51, Tryd.ntmps51
    go_wp2_with (first
      | (go_at_call 50; refine HC.out.mono ?_; rintro e w1 ⟨rfl, hb1, ho1⟩; have c1 := HR.out w1 ho1; have HJ := hid0 (HN.out w1 hb1 ho1); have HO1 := hid0 ho1; clear hb1 ho1)
      | (go_at_call 57; refine HJ.out.mono ?_; rintro e w2 ⟨rfl, hb2, ho2⟩; have HB2 := hid0 hb2; have HO2 := hid0 ho2; clear hb2 ho2))
    go_end0
    exact ⟨rfl, HB2.out, (HO.out.trans HO1.out (fun i hi => .inl hi)).trans HO2.out (fun i hi => .inl hi)⟩
end Go.Proofs.YtlkgghbdgjomkaaDoor
namespace Go.Proofs
open Go.Shelf
def Tryd.lays7n29_ren : Go.Shelf.Ren := ⟨fun | 29 => 58 | n => n, fun | 22 => 72 | 3 => 3 | 4 => 4 | 25 => 78 | 54 => 77 | 0 => 0 | 5 => 5 | n => n, fun | 1 => 11 | n => n⟩
theorem Tryd.lays7n29 : Go.Proofs.Lays7.n29 Tryd.prog Tryd.lays7n29_ren := {
  mixed := by kernel_rfl
  f29 := Tryd.func58.trans (congrArg some (by kernel_rfl))
  t0 := Tryd.underlying0
  a0 := Tryd.isAgg0
  z0 := Tryd.sizeOf0
  v0 := Tryd.zeroValue0
  i0 := by kernel_rfl
  t3 := Tryd.underlying3
  a3 := Tryd.isAgg3
  z3 := Tryd.sizeOf3
  v3 := Tryd.zeroValue3
  i3 := by kernel_rfl
  t4 := Tryd.underlying4
  a4 := Tryd.isAgg4
  z4 := Tryd.sizeOf4
  v4 := Tryd.zeroValue4
  i4 := by kernel_rfl
  t5 := Tryd.underlying5
  a5 := Tryd.isAgg5
  z5 := Tryd.sizeOf5
  v5 := Tryd.zeroValue5
  i5 := by kernel_rfl
  t22 := Tryd.underlying72
  a22 := Tryd.isAgg72
  z22 := Tryd.sizeOf72
  v22 := Tryd.zeroValue72
  i22 := by kernel_rfl
  t25 := Tryd.underlying78
  a25 := Tryd.isAgg78
  z25 := Tryd.sizeOf78
  v25 := Tryd.zeroValue78
  i25 := by kernel_rfl
  t54 := Tryd.underlying77
  a54 := Tryd.isAgg77
  z54 := Tryd.sizeOf77
  g1 := by kernel_rfl }
end Go.Proofs
namespace Go.Proofs.YtlkgghbdgjomkaaDoor
open Go.RowKit Go.Shelf
attribute [local go_sem] Oper.semAt_some
set_option maxRecDepth 100000 in
set_option maxHeartbeats 2000000 in
theorem each_in (n : Nat) (hn : 1 ≤ n) (l g m : Nat) (f : Nat → Bool) (hm : m ≤ 1000000) (J : List Nat → World → Prop) (S : Nat → Prop) (w : World)
    (hJa : ∀ pre A B, J pre A → Below A.heap.size A B → J pre B)
    (hJs : ∀ pre A, J pre A → BS A g m f ∧ TabAt 11 Lib.deBruijn64tab A)
    (hS : ∀ i, S i → i < w.heap.size)
    (hY : ∀ pre x A, J pre A → x < 512 * m → f x = true → YieldAt Fence.wide (n - 1) Tryd.prog l #[.int .i64 (x : Int)] A fun e A' => e = .returned (.bool true) ∧ J (pre ++ [x]) A' ∧ Only A A' S)
    (h0 : J [] w) :
    CallsIn Fence.wide n Tryd.prog 53 #[.agg #[.slice (some ⟨g, 0, none⟩) m m], .func (.yield l) #[] #[]] w fun e w' => (∃ v, e = .returned v) ∧ J (plB f (512 * m)) w' := by
  obtain ⟨w0, hw0⟩ : ∃ w0, w0 = w.alloc (.cells #[.slice (some ⟨g, 0, none⟩) m m] 56) := ⟨_, rfl⟩
  have hb0 : Below w.heap.size w w0 := by rw [hw0]; exact (Below.refl _ _).alloc (Nat.le_refl _) _
  have hs0 : w0.heap.size = w.heap.size + 1 := by rw [hw0]; simp
  have hsB : w0.cell? ⟨w.heap.size, 0, none⟩ = some (.slice (some ⟨g, 0, none⟩) m m) := by rw [hw0]; exact cell_one_new _ _ _ 0 _ rfl
  have HJ0 := hid0 (hJa _ _ _ h0 hb0)
  have HJs := hid0 hJs
  have HY := hid0 hY
  have HSB := hid0 hsB
  have HO0 : Hid (Only w0 w0 S) := hid0 (Only.refl _ _)
  have HKp : Hid (∀ A, Only w0 A S → A.cell? ⟨w.heap.size, 0, none⟩ = some (.slice (some ⟨g, 0, none⟩) m m)) := hid0 (fun A ho => by
    rw [ho.cell (p := ⟨w.heap.size, 0, none⟩) (by show w.heap.size < _; omega) (fun s => by have := hS _ s; simp at this)]; exact hsB)
  have hmI : (m : Int) ≤ 1000000 := by omega
  have hfold := hw0.symm
  clear hJa hJs hY hS h0 hw0 hb0
  refine callsIn_of_wp Tryd.func53 rfl trivial ?_ rfl
  simp only [Tryd.ntmps53, List.size_toArray, List.length_cons, List.length_nil, Nat.reduceAdd, Nat.reduceSub, Array.replicate_succ, Array.replicate_zero, List.push_toArray, List.append_toArray, List.nil_append, List.cons_append]
  gi_wp2
  gi_loopw [10] (fun i wr => ∃ k : Nat, k ≤ m ∧ i = .int .i64 (k : Int) ∧ Hid (J (plB f (64 * (k * 8))) wr) ∧ Hid (Only w0 wr S)) (fun i _ => m - (intOf i).toNat)
  case atStart => exact ⟨0, Nat.zero_le _, rfl, HJ0, HO0⟩
  case round =>
    clear hsB
    obtain ⟨k, hk, rfl, HJ, HO⟩ := hrel
    by_cases hlt : k < m
    · have hkI : (k : Int) < (m : Int) := by omega
      have hkI0 : (0 : Int) ≤ (k : Int) := by omega
      have hB1 := HKp.out wr HO.out
      have HH1 := (HJs.out _ _ HJ.out).1
      have c0 := (HH1.cell (k * 8) (by omega)).1
      have c1 := (HH1.cell (k * 8 + 1) (by omega)).1
      have c2 := (HH1.cell (k * 8 + 2) (by omega)).1
      have c3 := (HH1.cell (k * 8 + 3) (by omega)).1
      have c4 := (HH1.cell (k * 8 + 4) (by omega)).1
      have c5 := (HH1.cell (k * 8 + 5) (by omega)).1
      have c6 := (HH1.cell (k * 8 + 6) (by omega)).1
      have c7 := (HH1.cell (k * 8 + 7) (by omega)).1
      clear HH1
      gi_wp2
      gi_loopw [18] (fun i wr => ∃ j : Nat, j ≤ 8 ∧ i = .int .i64 (j : Int) ∧ Hid (J (plB f (64 * (k * 8 + j))) wr) ∧ Hid (Only w0 wr S)) (fun i _ => 8 - (intOf i).toNat)
      case atStart => exact ⟨0, Nat.zero_le _, rfl, HJ, HO⟩
      case round =>
        clear hB1 c0 c1 c2 c3 c4 c5 c6 c7 HJ HO
        obtain ⟨j, hj, rfl, HJ, HO⟩ := hrel
        by_cases hj8 : j < 8
        · have hjI : (j : Int) < 8 := by omega
          have hjI0 : (0 : Int) ≤ (j : Int) := by omega
          have hix := index_blk f k j hj8 wr
          gi_wp2
          clear hix
          gi_loopw [6] (fun x wr => ∃ c : Nat, c ≤ 64 ∧ x = .int .u64 (wordFrom f c (k * 8 + j) : Int) ∧ Hid (J (plB f (64 * (k * 8 + j) + c)) wr) ∧ Hid (Only w0 wr S)) (fun x _ => (intOf x).toNat)
          case atStart => exact ⟨0, Nat.zero_le _, by rw [wordFrom_zero], HJ, HO⟩
          case round =>
            clear HJ HO
            obtain ⟨c, hc, rfl, HJ, HO⟩ := hrel
            have hwl := wordFrom_lt f c (k * 8 + j)
            by_cases hw : wordFrom f c (k * 8 + j) = 0
            · have HE := hid0 (wordFrom_none hw hc)
              rw [hw]
              gi_wp2
              go_roundw
              case rel => exact ⟨j + 1, by omega, by go_num, hid0 (by rw [← Nat.add_assoc, HE.out]; exact HJ.out), HO⟩
              case measure => simp [intOf]; omega
            · obtain ⟨t, ht, hct, ht64, hft, hnx, hpl⟩ := wordFrom_some hw
              have HNx := hid0 hnx
              have HPl := hid0 hpl
              have HFt := hid0 hft
              have HT := hid0 (HJs.out _ _ HJ.out).2
              have HC := hid0 (Any7.bits_TrailingZeros64 Tryd.lays7n29 (wordFrom f c (k * 8 + j)) hwl wr (fun _ => HT.out))
              rw [ht] at HC
              have HW := hid0 hw
              clear hnx hpl hft hw ht
              generalize hx : wordFrom f c (k * 8 + j) = x at *
              have hx0 : ¬ (x : Int) = 0 := by have := HW.out; omega
              have hxI : (x : Int) < 18446744073709551616 := by omega
              have htI : (t : Int) < 64 := by omega
              have hxI0 : (1 : Int) ≤ (x : Int) := by omega
              have HX := hid0 hwl
              have HXe := hid0 hx
              have hmm : (k : Int) < 1000000 := by omega
              have HE : Hid (((64 * (k * 8 + j) + t : Nat) : Int) = (k : Int) * 512 + (j : Int) * 64 + (t : Int)) := hid0 (by omega)
              clear hwl hx hct
              have hx1 : ((x : Int) != 0) = true := by simpa using hx0
              have HX0 := hid0 hx0
              have HX1 := hid0 hxI0
              have HX2 := hid0 hxI
              clear hx0 hxI0 hxI
              gi_wp2_with (refine ⟨trivial, ?_⟩; gi_at_call 58; refine (callsIn_wide.2 HC.out).mono ?_; rintro e w2 ⟨rfl, rfl⟩; obtain ⟨fn, tmps, assign, body, hy, hR⟩ := HY.out _ (64 * (k * 8 + j) + t) _ HJ.out (by omega) HFt.out; rw [HE.out] at hy; have HRd := hid0 hR; clear hR)
              refine HRd.out.mono ?_
              rintro e W3 ⟨rfl, hJ3, hO3⟩
              have HJ3 : Hid (J (plB f (64 * (k * 8 + j) + (t + 1))) W3) := hid0 (by rw [HPl.out]; exact hJ3)
              have HO3 : Hid (Only w0 W3 S) := hid0 (HO.out.trans hO3 (fun i hi => .inl hi))
              have hxI := HX2.out
              have hxI0 := HX1.out
              have hbits : bits .and .u64 (x : Int) ((x : Int) - 1) = (wordFrom f (t + 1) (k * 8 + j) : Int) := by
                rw [show (x : Int) - 1 = ((x - 1 : Nat) : Int) by omega, bits_and_u64_nat x _ HX.out (by have := HX.out; omega), HNx.out]
              have HLt : Hid (wordFrom f (t + 1) (k * 8 + j) < x) := hid0 (by have h1 := HNx.out; have h2 := HW.out; have h3 : x &&& (x - 1) ≤ x - 1 := Nat.and_le_right; omega)
              have HT64 := hid0 ht64
              clear hJ3 hO3 hy HRd HC HJ HO HT ht64
              gi_wp2
              go_roundw
              case rel => exact ⟨t + 1, by have := HT64.out; omega, by rfl, HJ3, HO3⟩
              case measure => have := HLt.out; simp [intOf]; omega
        · have hj8e : j = 8 := by omega
          subst hj8e
          gi_wp2
          go_roundw
          case rel => exact ⟨k + 1, by omega, by go_num, hid0 (by have := HJ.out; rwa [show k * 8 + 8 = (k + 1) * 8 by omega] at this), HO⟩
          case measure => simp [intOf]; omega
    · have hkm : k = m := by omega
      subst hkm
      have hB1 := HKp.out wr HO.out
      gi_wp2
      go_end0
      exact ⟨⟨_, rfl⟩, by have := HJ.out; rwa [show 64 * (k * 8) = 512 * k by omega] at this⟩
end Go.Proofs.YtlkgghbdgjomkaaDoor
namespace Go.Proofs.YtlkgghbdgjomkaaDoor
open Go.RowKit Go.Shelf
theorem Only.putObj (w : World) (l : Nat) (o : Obj) (S : Nat → Prop) (hl : S l) : Only w (w.putObj l o) S :=
  ⟨rfl, rfl, rfl, by simp, fun k _ hs => World.putObj_heap_other (fun e => hs (e ▸ hl))⟩
theorem Only.ofNew {w w' : World} (h : Below w.heap.size w w') (S : Nat → Prop) : Only w w' S := Only.ofBelow h S (fun i h1 h2 => by omega)
theorem wpIn_rangeEach {gop : Operand} {ps : Array Tmp} {assign body : Code} {Q : Exit → Act → World → Prop} {a : Act} {w : World} (n : Nat) (hn : 2 ≤ n) (g m gn : Nat) (f : Nat → Bool) (hm : m ≤ 1000000)
    (hg : a.eval gop = .func (.func 53) #[.agg #[.slice (some ⟨g, 0, none⟩) m m]] #[]) (hps : ps.size = 1) (hgn : gn < w.heap.size)
    (J : List Nat → World → Prop) (hJk : ∀ pre A B, J pre A → Only A B (fun k => w.heap.size ≤ k) → J pre B) (hJs : ∀ pre A, J pre A → BS A g m f ∧ TabAt 11 Lib.deBruijn64tab A) (h0 : J [] w) (act : Nat → Act)
    (hassign : ∀ (l x : Nat) (W : World) (K : Act → World → Prop), K (act x) W → assign.wpIn (Fence.wide.inRound l) (n - 1 - 1) Tryd.prog (Exit.then K (fun _ _ _ => False)) { tmps := (ps.zip #[Value.int .i64 (x : Int)]).foldl (fun t (p, v) => t.setIfInBounds p v) a.tmps, defers := [] } W)
    (hbody : ∀ (l : Nat) (pre : List Nat) (x : Nat) (W : World), J pre W → x < 512 * m → f x = true → body.wpIn (Fence.wide.inRound l) (n - 1 - 1) Tryd.prog (fun e _ W' => e = .normal ∧ J (pre ++ [x]) W' ∧ Only W W' (fun k => k = gn)) (act x) W)
    (hdone : ∀ W, J (plB f (512 * m)) W → W.heap[w.heap.size]? = some (.deferred (some [])) → Q .normal { a with defers := { target := .collected w.heap.size, args := #[] } :: a.defers } W) :
    (Code.rangeFunc gop ps assign body).wpIn Fence.wide n Tryd.prog Q a w := by
  refine wpIn_rangeFunc ?_
  intro fn hfn
  obtain ⟨rec, hrec⟩ : ∃ rec : LoopState → Loop, rec = fun st => { state := st, pending := none, fn, tmps := a.tmps, params := ps, assign, body, defers := w.heap.size } := ⟨_, rfl⟩
  obtain ⟨W1, hW1⟩ : ∃ W1, (w.alloc (.deferred (some []))).alloc (.loop (rec .ready)) = W1 := ⟨_, rfl⟩
  have hs1 : W1.heap.size = w.heap.size + 2 := by rw [← hW1]; simp
  have hL1 : W1.heap[w.heap.size + 1]? = some (.loop (rec .ready)) := by
    rw [← hW1]; have := World.alloc_heap_new (w.alloc (.deferred (some []))) (.loop (rec .ready)); rwa [World.size_alloc] at this
  have hD1 : W1.heap[w.heap.size]? = some (.deferred (some [])) := by
    rw [← hW1]; exact (Below.heap_alloc _ _ _ (by simp)).trans (World.alloc_heap_new w _)
  have hb1 : Below w.heap.size w W1 := by rw [← hW1]; exact ((Below.refl _ w).alloc (Nat.le_refl _) _).alloc (by simp) _
  have hJ1 : J [] W1 := hJk _ _ _ h0 (Only.ofNew hb1 _)
  refine ⟨w.heap.size + 1, [{ target := .collected w.heap.size, args := #[] }], W1, { target := .fn (.func 53) #[], args := #[.agg #[.slice (some ⟨g, 0, none⟩) m m], .func (.yield (w.heap.size + 1)) #[] #[]] }, W1, 53,
    #[.agg #[.slice (some ⟨g, 0, none⟩) m m], .func (.yield (w.heap.size + 1)) #[] #[]], W1, ?_, ?_, ?_, ?_, fun _ => by omega, ?_⟩
  · rw [← hW1, hrec]; exact run_enterLoop_outer _ _ _ _ _
  · simp only [resolve, hg]
    simp [go_sem]
  · intro f' hf'; simp [Target.leads] at hf'; subst hf'; trivial
  · simp [invoke, go_sem]
  · refine (each_in (n - 1) (by omega) (w.heap.size + 1) g m f hm
      (fun pre W => J pre W ∧ W.heap[w.heap.size + 1]? = some (.loop (rec .ready)) ∧ W.heap[w.heap.size]? = some (.deferred (some [])))
      (fun k => k = gn ∨ k = w.heap.size + 1) W1 ?_ (fun pre A h => hJs pre A h.1) (fun i hi => by rcases hi with rfl | rfl <;> omega) ?_ ⟨hJ1, hL1, hD1⟩).mono ?_
    · rintro pre A B ⟨h1, h2, h3⟩ hb
      exact ⟨hJk _ _ _ h1 (Only.ofNew hb _), (hb.block _ (Array.getElem?_eq_some_iff.1 h2).1).trans h2, (hb.block _ (Array.getElem?_eq_some_iff.1 h3).1).trans h3⟩
    · rintro pre x W ⟨hi, hl, hk⟩ hx hfx
      have hlt : w.heap.size + 1 < W.heap.size := (Array.getElem?_eq_some_iff.1 hl).1
      have hy := run_yield (P := Tryd.prog) (args := #[Value.int .i64 (x : Int)]) hl (by rw [hrec]; simp [hps])
      rw [hrec] at hy
      refine ⟨fn, _, assign, body, hy, roundIn_of_wpIn hfn (hassign _ x W _ ?_)⟩
      refine ⟨_, run_beginRound hl (by rw [hrec]), ?_⟩
      have hl2 : (W.putObj (w.heap.size + 1) (.loop { rec .ready with state := .busy })).heap[w.heap.size + 1]? = some (.loop { rec .ready with state := .busy }) := World.putObj_heap_same hlt
      have hk2 : (W.putObj (w.heap.size + 1) (.loop { rec .ready with state := .busy })).heap[w.heap.size]? = some (.deferred (some [])) := (World.putObj_heap_other (by omega)).trans hk
      refine wpIn_mono (hbody _ pre x _ (hJk _ _ _ hi (Only.putObj _ _ _ _ (by omega))) hx hfx) ?_
      rintro e a3 W3 ⟨rfl, hj3, ho3⟩
      have hl3 := (ho3.block (w.heap.size + 1) (Array.getElem?_eq_some_iff.1 hl2).1 (by omega)).trans hl2
      have hk3 := (ho3.block w.heap.size (Array.getElem?_eq_some_iff.1 hk2).1 (by omega)).trans hk2
      have hr := run_endRound (P := Tryd.prog) none hl3
      rw [hrec] at hr
      refine ⟨_, _, hr, rfl, ⟨hJk _ _ _ hj3 (Only.putObj _ _ _ _ (by omega)), ?_, (World.putObj_heap_other (by omega)).trans hk3⟩, ?_⟩
      · rw [hrec]
        exact World.putObj_heap_same (Array.getElem?_eq_some_iff.1 hl3).1
      · exact ((Only.putObj W _ _ (fun k => k = gn ∨ k = w.heap.size + 1) (.inr rfl)).trans ho3 (fun i hi => .inl (.inl hi))).trans (Only.putObj W3 _ _ (fun k => k = gn ∨ k = w.heap.size + 1) (.inr rfl)) (fun i hi => .inl hi)
    · rintro e W2 ⟨⟨v, rfl⟩, hj, hl, hk⟩
      have hr := run_endLoop (P := Tryd.prog) hl (by rw [hrec]; simp)
      rw [hrec] at hr
      exact ⟨none, _, hr, hdone _ (hJk _ _ _ hj (Only.putObj _ _ _ _ (by omega))) ((World.putObj_heap_other (by omega)).trans hk)⟩
/-- An activation in whose slots p and q a place is put. -/
def actE (a : Act) (p q x : Nat) : Act := { tmps := (a.tmps.setIfInBounds p (.int .i64 (x : Int))).setIfInBounds q (.int .i64 (x : Int)), defers := [] }
theorem wpIn_rangeEach' {gop : Operand} {p : Tmp} {assign body : Code} {Q : Exit → Act → World → Prop} {a : Act} {w : World} (q n : Nat) (hn : 2 ≤ n) (g m gn : Nat) (f : Nat → Bool) (hm : m ≤ 1000000)
    (hg : a.eval gop = .func (.func 53) #[.agg #[.slice (some ⟨g, 0, none⟩) m m]] #[]) (hgn : gn < w.heap.size)
    (J : List Nat → World → Prop) (hJk : ∀ pre A B, J pre A → Only A B (fun k => w.heap.size ≤ k) → J pre B) (hJs : ∀ pre A, J pre A → BS A g m f ∧ TabAt 11 Lib.deBruijn64tab A) (h0 : J [] w)
    (hassign : ∀ (l x : Nat) (W : World) (K : Act → World → Prop), K (actE a p q x) W → assign.wpIn (Fence.wide.inRound l) (n - 1 - 1) Tryd.prog (Exit.then K (fun _ _ _ => False)) { tmps := a.tmps.setIfInBounds p (.int .i64 (x : Int)), defers := [] } W)
    (hbody : ∀ (l : Nat) (pre : List Nat) (x : Nat) (W : World), J pre W → x < 512 * m → f x = true → body.wpIn (Fence.wide.inRound l) (n - 1 - 1) Tryd.prog (fun e _ W' => e = .normal ∧ J (pre ++ [x]) W' ∧ Only W W' (fun k => k = gn)) (actE a p q x) W)
    (hdone : ∀ W, J (plB f (512 * m)) W → W.heap[w.heap.size]? = some (.deferred (some [])) → Q .normal { a with defers := { target := .collected w.heap.size, args := #[] } :: a.defers } W) :
    (Code.rangeFunc gop #[p] assign body).wpIn Fence.wide n Tryd.prog Q a w :=
  wpIn_rangeEach n hn g m gn f hm hg rfl hgn J hJk hJs h0 (actE a p q) (fun l x W K hK => by simpa using hassign l x W K hK) hbody hdone
end Go.Proofs.YtlkgghbdgjomkaaDoor
namespace Go.Proofs.YtlkgghbdgjomkaaDoor
open Go.RowKit Go.Shelf
theorem zero_blk (m i : Nat) (hi : i < m * 8) : (Builtin.zeroCells zeroBlk.cells m)[i]? = some (.int .u64 0) := by
  have h8 : i % 8 = 0 ∨ i % 8 = 1 ∨ i % 8 = 2 ∨ i % 8 = 3 ∨ i % 8 = 4 ∨ i % 8 = 5 ∨ i % 8 = 6 ∨ i % 8 = 7 := by omega
  have hz : zeroBlk.cells = #[.int .u64 0, .int .u64 0, .int .u64 0, .int .u64 0, .int .u64 0, .int .u64 0, .int .u64 0, .int .u64 0] := by kernel_rfl
  have hs : zeroBlk.cells.size = 8 := by rw [hz]; rfl
  have : (Builtin.zeroCells zeroBlk.cells m)[i]? = some (zeroBlk.cells[i % 8]!) := by
    simp only [Builtin.zeroCells, Array.getElem?_map, Array.getElem?_range, hi, hs, if_true, Option.map_some]
  rw [this, hz]
  rcases h8 with h | h | h | h | h | h | h | h <;> rw [h] <;> rfl
theorem clear_blk (g m : Nat) (f : Nat → Bool) (w : World) (h : BS w g m f) : ∃ w', (∀ ty, (Builtin.clear_ #[54] ty #[.slice (some ⟨g, 0, none⟩) m m]).run Tryd.prog w = .ok (.tuple #[]) w') ∧ BS w' g m (fun _ => false) ∧ Only w w' (fun k => k = g) := by
  obtain ⟨cur, h1, h2⟩ := h.row
  cases m with
  | zero => exact ⟨w, fun ty => by simp [Builtin.clear_, run_underlying Tryd.underlying54, Result.andThen], ⟨⟨cur, h1, fun i hi => absurd hi (Nat.not_lt_zero _)⟩, fun _ _ => rfl⟩, Only.refl _ _⟩
  | succ m =>
    have hzl : (Builtin.zeroCells zeroBlk.cells (m + 1)).toList.length = (m + 1) * 8 := by
      have hs : zeroBlk.cells.size = 8 := by kernel_rfl
      simp [Builtin.zeroCells, hs]
    have hmem : ∀ v ∈ (Builtin.zeroCells zeroBlk.cells (m + 1)).toList, v = .int .u64 0 := fun v hv => by
      obtain ⟨i, hi, rfl⟩ := List.mem_iff_getElem.1 hv
      have := zero_blk (m + 1) i (by rw [hzl] at hi; exact hi)
      rw [← Array.getElem?_toList, List.getElem?_eq_getElem hi] at this
      exact Option.some.inj this
    have hcs : (m + 1) * 8 ≤ cur.size := by
      have := (Array.getElem?_eq_some_iff.1 (h2 (8 * (m + 1) - 1) (by omega))).1
      omega
    have hrun := run_storeCells_at (P := Tryd.prog) g 0 74 (Builtin.zeroCells zeroBlk.cells (m + 1)).toList 0 cur w h1 (by rw [hzl]; omega) (fun v hv => by rw [hmem v hv]; rfl)
    refine ⟨_, fun ty => by simp [Builtin.clear_, run_underlying Tryd.underlying54, Tryd.zeroValue74, Result.andThen, Sem.run_bind]; exact (by rw [show (Value.agg #[.int .u64 0, .int .u64 0, .int .u64 0, .int .u64 0, .int .u64 0, .int .u64 0, .int .u64 0, .int .u64 0]) = zeroBlk from rfl, hrun]), ?_, ?_⟩
    · refine ⟨⟨_, setRow_heap w g cur _ _ _ h1, fun i hi => ?_⟩, fun _ _ => rfl⟩
      rw [wordOf_zero]
      simp only [Nat.zero_add, List.take_zero, List.nil_append, List.getElem?_toArray]
      rw [List.getElem?_append_left (by rw [hzl]; omega), Array.getElem?_toList, zero_blk _ _ (by omega)]
      rfl
    · exact ⟨rfl, rfl, rfl, by simp [World.setRow], fun k _ hk => setRow_other w g k _ hk⟩
/-- Rows of places, one beside the other. -/
structure Rws (w : World) (g m : Nat) (Ls : List (List Int)) (R : Nat → Prop) : Prop where
  lt : g < w.heap.size
  in' : R g
  at' : ∀ k (h : k < Ls.length), ∃ x u v, w.cell? ⟨g, k * 2, none⟩ = some u ∧ w.cell? ⟨g, k * 2 + 1, none⟩ = some v ∧ RowIs w m Ls[k] x (.agg #[u, v]) ∧ ∀ b, x = some b → R b
theorem Rws.only {w w' : World} {g m : Nat} {Ls : List (List Int)} {R S : Nat → Prop} (h : Rws w g m Ls R) (ho : Only w w' S) (hs : ∀ k, R k → ¬ S k) : Rws w' g m Ls R :=
  ⟨Nat.lt_of_lt_of_le h.lt ho.size, h.in', fun k hk => by
    obtain ⟨x, u, v, h1, h2, h3, h4⟩ := h.at' k hk
    exact ⟨x, u, v, (ho.cell (p := ⟨g, k * 2, none⟩) h.lt (hs g h.in')).trans h1, (ho.cell (p := ⟨g, k * 2 + 1, none⟩) h.lt (hs g h.in')).trans h2, h3.only ho (fun b hb => hs b (h4 b hb)), h4⟩⟩
/-- A walk in memory: where it is, and where a step may lead to. -/
structure Wk (w : World) (B gf gh ga gn mp m cF cH : Nat) (ks : List Int) (Fo H : List (List Int)) (fa fx : Nat → Bool) (R : Nat → Prop) : Prop where
  row : w.heap[B]? = some (.cells #[.slice (some ⟨gf, 0, none⟩) Fo.length cF, .map (some mp), .slice (some ⟨gh, 0, none⟩) H.length cH, .slice (some ⟨ga, 0, none⟩) m m, .slice (some ⟨gn, 0, none⟩) m m] 58 (0, 0))
  fo : Rws w gf m Fo R
  ho : Rws w gh m H R
  nu : MapN w mp ks
  at' : BS w ga m fa
  nx : BS w gn m fx
  tab : TabAt 11 Lib.deBruijn64tab w
  tabl : 11 < w.heap.size
  rB : R B
  rm : R mp
  rt : R 11
  ra : ∀ k, R k → ¬ k = ga ∧ ¬ k = gn
  ne : ¬ ga = gn
theorem tab_only {w w' : World} {S : Nat → Prop} (h : TabAt 11 Lib.deBruijn64tab w) (hl : 11 < w.heap.size) (ho : Only w w' S) (hs : ¬ S 11) : TabAt 11 Lib.deBruijn64tab w' := fun j hj => (ho.cell (p := ⟨11, j, none⟩) hl hs).trans (h j hj)
/-- Where the places of a list lead to. -/
def nxF (Fo : List (List Int)) (pre : List Nat) : Nat → Bool := pre.foldl (fun f p => addF (Fo.getD p []) f) (fun _ => false)
theorem nxF_snoc (Fo : List (List Int)) (pre : List Nat) (p : Nat) (hp : p < Fo.length) : nxF Fo (pre ++ [p]) = addF Fo[p] (nxF Fo pre) := by
  unfold nxF
  rw [List.foldl_append]
  simp only [List.foldl_cons, List.foldl_nil]
  rw [List.getD_eq_getElem?_getD, List.getElem?_eq_getElem hp]
  rfl
/-- What is left behind a step: where the walk is. -/
def stepAt (L : List Int) (fx : Nat → Bool) (m : Nat) : Nat → Bool := andTo (addF L (fun _ => false)) fx (64 * (m * 8))
end Go.Proofs.YtlkgghbdgjomkaaDoor
namespace Go.Proofs.YtlkgghbdgjomkaaDoor
open Go.RowKit Go.Shelf
theorem Only.afterBelow {w w1 w2 : World} {S : Nat → Prop} {B : Nat} (h : Only w1 w2 S) (hb : Below B w w1) (hB : B ≤ w1.heap.size) (hs : ∀ i, S i → B ≤ i) : Below B w w2 :=
  ⟨h.os.trans hb.os, h.tape.trans hb.tape, h.output.trans hb.output, Nat.le_trans hb.size h.size, fun k hk => (h.block k (by omega) (fun s => by have := hs k s; omega)).trans (hb.block k hk)⟩
def RowR (n : Nat) (L : List Int) (a : Option Addr) (w : World) (e : Ending) (w' : World) : Prop :=
  ∃ x v, e = .returned v ∧ RowIs w' ((n + 511) / 512) L x v ∧ (x = a.map (·.block) ∨ ∃ b, x = some b ∧ w.heap.size ≤ b ∧ b < w'.heap.size) ∧ Below w.heap.size w w'
set_option maxRecDepth 10000 in
set_option maxHeartbeats 1600000 in
theorem rowOf_any (n : Nat) (L : List Int) (a : Option Addr) (c : Nat) (w : World) (hn : n ≤ 100000000) (hl : L.length ≤ 100000000000000) (hall : L.all (oneOf n) = true) (ha : IA w a L) :
    Calls Tryd.prog 48 #[.slice a L.length c, .int .i64 (n : Int)] w (RowR n L a w) := by
  obtain ⟨w0, hw0⟩ : ∃ w0, w0 = w.alloc (.cells #[.slice none 0 0, .slice none 0 0] 64) := ⟨_, rfl⟩
  have hb0 : Below w.heap.size w w0 := by rw [hw0]; exact (Below.refl _ _).alloc (Nat.le_refl _) _
  have hr0 : w0.heap[w.heap.size]? = some (.cells #[.slice none 0 0, .slice none 0 0] 64 (0, 0)) := by rw [hw0]; exact heap_alloc_new w _
  have hs0 : w0.heap.size = w.heap.size + 1 := by rw [hw0]; simp
  have hfold := hw0.symm
  have hn0 : (0 : Int) ≤ (n : Int) := by omega
  have hB2 : ∀ (w1 : World) u v, Below w.heap.size w w1 → Below w.heap.size w ((w1.setCell ⟨w.heap.size, 0, none⟩ u).setCell ⟨w.heap.size, 1, none⟩ v) := fun w1 u v h => (h.setCell (p := ⟨w.heap.size, 0, none⟩) (Nat.le_refl _) u).setCell (p := ⟨w.heap.size, 1, none⟩) (Nat.le_refl _) v
  have hC2 : ∀ (w1 : World), w1.heap[w.heap.size]? = some (.cells #[.slice none 0 0, .slice none 0 0] 64 (0, 0)) → (w1.cell? ⟨w.heap.size, 0, none⟩ = some (.slice none 0 0) ∧ w1.cell? ⟨w.heap.size, 1, none⟩ = some (.slice none 0 0) ∧ w1.frozen? ⟨w.heap.size, 0, none⟩ = false ∧ w1.frozen? ⟨w.heap.size, 1, none⟩ = false) ∧ ∀ u v, ((w1.setCell ⟨w.heap.size, 0, none⟩ u).setCell ⟨w.heap.size, 1, none⟩ v).cell? ⟨w.heap.size, 0, none⟩ = some u ∧ ((w1.setCell ⟨w.heap.size, 0, none⟩ u).setCell ⟨w.heap.size, 1, none⟩ v).cell? ⟨w.heap.size, 1, none⟩ = some v := fun w1 h1 => by
    refine ⟨⟨by rw [cell_of_row _ _ _ _ _ _ h1]; rfl, by rw [cell_of_row _ _ _ _ _ _ h1]; rfl, by simp [World.frozen?, h1], by simp [World.frozen?, h1]⟩, fun u v => ?_⟩
    have h2 := heap_setCell_same w1 w.heap.size 0 _ _ u h1
    have h3 := heap_setCell_same _ w.heap.size 1 _ _ v h2
    exact ⟨by rw [cell_of_row _ _ _ _ _ _ h3]; rfl, by rw [cell_of_row _ _ _ _ _ _ h3]; rfl⟩
  by_cases hsh : L.length ≤ n / 64
  · have hI : (L.length : Int) ≤ (n : Int) / 64 := by omega
    obtain ⟨⟨k0, k1, f0, f1⟩, hk⟩ := hC2 w0 hr0
    obtain ⟨j0, j1⟩ := hk (.slice a L.length c) (.slice none 0 0)
    have HE : Hid (RowR n L a w (.returned (.agg #[.slice a L.length c, .slice none 0 0])) ((w0.setCell ⟨w.heap.size, 0, none⟩ (.slice a L.length c)).setCell ⟨w.heap.size, 1, none⟩ (.slice none 0 0))) := hid0 (by
      exact ⟨_, _, rfl, .short a c (ha.past (hB2 w0 _ _ hb0)), .inl rfl, hB2 w0 _ _ hb0⟩)
    clear hB2 hC2 hb0 hr0 hk ha hall hw0
    go_enter Tryd.func48, Tryd.ntmps48
    go_wp2
    exact bodyPost_ret (v := .agg #[.slice a L.length c, .slice none 0 0]) (by simp [results, Tryd.results48, go_sem, j0, j1]) rfl HE.out
  · have hI : ¬ (L.length : Int) ≤ (n : Int) / 64 := by omega
    have hag : ∀ p, a = some p → p.block < w.heap.size := by
      obtain ⟨b, off, rfl, h1, _⟩ := ha.at' 0 (by omega)
      intro p hp; cases hp; exact h1
    obtain ⟨m, hm⟩ : ∃ m : Nat, m = (n + 511) / 512 := ⟨_, rfl⟩
    have HRm := hid0 (roomFor_any n w0 hn)
    rw [← hm] at HRm
    have HA : Hid (∀ (w1 : World) g, w0.heap.size ≤ g → BS w1 g m (fun _ => false) → Below w0.heap.size w0 w1 → ((w1.alloc (.cells #[.slice none 0 0] 56)).cell? ⟨w1.heap.size, 0, none⟩ = some (.slice none 0 0) ∧ (w1.alloc (.cells #[.slice none 0 0] 56)).frozen? ⟨w1.heap.size, 0, none⟩ = false) ∧ ∀ W, W = w1.alloc (.cells #[.slice (some ⟨g, 0, none⟩) m m] 56) → Calls Tryd.prog 50 #[.pointer (some ⟨w1.heap.size, 0, none⟩), .slice a L.length c] W fun e w' => e = .returned (.tuple #[]) ∧ w'.cell? ⟨w1.heap.size, 0, none⟩ = some (.slice (some ⟨g, 0, none⟩) m m) ∧ w'.heap[w.heap.size]? = some (.cells #[.slice none 0 0, .slice none 0 0] 64 (0, 0)) ∧ (∀ u v, RowR n L a w (.returned (.agg #[.slice none 0 0, .slice (some ⟨g, 0, none⟩) m m])) ((w'.setCell ⟨w.heap.size, 0, none⟩ u).setCell ⟨w.heap.size, 1, none⟩ v))) := hid0 (by
      intro w1 g hg hbs hb1
      have hr1 := heap_alloc_new w1 (.cells #[.slice none 0 0] 56)
      refine ⟨⟨by rw [cell_of_row _ _ _ _ _ _ hr1]; rfl, by simp only [World.frozen?, hr1]; rfl⟩, ?_⟩
      rintro W rfl
      have hgl := hbs.lt
      have hsz := hb1.size
      have hr2 := heap_alloc_new w1 (.cells #[.slice (some ⟨g, 0, none⟩) m m] 56)
      have hbW : Below w0.heap.size w0 (w1.alloc (.cells #[.slice (some ⟨g, 0, none⟩) m m] 56)) := hb1.alloc (by omega) _
      have hbW1 : Below w1.heap.size w1 (w1.alloc (.cells #[.slice (some ⟨g, 0, none⟩) m m] 56)) := (Below.refl _ w1).alloc (Nat.le_refl _) _
      have hbw : Below w.heap.size w _ := Below.later hb0 hbW
      refine (addAll_any w1.heap.size 0 g m n (fun _ => false) L a c _ hl (by omega) (by omega) hall (by simp) (by omega) (by rw [cell_of_row _ _ _ _ _ _ hr2]; rfl) (ha.past hbw) (fun p hp e => by have := hag p hp; omega) (hbs.kept (hbW1.block g hgl))).mono ?_
      rintro e w' ⟨rfl, hb', ho'⟩
      have hx : w'.heap[w.heap.size]? = some (.cells #[.slice none 0 0, .slice none 0 0] 64 (0, 0)) := by
        rw [ho'.block w.heap.size (by have := hbW.size; omega) (by omega), hbW.block w.heap.size (by omega)]; exact hr0
      have hbb : Below w.heap.size w w' := ho'.afterBelow hbw (by have := hbW.size; omega) (fun i hi => by omega)
      refine ⟨rfl, ?_, hx, fun u v => ⟨some g, _, rfl, ?_, .inr ⟨g, rfl, by omega, by have := hb'.lt; simpa using this⟩, hB2 _ _ _ hbb⟩⟩
      · rw [ho'.cell (p := ⟨w1.heap.size, 0, none⟩) (by show w1.heap.size < _; simp) (by show ¬ w1.heap.size = g; omega), cell_of_row _ _ _ _ _ _ hr2]; rfl
      · rw [← hm]
        refine .long g (hb'.kept ?_)
        rw [Below.heap_setCell _ _ _ _ (by show g ≠ w.heap.size; omega), Below.heap_setCell _ _ _ _ (by show g ≠ w.heap.size; omega)])
    have HC2 := hid0 hC2
    clear hB2 hC2 hb0 hr0 ha hall hw0 hag hm
    go_enter Tryd.func48, Tryd.ntmps48
    go_wp2_with (first
      | (go_at_call 47; refine HRm.out.mono ?_; rintro e w1 ⟨g, rfl, hg, hbs, hb1⟩; obtain ⟨⟨y0, y1⟩, ha2⟩ := HA.out w1 g hg hbs hb1; have HA2 := hid0 ha2; clear hbs hb1 ha2)
      | (go_at_call 50; go_loud ((refine (HA2.out _ rfl).mono ?_; rintro e w2 ⟨rfl, z0, hx2, hend⟩; obtain ⟨⟨k0, k1, f0, f1⟩, hk⟩ := HC2.out w2 hx2; obtain ⟨j0, j1⟩ := hk (.slice none 0 0) (.slice (some ⟨g, 0, none⟩) m m); have HE := hid0 hend; clear hx2 hend hk))))
    exact bodyPost_ret (v := .agg #[.slice none 0 0, .slice (some ⟨g, 0, none⟩) m m]) (by simp [results, Tryd.results48, go_sem, j0, j1]) rfl (HE.out _ _)
end Go.Proofs.YtlkgghbdgjomkaaDoor
namespace Go.Proofs.YtlkgghbdgjomkaaDoor
open Go.RowKit Go.Shelf
theorem infoRow : (Tryd.prog.info? 64).map (fun i => (i.zero, i.size, i.bytes)) = some (some (.agg #[.slice none 0 0, .slice none 0 0]), 2, 48) := by kernel_rfl
/-- Rows that are made. -/
def Made (W : World) (g n : Nat) : Prop := ∃ cur, W.heap[g]? = some (.cells cur 64 (0, 0)) ∧ n * 2 ≤ cur.size
theorem Made.keep {W W' : World} {g n : Nat} (h : Made W g n) (hb : W'.heap[g]? = W.heap[g]?) : Made W' g n := by
  obtain ⟨cur, h1, h2⟩ := h
  exact ⟨cur, hb.trans h1, h2⟩
theorem Made.lt {W : World} {g n : Nat} (h : Made W g n) : g < W.heap.size := by
  obtain ⟨cur, h1, _⟩ := h
  exact (Array.getElem?_eq_some_iff.1 h1).1
theorem Made.cell {W : World} {g n : Nat} (h : Made W g n) (i : Nat) (hi : i < n * 2) : (∃ u, W.cell? ⟨g, i, none⟩ = some u) ∧ W.frozen? ⟨g, i, none⟩ = false := by
  obtain ⟨cur, h1, h2⟩ := h
  refine ⟨⟨cur[i]'(by omega), ?_⟩, by simp [World.frozen?, h1]⟩
  rw [cell_of_row _ _ _ _ _ _ h1]
  exact Array.getElem?_eq_getElem (by omega)
theorem Made.set {W : World} {g n : Nat} (h : Made W g n) (i : Nat) (u : Value) : Made (W.setCell ⟨g, i, none⟩ u) g n := by
  obtain ⟨cur, h1, h2⟩ := h
  exact ⟨_, heap_setCell_same W g i _ _ u h1, by simpa using h2⟩
theorem make_rows (n : Nat) (w : World) (hn : n ≤ 4000000) : ∃ w', (Instr.makeSlice 52 (.int .i64 (n : Int)) (.int .i64 (n : Int))).run Tryd.prog w = .ok (.slice (some ⟨w.heap.size, 0, none⟩) n n) w' ∧ Made w' w.heap.size n ∧ Below w.heap.size w w' := by
  obtain ⟨i0, hi, hz0, hz1, hz2⟩ := info_parts infoRow
  obtain ⟨w', h1, h2, h3⟩ := run_make_full (P := Tryd.prog) w w.heap.size 52 64 i0 _ 2 Tryd.underlying52 hi hz0 hz1 .i64 .i64 n (by rw [hz2]; omega) (by unfold maxLen; omega) (Nat.le_refl _)
  refine ⟨w', h1, ?_, (Below.refl _ _).grown h3 (Nat.le_refl _) (fun k hk => by cases hk)⟩
  rcases h2.2 with ⟨hv, _⟩ | ⟨g, cap, cur, hv, _, hr, hc, _, hsz, _⟩
  · simp at hv
  · simp only [Value.slice.injEq, Option.some.injEq, Addr.mk.injEq] at hv
    obtain ⟨⟨hg, _⟩, _, hcap⟩ := hv
    subst hg; subst hcap
    exact ⟨cur, hr, by omega⟩
theorem make_map (w : World) : ∃ w', (Instr.makeMap 53 none).run Tryd.prog w = .ok (.map (some w.heap.size)) w' ∧ MapN w' w.heap.size [] ∧ Below w.heap.size w w' :=
  ⟨_, rfl, MapN.made w, (Below.refl _ _).alloc (Nat.le_refl _) _⟩
/-- A walk as it begins. -/
structure NwI (w0 W : World) (n m gF mp ga gn B : Nat) : Prop where
  row : W.heap[B]? = some (.cells #[.slice (some ⟨gF, 0, none⟩) n n, .map (some mp), .slice none 0 0, .slice (some ⟨ga, 0, none⟩) m m, .slice (some ⟨gn, 0, none⟩) m m] 58 (0, 0))
  fol : Made W gF n
  nu : MapN W mp []
  at' : BS W ga m (fun _ => false)
  nx : BS W gn m (fun _ => false)
  bel : Below w0.heap.size w0 W
  lo : w0.heap.size ≤ gF ∧ w0.heap.size ≤ mp ∧ w0.heap.size ≤ ga ∧ w0.heap.size ≤ gn ∧ w0.heap.size ≤ B
  ne : ¬ gF = mp ∧ ¬ gF = ga ∧ ¬ gF = gn ∧ ¬ gF = B ∧ ¬ mp = ga ∧ ¬ mp = gn ∧ ¬ mp = B ∧ ¬ ga = gn ∧ ¬ ga = B ∧ ¬ gn = B
theorem BS.below {w w' : World} {g m : Nat} {f : Nat → Bool} (h : BS w g m f) (hb : Below w.heap.size w w') : BS w' g m f := h.kept (hb.block g h.lt)
theorem MapN.below {w w' : World} {B : Nat} {ks : List Int} (h : MapN w B ks) (hb : Below w.heap.size w w') : MapN w' B ks := h.keep (hb.block B h.lt)
theorem Made.below {w w' : World} {g n : Nat} (h : Made w g n) (hb : Below w.heap.size w w') : Made w' g n := h.keep (hb.block g h.lt)
end Go.Proofs.YtlkgghbdgjomkaaDoor
namespace Go.Proofs.YtlkgghbdgjomkaaDoor
open Go.RowKit Go.Shelf
theorem RowIs.shape {w : World} {m : Nat} {L : List Int} {x : Option Nat} {v : Value} (h : RowIs w m L x v) : ∃ a1 n1 c1 a2 n2 c2, v = .agg #[.slice a1 n1 c1, .slice a2 n2 c2] := by
  cases h with
  | short a c h => exact ⟨_, _, _, _, _, _, rfl⟩
  | long g h => exact ⟨_, _, _, _, _, _, rfl⟩
/-- Lists of numbers in memory, in blocks that there are. -/
structure RwB (w : World) (a : Option Addr) (L : List (List Int)) : Prop where
  at' : ∀ k (h : k < L.length), ∃ b off, a = some ⟨b, off, none⟩ ∧ b < w.heap.size ∧ ∃ a1 c1, w.cell? ⟨b, off + k, none⟩ = some (.slice a1 (L[k]).length c1) ∧ IA w a1 L[k] ∧ ∀ p, a1 = some p → p.block < w.heap.size
theorem RwB.past {w w' : World} {a : Option Addr} {L : List (List Int)} (h : RwB w a L) (hb : Below w.heap.size w w') : RwB w' a L := ⟨fun k hk => by
  obtain ⟨b, off, rfl, h1, a1, c1, h2, h3, h4⟩ := h.at' k hk
  exact ⟨b, off, rfl, Nat.lt_of_lt_of_le h1 hb.size, a1, c1, (hb.cell (p := ⟨b, off + k, none⟩) h1).trans h2, h3.past hb, fun p hp => Nat.lt_of_lt_of_le (h4 p hp) hb.size⟩⟩
/-- Blocks other than those of the walk. -/
def Oth (gF mp ga gn B b : Nat) : Prop := ¬ b = gF ∧ ¬ b = mp ∧ ¬ b = ga ∧ ¬ b = gn ∧ ¬ b = B
/-- The first k rows. -/
structure FolI (W : World) (g m k : Nat) (Ls : List (List Int)) (Rb : Nat → Prop) : Prop where
  at' : ∀ i (h : i < Ls.length), i < k → ∃ x u v, W.cell? ⟨g, i * 2, none⟩ = some u ∧ W.cell? ⟨g, i * 2 + 1, none⟩ = some v ∧ RowIs W m Ls[i] x (.agg #[u, v]) ∧ ∀ b, x = some b → b < W.heap.size ∧ Rb b
theorem FolI.only {W W' : World} {g m k : Nat} {Ls : List (List Int)} {Rb S : Nat → Prop} (h : FolI W g m k Ls Rb) (hg : g < W.heap.size) (ho : Only W W' S) (hs : ¬ S g) (hb : ∀ b, Rb b → ¬ S b) : FolI W' g m k Ls Rb := ⟨fun i hi hk => by
  obtain ⟨x, u, v, h1, h2, h3, h4⟩ := h.at' i hi hk
  exact ⟨x, u, v, (ho.cell (p := ⟨g, i * 2, none⟩) hg hs).trans h1, (ho.cell (p := ⟨g, i * 2 + 1, none⟩) hg hs).trans h2, h3.only ho (fun b e => hb b (h4 b e).2), fun b e => ⟨Nat.lt_of_lt_of_le (h4 b e).1 ho.size, (h4 b e).2⟩⟩⟩
theorem cell_two {W : World} {g n i j : Nat} (h : Made W g n) (u v : Value) (hi : i < n * 2) : ((W.setCell ⟨g, j, none⟩ u).setCell ⟨g, j + 1, none⟩ v).cell? ⟨g, i, none⟩ = if i = j + 1 then some v else if i = j then some u else W.cell? ⟨g, i, none⟩ := by
  obtain ⟨cur, h1, h2⟩ := h
  have e1 := heap_setCell_same W g j _ _ u h1
  have e2 := heap_setCell_same _ g (j + 1) _ _ v e1
  have hc : i < cur.size := by omega
  rw [cell_of_row _ _ _ _ _ _ e2, cell_of_row _ _ _ _ _ _ h1]
  by_cases h3 : i = j + 1
  · subst h3
    rw [if_pos rfl]
    simp [hc]
  · rw [if_neg h3]
    by_cases h4 : i = j
    · subst h4
      rw [if_pos rfl, Array.getElem?_setIfInBounds_ne (by omega)]
      simp [hc]
    · rw [if_neg h4, Array.getElem?_setIfInBounds_ne (by omega), Array.getElem?_setIfInBounds_ne (by omega)]
/-- Row k is put. -/
theorem FolI.put {W : World} {g m k n : Nat} {Ls : List (List Int)} {Rb : Nat → Prop} (h : FolI W g m k Ls Rb) (hM : Made W g n) (hn : Ls.length ≤ n) (hg : ∀ b, Rb b → ¬ b = g) (hk : k < Ls.length) (x : Option Nat) (u v : Value) (hr : RowIs W m Ls[k] x (.agg #[u, v])) (hx : ∀ b, x = some b → b < W.heap.size ∧ Rb b) :
    FolI ((W.setCell ⟨g, k * 2, none⟩ u).setCell ⟨g, k * 2 + 1, none⟩ v) g m (k + 1) Ls Rb := by
  have ho : Only W ((W.setCell ⟨g, k * 2, none⟩ u).setCell ⟨g, k * 2 + 1, none⟩ v) (fun b => b = g) := (Only.setCell W g (k * 2) u).trans (Only.setCell _ g (k * 2 + 1) v) (fun i hi => .inl hi)
  refine ⟨fun i hi hk' => ?_⟩
  rw [cell_two hM u v (show i * 2 < n * 2 by omega), cell_two hM u v (show i * 2 + 1 < n * 2 by omega)]
  by_cases e : i = k
  · subst e
    rw [if_neg (show ¬ i * 2 = i * 2 + 1 by omega), if_pos rfl, if_pos rfl]
    exact ⟨x, u, v, rfl, rfl, hr.only ho (fun b e => hg b (hx b e).2), fun b e => ⟨Nat.lt_of_lt_of_le (hx b e).1 ho.size, (hx b e).2⟩⟩
  · obtain ⟨x', u', v', h1, h2, h3, h4⟩ := h.at' i hi (by omega)
    rw [if_neg (by omega), if_neg (by omega), if_neg (by omega), if_neg (by omega)]
    exact ⟨x', u', v', h1, h2, h3.only ho (fun b e => hg b (h4 b e).2), fun b e => ⟨Nat.lt_of_lt_of_le (h4 b e).1 ho.size, (h4 b e).2⟩⟩
/-- A walk that is being made. -/
structure NwL (w0 W : World) (n m gF mp ga gn B k : Nat) (ks : List Int) (Fo : List (List Int)) (vH : Value) : Prop where
  row : W.heap[B]? = some (.cells #[.slice (some ⟨gF, 0, none⟩) n n, .map (some mp), vH, .slice (some ⟨ga, 0, none⟩) m m, .slice (some ⟨gn, 0, none⟩) m m] 58 (0, 0))
  fol : Made W gF n
  rws : FolI W gF m k Fo (Oth gF mp ga gn B)
  nu : MapN W mp ks
  at' : BS W ga m (fun _ => false)
  nx : BS W gn m (fun _ => false)
  bel : Below w0.heap.size w0 W
def Apart5 (w0 : World) (gF mp ga gn B : Nat) : Prop := (w0.heap.size ≤ gF ∧ w0.heap.size ≤ mp ∧ w0.heap.size ≤ ga ∧ w0.heap.size ≤ gn ∧ w0.heap.size ≤ B) ∧ ¬ gF = mp ∧ ¬ gF = ga ∧ ¬ gF = gn ∧ ¬ gF = B ∧ ¬ mp = ga ∧ ¬ mp = gn ∧ ¬ mp = B ∧ ¬ ga = gn ∧ ¬ ga = B ∧ ¬ gn = B
theorem NwI.begin {w0 W : World} {n m gF mp ga gn B : Nat} (Fo : List (List Int)) (h : NwI w0 W n m gF mp ga gn B) : NwL w0 W n m gF mp ga gn B 0 [] Fo (.slice none 0 0) ∧ Apart5 w0 gF mp ga gn B :=
  ⟨⟨h.row, h.fol, ⟨fun _ _ hk => absurd hk (Nat.not_lt_zero _)⟩, h.nu, h.at', h.nx, h.bel⟩, h.lo, h.ne⟩
theorem NwL.past {w0 W W' : World} {n m gF mp ga gn B k : Nat} {ks : List Int} {Fo : List (List Int)} {vH : Value} (h : NwL w0 W n m gF mp ga gn B k ks Fo vH) (hb : Below W.heap.size W W') : NwL w0 W' n m gF mp ga gn B k ks Fo vH :=
  ⟨(hb.block B (Array.getElem?_eq_some_iff.1 h.row).1).trans h.row, h.fol.below hb, h.rws.only h.fol.lt (Only.ofNew hb (fun _ => False)) (fun e => e) (fun _ _ e => e), h.nu.below hb, h.at'.below hb, h.nx.below hb, h.bel.trans (hb.mono h.bel.size)⟩
theorem NwL.put {w0 W : World} {n m gF mp ga gn B k : Nat} {ks : List Int} {Fo : List (List Int)} {vH : Value} (h : NwL w0 W n m gF mp ga gn B k ks Fo vH) (hA : Apart5 w0 gF mp ga gn B) (hn : Fo.length ≤ n) (hk : k < Fo.length) (x : Option Nat) (u v : Value) (hr : RowIs W m Fo[k] x (.agg #[u, v])) (hx : ∀ b, x = some b → b < W.heap.size ∧ Oth gF mp ga gn B b) :
    NwL w0 ((W.setCell ⟨gF, k * 2, none⟩ u).setCell ⟨gF, k * 2 + 1, none⟩ v) n m gF mp ga gn B (k + 1) ks Fo vH := by
  obtain ⟨⟨l1, l2, l3, l4, l5⟩, n1, n2, n3, n4, n5, n6, n7, n8, n9, n10⟩ := hA
  have hb : ∀ b, ¬ b = gF → ((W.setCell ⟨gF, k * 2, none⟩ u).setCell ⟨gF, k * 2 + 1, none⟩ v).heap[b]? = W.heap[b]? := fun b hb => by
    rw [Below.heap_setCell _ _ _ b hb, Below.heap_setCell _ _ _ b hb]
  exact ⟨(hb B (fun e => n4 e.symm)).trans h.row, (h.fol.set _ _).set _ _, h.rws.put h.fol hn (fun b hb => hb.1) hk x u v hr hx, h.nu.keep (hb mp (fun e => n1 e.symm)), h.at'.kept (hb ga (fun e => n2 e.symm)), h.nx.kept (hb gn (fun e => n3 e.symm)), (h.bel.setCell (p := ⟨gF, k * 2, none⟩) l1 u).setCell (p := ⟨gF, k * 2 + 1, none⟩) l1 v⟩
theorem NwL.map {w0 W W' : World} {n m gF mp ga gn B k : Nat} {ks ks' : List Int} {Fo : List (List Int)} {vH : Value} (h : NwL w0 W n m gF mp ga gn B k ks Fo vH) (hA : Apart5 w0 gF mp ga gn B) (hg : W.grownBy W' (some mp)) (hm : MapN W' mp ks') : NwL w0 W' n m gF mp ga gn B k ks' Fo vH := by
  obtain ⟨⟨l1, l2, l3, l4, l5⟩, n1, n2, n3, n4, n5, n6, n7, n8, n9, n10⟩ := hA
  have ho : Only W W' (fun b => b = mp) := ⟨hg.os, hg.tape, hg.output, hg.size, fun i hi hs => hg.block i hi (fun e => hs (Option.some.inj e))⟩
  exact ⟨(ho.block B (Array.getElem?_eq_some_iff.1 h.row).1 (fun e => n7 e.symm)).trans h.row, h.fol.keep (ho.block gF h.fol.lt n1), h.rws.only h.fol.lt ho n1 (fun b hb => hb.2.1), hm, h.at'.only ho (fun e => n5 e.symm), h.nx.only ho (fun e => n6 e.symm), h.bel.trans (ho.below h.bel.size (fun i hi => by subst hi; exact l2))⟩
theorem NwL.setH {w0 W : World} {n m gF mp ga gn B k : Nat} {ks : List Int} {Fo : List (List Int)} {vH : Value} (h : NwL w0 W n m gF mp ga gn B k ks Fo vH) (hA : Apart5 w0 gF mp ga gn B) (v : Value) : NwL w0 (W.setCell ⟨B, 2, none⟩ v) n m gF mp ga gn B k ks Fo v := by
  obtain ⟨⟨l1, l2, l3, l4, l5⟩, n1, n2, n3, n4, n5, n6, n7, n8, n9, n10⟩ := hA
  have ho := Only.setCell W B 2 v
  exact ⟨heap_setCell_same _ _ 2 _ _ v h.row, h.fol.keep (ho.block gF h.fol.lt n4), h.rws.only h.fol.lt ho n4 (fun b hb => hb.2.2.2.2), h.nu.keep (ho.block mp h.nu.lt n7), h.at'.only ho n9, h.nx.only ho n10, h.bel.setCell (p := ⟨B, 2, none⟩) l5 v⟩
theorem NwL.cells {w0 W : World} {n m gF mp ga gn B k : Nat} {ks : List Int} {Fo : List (List Int)} {vH : Value} (h : NwL w0 W n m gF mp ga gn B k ks Fo vH) : W.cell? ⟨B, 0, none⟩ = some (.slice (some ⟨gF, 0, none⟩) n n) ∧ W.cell? ⟨B, 1, none⟩ = some (.map (some mp)) ∧ W.cell? ⟨B, 2, none⟩ = some vH ∧ W.frozen? ⟨B, 2, none⟩ = false :=
  ⟨by rw [cell_of_row _ _ _ _ _ _ h.row]; rfl, by rw [cell_of_row _ _ _ _ _ _ h.row]; rfl, by rw [cell_of_row _ _ _ _ _ _ h.row]; rfl, by simp [World.frozen?, h.row]⟩
/-- The rows of holders that have been added. -/
def HolI (W Wb : World) (m k : Nat) (H : List (List Int)) (Rb : Nat → Prop) (vH : Value) : Prop := ∃ xs, W.ownsRow Wb.heap.size 64 2 vH k xs ∧ ∀ i (h : i < H.length), i < k → ∃ x u v, xs[i * 2]? = some u ∧ xs[i * 2 + 1]? = some v ∧ RowIs W m H[i] x (.agg #[u, v]) ∧ ∀ b, x = some b → (b < W.heap.size ∧ Rb b) ∧ vH.ownBlock ≠ some b
theorem HolI.begin (W Wb : World) (m : Nat) (H : List (List Int)) (Rb : Nat → Prop) : HolI W Wb m 0 H Rb (.slice none 0 0) := ⟨[], World.ownsRow_nil _ _ _ _, fun _i _ hk => absurd hk (Nat.not_lt_zero _)⟩
theorem HolI.only {W W' Wb : World} {m k : Nat} {H : List (List Int)} {Rb S : Nat → Prop} {vH : Value} (h : HolI W Wb m k H Rb vH) (ho : Only W W' S) (hs : ∀ b, S b → b < Wb.heap.size) (hb : ∀ b, Rb b → ¬ S b) : HolI W' Wb m k H Rb vH := by
  obtain ⟨xs, h1, h2⟩ := h
  refine ⟨xs, own_blk h1 (fun g hg => ho.block g (World.ownsRow.lt h1 g hg).2 (fun s => by have := hs g s; have := (World.ownsRow.lt h1 g hg).1; omega)), fun i hi hk => ?_⟩
  obtain ⟨x, u, v, e1, e2, h3, h4⟩ := h2 i hi hk
  exact ⟨x, u, v, e1, e2, h3.only ho (fun b e => hb b (h4 b e).1.2), fun b e => ⟨⟨Nat.lt_of_lt_of_le (h4 b e).1.1 ho.size, (h4 b e).1.2⟩, (h4 b e).2⟩⟩
/-- One more row. -/
theorem HolI.put {W1 W2 Wb : World} {m k : Nat} {H : List (List Int)} {Rb : Nat → Prop} {vH v' : Value} {xs : List Value} (h1 : W1.ownsRow Wb.heap.size 64 2 vH k xs)
    (h2 : ∀ i (h : i < H.length), i < k → ∃ x u v, xs[i * 2]? = some u ∧ xs[i * 2 + 1]? = some v ∧ RowIs W1 m H[i] x (.agg #[u, v]) ∧ ∀ b, x = some b → (b < W1.heap.size ∧ Rb b) ∧ vH.ownBlock ≠ some b) (hk : k < H.length)
    (x : Option Nat) (u v : Value) (hr : RowIs W1 m H[k] x (.agg #[u, v])) (hx : ∀ b, x = some b → (b < W1.heap.size ∧ Rb b) ∧ vH.ownBlock ≠ some b) (hown : W2.ownsRow Wb.heap.size 64 2 v' (k + 1) (xs ++ [u, v])) (hg : W1.grownBy W2 vH.ownBlock) (hat : v'.ownBlock = vH.ownBlock ∨ v'.ownBlock = some W1.heap.size) :
    HolI W2 Wb m (k + 1) H Rb v' := by
  have hl : xs.length = k * 2 := by
    have e1 := h1.1
    exact e1
  have ho : Only W1 W2 (fun b => vH.ownBlock = some b) := ⟨hg.os, hg.tape, hg.output, hg.size, fun i hi hs => hg.block i hi (fun e => hs e.symm)⟩
  have hne : ∀ b, b < W1.heap.size → vH.ownBlock ≠ some b → v'.ownBlock ≠ some b := fun b hb hn e => by
    rcases hat with h | h
    · exact hn (h ▸ e)
    · rw [h] at e
      have := Option.some.inj e
      omega
  refine ⟨_, hown, fun i hi hk' => ?_⟩
  by_cases e : i = k
  · subst e
    refine ⟨x, u, v, ?_, ?_, hr.only ho (fun b e => (hx b e).2), fun b e => ⟨⟨Nat.lt_of_lt_of_le (hx b e).1.1 ho.size, (hx b e).1.2⟩, hne b (hx b e).1.1 (hx b e).2⟩⟩
    · rw [List.getElem?_append_right (by omega), hl, Nat.sub_self]; rfl
    · rw [List.getElem?_append_right (by omega), hl, show i * 2 + 1 - i * 2 = 1 by omega]; rfl
  · obtain ⟨x', u', v'', q1, q2, q3, q4⟩ := h2 i hi (by omega)
    have b1 := (List.getElem?_eq_some_iff.1 q1).1
    have b2 := (List.getElem?_eq_some_iff.1 q2).1
    refine ⟨x', u', v'', ?_, ?_, q3.only ho (fun b e => (q4 b e).2), fun b e => ⟨⟨Nat.lt_of_lt_of_le (q4 b e).1.1 ho.size, (q4 b e).1.2⟩, hne b (q4 b e).1.1 (q4 b e).2⟩⟩
    · rw [List.getElem?_append_left b1]; exact q1
    · rw [List.getElem?_append_left b2]; exact q2
theorem Bag.rwb {w : World} {base : Nat} {v : Value} {ps : Lot} (h : Bag w base v ps) {H : List (List Int)} (hH : ps.map (fun x : Value × List Int => x.2) = H) : ∃ a c, v = .slice a H.length c ∧ ∀ k (hk : k < H.length), ∃ b, a = some ⟨b, 0, none⟩ ∧ base ≤ b ∧ b < w.heap.size ∧ ∃ a1 c1, w.cell? ⟨b, k, none⟩ = some (.slice a1 (H[k]).length c1) ∧ IA w a1 H[k] ∧ ∀ p, a1 = some p → base ≤ p.block ∧ p.block < w.heap.size := by
  subst hH
  have h0 := h.outer
  rcases h0.2 with ⟨hv, hn⟩ | ⟨g, cap, cur, hv, hg, _⟩
  · have hps : ps = [] := List.eq_nil_of_length_eq_zero (by omega)
    subst hps
    exact ⟨none, 0, hv, fun k hk => by simp at hk⟩
  · refine ⟨some ⟨g, 0, none⟩, cap, by rw [hv, List.length_map], fun k hk => ?_⟩
    have hk' : k < ps.length := by simpa using hk
    have hr := h.row ps[k] (List.getElem_mem hk')
    have hr0 := hr
    rw [hv] at h0
    obtain ⟨a1, c1, e1, hq⟩ := hr.ia
    refine ⟨g, rfl, hg, (World.ownsRow.lt h0 g rfl).2, a1, c1, ?_, ?_, ?_⟩
    · rw [World.ownsRow.cellAt h0 k (by omega)]
      simp [hk', e1]
    · simp only [List.getElem_map]
      exact hq
    · rintro p rfl
      rcases hr0.2 with ⟨hv1, _⟩ | ⟨g1, cap1, cur1, hv1, _⟩
      · rw [e1] at hv1
        cases hv1
      · rw [e1] at hv1
        simp only [Value.slice.injEq, Option.some.injEq] at hv1
        obtain ⟨rfl, _⟩ := hv1
        exact World.ownsRow.lt hr0 g1 (by rw [e1]; rfl)
theorem NwL.onlyB {w0 Wb W : World} {n m gF mp ga gn B k : Nat} {ks : List Int} {Fo : List (List Int)} {v0 vH : Value} (h : NwL w0 Wb n m gF mp ga gn B k ks Fo v0) (hA : Apart5 w0 gF mp ga gn B) (ho : Only Wb W (fun b => b = B))
    (hr : W.heap[B]? = some (.cells #[.slice (some ⟨gF, 0, none⟩) n n, .map (some mp), vH, .slice (some ⟨ga, 0, none⟩) m m, .slice (some ⟨gn, 0, none⟩) m m] 58 (0, 0))) : NwL w0 W n m gF mp ga gn B k ks Fo vH := by
  obtain ⟨⟨l1, l2, l3, l4, l5⟩, n1, n2, n3, n4, n5, n6, n7, n8, n9, n10⟩ := hA
  exact ⟨hr, h.fol.keep (ho.block gF h.fol.lt n4), h.rws.only h.fol.lt ho n4 (fun b hb => hb.2.2.2.2), h.nu.keep (ho.block mp h.nu.lt n7), h.at'.only ho n9, h.nx.only ho n10, h.bel.trans (ho.below h.bel.size (fun i hi => by subst hi; exact l5))⟩
end Go.Proofs.YtlkgghbdgjomkaaDoor
namespace Go.Proofs.YtlkgghbdgjomkaaDoor
open Go.RowKit Go.Shelf
/-- What newWalk leaves. -/
def NwR (w : World) (Le Fo : List (List Int)) (Fi Wd : List Int) (e : Ending) (w' : World) : Prop := ∃ B gf gh ga gn mp cF cH ks H, e = .returned (.pointer (some ⟨B, 0, none⟩)) ∧ Wk w' B gf gh ga gn mp ((Le.length + 511) / 512) cF cH ks Fo H (fun _ => false) (addF Fi (fun _ => false)) (fun k => ¬ k = ga ∧ ¬ k = gn) ∧
  (∀ c ∈ Wd, c ∈ ks) ∧ (∀ c ∈ ks, inI c) ∧ ks.length ≤ 4000000 ∧ HoldI ks Le Le.length 0 H ∧ (∀ r ∈ H, r.length ≤ 100000000000000) ∧ (w.heap.size ≤ ga ∧ w.heap.size ≤ gn) ∧ Below w.heap.size w w'
theorem drew_below (w : World) : Below w.heap.size w w.drew := ⟨rfl, rfl, rfl, Nat.le_refl _, fun _ _ => rfl⟩
theorem cell_pair_new (w : World) (u v : Value) (t : TypeId) : ∀ j x, [u, v][j]? = some x → (w.alloc (.cells #[u, v] t)).cell? ((⟨w.heap.size, 0, none⟩ : Addr).add j) = some x := by
  intro j x h
  rw [Addr.add_lit, cell_of_row _ w.heap.size _ _ _ _ (heap_alloc_new w _), Nat.zero_add]
  simpa using h
theorem below_drew {w w2 : World} (h : Below w.drew.heap.size w.drew w2) : Below w.heap.size w w2 := ⟨h.os, h.tape, h.output, h.size, h.block⟩
theorem oth_old {w0 : World} {gF mp ga gn B b : Nat} (h : Apart5 w0 gF mp ga gn B) (hb : b < w0.heap.size) : Oth gF mp ga gn B b := by
  obtain ⟨⟨l1, l2, l3, l4, l5⟩, _⟩ := h
  exact ⟨by omega, by omega, by omega, by omega, by omega⟩
theorem oth_new {w0 W : World} {n m gF mp ga gn B k b : Nat} {ks : List Int} {Fo : List (List Int)} {vH : Value} (h : NwL w0 W n m gF mp ga gn B k ks Fo vH) (hb : W.heap.size ≤ b) : Oth gF mp ga gn B b := by
  have h1 := h.fol.lt
  have h2 := h.nu.lt
  have h3 := h.at'.lt
  have h4 := h.nx.lt
  have h5 := (Array.getElem?_eq_some_iff.1 h.row).1
  exact ⟨by omega, by omega, by omega, by omega, by omega⟩
theorem nw_end {w w0 Wb W w2 : World} {Le Fo H : List (List Int)} {Fi Wd ks : List Int} {m gF mp ga gn B : Nat} {v0 vH : Value} (hm : m = (Le.length + 511) / 512) (hb0 : Below w.heap.size w w0) (hLb : NwL w0 Wb Le.length m gF mp ga gn B Fo.length ks Fo v0) (hL : NwL w0 W Le.length m gF mp ga gn B Fo.length ks Fo vH) (hA : Apart5 w0 gF mp ga gn B)
    (hH : HolI W Wb m H.length H (Oth gF mp ga gn B) vH) (hHp : 0 < H.length) (hFl : Fo.length = Le.length) (hadd : BS w2 gn m (addF Fi (fun _ => false))) (ho : Only W w2 (fun k => k = gn)) (hT : TabAt 11 Lib.deBruijn64tab w) (hT11 : 11 < w.heap.size)
    (h1 : ∀ c ∈ Wd, c ∈ ks) (h2 : ∀ c ∈ ks, inI c) (h3 : ks.length ≤ 4000000) (h4 : HoldI ks Le Le.length 0 H) (h5 : ∀ r ∈ H, r.length ≤ 100000000000000) : NwR w Le Fo Fi Wd (.returned (.pointer (some ⟨B, 0, none⟩))) w2 := by
  subst hm
  have hA0 := hA
  obtain ⟨⟨l1, l2, l3, l4, l5⟩, n1, n2, n3, n4, n5, n6, n7, n8, n9, n10⟩ := hA
  obtain ⟨xs, hox, hrx⟩ := hH
  obtain ⟨gh, cH, rfl, hg1, hg2, hg3⟩ := own_form hox hHp
  have ka := hLb.at'.lt
  have kn := hLb.nx.lt
  have hsz := hb0.size
  have hbw2 : Below w.heap.size w w2 := Below.later hb0 (hL.bel.trans (ho.below hL.bel.size (fun i hi => by subst hi; exact l4)))
  have hf2 := hL.rws.only hL.fol.lt ho n3 (fun b hb => hb.2.2.2.1)
  refine ⟨B, gF, gh, ga, gn, mp, Le.length, cH, ks, H, rfl, ⟨?_, ?_, ?_, hL.nu.keep (ho.block mp hL.nu.lt n6), hL.at'.only ho n8, hadd, fun j hj => (hbw2.cell (p := ⟨11, j, none⟩) hT11).trans (hT j hj), Nat.lt_of_lt_of_le hT11 hbw2.size, ⟨fun e => n9 e.symm, fun e => n10 e.symm⟩, ⟨n5, n6⟩, ⟨by omega, by omega⟩, fun k hk => hk, n8⟩, h1, h2, h3, h4, h5, ⟨by omega, by omega⟩, hbw2⟩
  · rw [hFl]
    exact (ho.block B (Array.getElem?_eq_some_iff.1 hL.row).1 (fun e => n10 e.symm)).trans hL.row
  · refine ⟨Nat.lt_of_lt_of_le hL.fol.lt ho.size, ⟨n2, n3⟩, fun k hk => ?_⟩
    obtain ⟨x, u, v, e1, e2, e3, e4⟩ := hf2.at' k hk hk
    exact ⟨x, u, v, e1, e2, e3, fun b hb => ⟨(e4 b hb).2.2.2.1, (e4 b hb).2.2.2.2.1⟩⟩
  · refine ⟨Nat.lt_of_lt_of_le hg2 ho.size, ⟨by omega, by omega⟩, fun k hk => ?_⟩
    obtain ⟨x, u, v, e1, e2, e3, e4⟩ := hrx k hk hk
    have hcell : ∀ j y, xs[j]? = some y → w2.cell? ⟨gh, j, none⟩ = some y := fun j y hy => by
      rw [ho.cell (p := ⟨gh, j, none⟩) hg2 (by show ¬ gh = gn; omega)]
      have hl : xs.length = H.length * 2 := hox.1
      have hj := (List.getElem?_eq_some_iff.1 hy).1
      rw [World.ownsRow.cellAt hox j (by omega)]
      exact hy
    exact ⟨x, u, v, hcell _ _ e1, hcell _ _ e2, e3.only ho (fun b hb => (e4 b hb).1.2.2.2.2.1), fun b hb => ⟨(e4 b hb).1.2.2.2.1, (e4 b hb).1.2.2.2.2.1⟩⟩
end Go.Proofs.YtlkgghbdgjomkaaDoor
namespace Go.Proofs.YtlkgghbdgjomkaaDoor
theorem addF_has (L : List Int) (q : Nat) : addF L (fun _ => false) q = hasL L (q : Int) := by
  unfold addF hasL
  rw [Bool.or_false]
  rfl
theorem nxF_any (Fo : List (List Int)) (t : Nat) : ∀ (pre : List Nat) (f : Nat → Bool), (pre.foldl (fun f p => addF (Fo.getD p []) f) f) t = (pre.any (fun p => hasL (Fo.getD p []) (t : Int)) || f t)
  | [], f => by simp
  | p :: r, f => by
    rw [List.foldl_cons, nxF_any Fo t r, List.any_cons]
    have : addF (Fo.getD p []) f t = (hasL (Fo.getD p []) (t : Int) || f t) := rfl
    rw [this]
    cases hasL (Fo.getD p []) (t : Int) <;> simp
theorem nxF_next (Fo : List (List Int)) (f : Nat → Bool) (n : Nat) (hf : ∀ q, f q = true → q < Fo.length) (hn : Fo.length ≤ n) : nxF Fo (plB f n) = nextF Fo f := by
  funext t
  unfold nxF nextF partF plB
  rw [nxF_any, Bool.or_false, Bool.eq_iff_iff, List.any_eq_true, List.any_eq_true]
  constructor
  · rintro ⟨p, hp, h⟩
    rw [List.mem_filter] at hp
    exact ⟨p, List.mem_range.2 (hf p hp.2), by rw [hp.2, h]; rfl⟩
  · rintro ⟨p, hp, h⟩
    rw [Bool.and_eq_true] at h
    exact ⟨p, List.mem_filter.2 ⟨List.mem_range.2 (by have := List.mem_range.1 hp; omega), h.1⟩, h.2⟩
theorem hold_lt {Le : List (List Int)} {c : Int} {q : Nat} (h : holdF Le c q = true) : q < Le.length := by
  apply Classical.byContradiction
  intro hq
  rw [holdF, List.getD_eq_getElem?_getD, List.getElem?_eq_none (by omega)] at h
  cases h
theorem at_lt {Le : List (List Int)} {nx : Nat → Bool} {c : Int} {q : Nat} (h : atF Le nx c q = true) : q < Le.length := by
  unfold atF at h
  rw [Bool.and_eq_true] at h
  exact hold_lt h.2
theorem stepAt_at {Le : List (List Int)} {L : List Int} {fx : Nat → Bool} {m : Nat} {c : Int} (hL : ∀ p : Nat, hasL L (p : Int) = holdF Le c p) (hm : Le.length ≤ 512 * m) : stepAt L fx m = atF Le fx c := by
  funext q
  unfold stepAt andTo atF
  rw [addF_has, hL]
  by_cases h : holdF Le c q = true
  · have := hold_lt h
    rw [h, decide_eq_false (show ¬ 64 * (m * 8) ≤ q by omega)]
    simp
  · rw [Bool.not_eq_true] at h
    rw [h]
    simp
/-- What is left to be said, from where the walk is and where a step may lead to. -/
def cM (Le Fo : List (List Int)) (La : List Int) (fa fx : Nat → Bool) : List Int → Bool
  | [] => lastF La fa
  | d :: r => contM Le Fo La (atF Le fx d) r
theorem cM_next (Le Fo : List (List Int)) (La : List Int) (f : Nat → Bool) : ∀ l, cM Le Fo La f (nextF Fo f) l = contM Le Fo La f l
  | [] => rfl
  | _ :: _ => rfl
theorem cM_drop {Le Fo : List (List Int)} {La : List Int} {fa fx : Nat → Bool} {Wd : List Int} {k : Nat} (hk : k < Wd.length) : cM Le Fo La fa fx (Wd.drop k) = cM Le Fo La (atF Le fx Wd[k]) (nextF Fo (atF Le fx Wd[k])) (Wd.drop (k + 1)) := by
  rw [List.drop_eq_getElem_cons hk, cM_next]
  rfl
theorem cont_none (Le Fo : List (List Int)) (La : List Int) : ∀ (l : List Int) (f : Nat → Bool), (∀ q, f q = false) → contM Le Fo La f l = false
  | [], f, h => by simp [contM, lastF, h]
  | d :: r, f, h => by
    rw [contM]
    refine cont_none Le Fo La r _ (fun q => ?_)
    have : nextF Fo f q = false := by simp [nextF, partF, h]
    simp [atF, this]
theorem cM_start {Le Fo : List (List Int)} {Fi La : List Int} {em : Bool} {Wd : List Int} (hs : soundP Le.length Fi La Fo = true) (hw : 0 < Wd.length) : cM Le Fo La (fun _ => false) (addF Fi (fun _ => false)) (Wd.drop 0) = matM Le Fo Fi La em Wd := by
  cases Wd with
  | nil => simp at hw
  | cons c r =>
    rw [matM, hs, Bool.true_and, List.drop_zero, cM, run_cont]
    have : addF Fi (fun _ => false) = fun q : Nat => hasL Fi (q : Int) := by funext q; exact addF_has Fi q
    rw [this]
theorem em_none {Le : List (List Int)} {fx : Nat → Bool} {c : Int} {m : Nat} (h : emF (atF Le fx c) m = true) (hm : Le.length ≤ 512 * m) (q : Nat) : atF Le fx c q = false := by
  by_cases hq : q < 512 * m
  · exact (emF_iff _ _).1 h q hq
  · cases h2 : atF Le fx c q with
    | false => rfl
    | true => have := at_lt h2; omega
end Go.Proofs.YtlkgghbdgjomkaaDoor
namespace Go.Proofs.YtlkgghbdgjomkaaDoor
/-- An append whose run is known, as one step of a region that draws. -/
theorem step_append_run {P : Program} {ops : Array Oper} {o : Oper} {a : Act} {w : World} {K : Act → World → Prop} {Q : Exit → Act → World → Prop} {E : Prop}
    (hg : o.guard = none) (s x : Operand) (t : TypeId) (hop : o.op = Op.call { callee := Callee.builtin Builtin.append, args := #[s, x], argTypes := #[t, t] })
    (v1 v2 v' : Value) (w' : World) (hrun : (Builtin.append_ #[t, t] o.type #[v1, v2]).run P w = .ok v' w') (hs : a.eval s = v1) (hx : a.eval x = v2) (hK : K (a.put o.dst v') w') :
    if Region.wanted o (yielded ops a.tmps) = true then Oper.wp P o a w K Q else E := by
  have hw : Region.wanted o (yielded ops a.tmps) = true := by simp [Region.wanted, hg]
  rw [if_pos hw]
  unfold Oper.wp
  simp [execOp, hop, resolve, invoke, builtin, hs, hx, hrun, Result.andThen]
  exact hK
end Go.Proofs.YtlkgghbdgjomkaaDoor
