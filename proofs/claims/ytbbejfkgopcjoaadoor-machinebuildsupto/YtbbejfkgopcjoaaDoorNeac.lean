/-
  PlSW, PlTW, PlVW, PlTM, PlEaM, MbM, PlWW, PlXW, MbBW, MbAW, MbCW.
-/
import Derived.Test.YtbbejfkgopcjoaaDoorNeab
import Derived.Laws.Bits64b
import Derived.Test.YtbbejfkgopcjoaaDoorNeaa
import Derived.Deep.Cut
import Derived.ChangeKeysEq
import Derived.Lib.TrailingZeros
import Derived.Laws.IdiomStrings
import Derived.Laws.BytesString
import Derived.Maps.OwnSet
import Derived.Maps.OwnOps
import Derived.StringKeys
import Derived.Deep.RegionHeld3
namespace Go.Proofs.YtbbejfkgopcjoaaDoor
open Go.RowKit Go.Shelf
/-- A word of bits of which those are set that f tells, from 64 * i on. -/
def wordOf (f : Nat → Bool) (i : Nat) : Nat := (List.range 64).foldr (fun k n => n ||| (if f (64 * i + k) then 2 ^ k else 0)) 0
theorem wordOf_bit (f : Nat → Bool) (i k : Nat) : (wordOf f i).testBit k = (decide (k < 64) && f (64 * i + k)) := by
  have key : ∀ (l : List Nat), (l.foldr (fun k n => n ||| (if f (64 * i + k) then 2 ^ k else 0)) 0).testBit k = (decide (k ∈ l) && f (64 * i + k)) := by
    intro l
    induction l with
    | nil => simp
    | cons a r ih =>
      rw [List.foldr_cons, Nat.testBit_or, ih]
      by_cases ha : k = a
      · subst ha
        cases hf : f (64 * i + k) <;> simp [Nat.testBit_two_pow_self]
      · cases hf : f (64 * i + a)
        · simp [ha]
        · simp [ha, Nat.testBit_two_pow_of_ne (fun h => ha h.symm)]
  rw [wordOf, key]
  simp
theorem wordOf_lt (f : Nat → Bool) (i : Nat) : wordOf f i < 2 ^ 64 := by
  apply Nat.lt_pow_two_of_testBit
  intro k hk
  rw [wordOf_bit]
  simp; omega
theorem word_or (f : Nat → Bool) (p : Nat) : wordOf f (p / 64) ||| 2 ^ (p % 64) = wordOf (fun q => decide (q = p) || f q) (p / 64) := by
  apply Nat.eq_of_testBit_eq
  intro k
  rw [Nat.testBit_or, wordOf_bit, wordOf_bit]
  by_cases hk : k = p % 64
  · subst hk
    have hp : 64 * (p / 64) + p % 64 = p := by omega
    rw [hp, Nat.testBit_two_pow_self]
    simp; omega
  · rw [Nat.testBit_two_pow_of_ne (fun e => hk e.symm), Bool.or_false]
    by_cases hl : k < 64
    · have : ¬ 64 * (p / 64) + k = p := by omega
      simp [this]
    · simp [hl]
theorem word_other (f : Nat → Bool) (p i : Nat) (h : ¬ i = p / 64) : wordOf (fun q => decide (q = p) || f q) i = wordOf f i := by
  apply Nat.eq_of_testBit_eq
  intro k
  rw [wordOf_bit, wordOf_bit]
  by_cases hl : k < 64
  · have : ¬ 64 * i + k = p := by omega
    simp [this]
  · simp [hl]
/-- A set of places in m blocks. -/
structure BS (w : World) (g m : Nat) (f : Nat → Bool) : Prop where
  row : ∃ cur, w.heap[g]? = some (.cells cur 149 (0, 0)) ∧ ∀ i, i < 8 * m → cur[i]? = some (.int .u64 (wordOf f i : Int))
  out : ∀ q, 512 * m ≤ q → f q = false
theorem BS.cell {w : World} {g m : Nat} {f : Nat → Bool} (h : BS w g m f) (i : Nat) (hi : i < 8 * m) : w.cell? ⟨g, i, none⟩ = some (.int .u64 (wordOf f i : Int)) ∧ w.frozen? ⟨g, i, none⟩ = false := by
  obtain ⟨cur, h1, h2⟩ := h.row
  exact ⟨by rw [cell_of_row _ g _ _ _ _ h1]; exact h2 i hi, by simp [World.frozen?, h1]⟩
theorem BS.lt {w : World} {g m : Nat} {f : Nat → Bool} (h : BS w g m f) : g < w.heap.size := by
  obtain ⟨cur, h1, _⟩ := h.row
  exact (Array.getElem?_eq_some_iff.1 h1).1
theorem BS.kept {w w' : World} {g m : Nat} {f : Nat → Bool} (h : BS w g m f) (hk : w'.heap[g]? = w.heap[g]?) : BS w' g m f := by
  obtain ⟨cur, h1, h2⟩ := h.row
  exact ⟨⟨cur, hk.trans h1, h2⟩, h.out⟩
theorem BS.set {w : World} {g m : Nat} {f : Nat → Bool} (h : BS w g m f) (p : Nat) (hp : p < 512 * m) : BS (w.setCell ⟨g, p / 64, none⟩ (.int .u64 (wordOf (fun q => decide (q = p) || f q) (p / 64) : Int))) g m (fun q => decide (q = p) || f q) := by
  obtain ⟨cur, h1, h2⟩ := h.row
  refine ⟨⟨_, heap_setCell_same w g (p / 64) _ _ _ h1, fun i hi => ?_⟩, fun q hq => ?_⟩
  · by_cases e : i = p / 64
    · subst e
      have : p / 64 < cur.size := (Array.getElem?_eq_some_iff.1 (h2 _ hi)).1
      simp [this]
    · rw [Array.getElem?_setIfInBounds_ne (fun e' => e e'.symm), h2 i hi, word_other f p i e]
  · have : ¬ q = p := by omega
    simp [this, h.out q hq]
end Go.Proofs.YtbbejfkgopcjoaaDoor
namespace Go.Proofs.YtbbejfkgopcjoaaDoor
open Go.RowKit Go.Shelf
def addF (l : List Int) (f : Nat → Bool) (q : Nat) : Bool := l.any (fun x => decide (x = (q : Int))) || f q
end Go.Proofs.YtbbejfkgopcjoaaDoor
namespace Go.Proofs.YtbbejfkgopcjoaaDoor
open Go.RowKit Go.Shelf
theorem wordOf_eq_zero (f : Nat → Bool) (i : Nat) : wordOf f i = 0 ↔ ∀ j, j < 64 → f (64 * i + j) = false := by
  constructor
  · intro h j hj
    have hb := wordOf_bit f i j
    rw [h, Nat.zero_testBit, decide_eq_true hj, Bool.true_and] at hb
    exact hb.symm
  · intro h
    apply Nat.eq_of_testBit_eq
    intro j
    rw [wordOf_bit, Nat.zero_testBit]
    by_cases hj : j < 64
    · rw [h j hj, Bool.and_false]
    · rw [decide_eq_false hj, Bool.false_and]
end Go.Proofs.YtbbejfkgopcjoaaDoor
namespace Go.Proofs.YtbbejfkgopcjoaaDoor
theorem low_form (x : Nat) (h0 : x ≠ 0) (h : x < 2 ^ 64) : ∃ m, x = 2 ^ Lib.ctz 64 x * (2 * m + 1) ∧ Lib.ctz 64 x < 64 := by
  obtain ⟨m, h1, h2⟩ := Lib.ctzFrom_spec 64 x (by omega) h
  have : Lib.ctz 64 x = Lib.ctzFrom 64 x := by simp [Lib.ctz, h0]
  rw [this]
  exact ⟨m, h1, h2⟩
theorem pow_form_div (k m : Nat) : 2 ^ k * (2 * m + 1) / 2 ^ k = 2 * m + 1 := by
  rw [Nat.mul_comm, Nat.mul_div_cancel _ (Nat.two_pow_pos k)]
theorem pow_form_pred (k m : Nat) : (2 ^ k * (2 * m + 1) - 1) / 2 ^ k = 2 * m := by
  have hp := Nat.two_pow_pos k
  have e : 2 ^ k * (2 * m + 1) - 1 = 2 ^ k * (2 * m) + (2 ^ k - 1) := by rw [Nat.mul_add, Nat.mul_one]; omega
  rw [e, Nat.mul_add_div hp, Nat.div_eq_of_lt (show 2 ^ k - 1 < 2 ^ k by omega), Nat.add_zero]
theorem low_bits (k m j : Nat) : (2 ^ k * (2 * m + 1)).testBit j = (decide (j = k) || (decide (k < j) && (2 ^ k * (2 * m + 1)).testBit j)) := by
  by_cases h1 : j = k
  · subst h1
    rw [Nat.testBit_eq_decide_div_mod_eq, pow_form_div]
    simp
  · by_cases h2 : k < j
    · simp [h1, h2]
    · have h3 : j < k := by omega
      rw [Nat.testBit_two_pow_mul, decide_eq_false (show ¬ j ≥ k by omega)]
      simp [h1, h2]
theorem low_off (k m j : Nat) : (2 ^ k * (2 * m + 1) &&& (2 ^ k * (2 * m + 1) - 1)).testBit j = (decide (k < j) && (2 ^ k * (2 * m + 1)).testBit j) := by
  rw [Nat.testBit_and]
  by_cases h1 : j = k
  · subst h1
    have : (2 ^ j * (2 * m + 1) - 1).testBit j = false := by
      rw [Nat.testBit_eq_decide_div_mod_eq, pow_form_pred]; simp
    simp [this]
  · by_cases h2 : k < j
    · obtain ⟨i, rfl⟩ : ∃ i, j = k + 1 + i := ⟨j - k - 1, by omega⟩
      have e : (2 ^ k * (2 * m + 1) - 1).testBit (k + 1 + i) = (2 ^ k * (2 * m + 1)).testBit (k + 1 + i) := by
        rw [Nat.testBit_eq_decide_div_mod_eq, Nat.testBit_eq_decide_div_mod_eq, Nat.pow_add, Nat.pow_add, ← Nat.div_div_eq_div_mul, ← Nat.div_div_eq_div_mul, ← Nat.div_div_eq_div_mul, ← Nat.div_div_eq_div_mul, pow_form_pred, pow_form_div]
        have : 2 * m / 2 ^ 1 = (2 * m + 1) / 2 ^ 1 := by omega
        rw [this]
      rw [e, decide_eq_true h2]; simp
    · have : (2 ^ k * (2 * m + 1)).testBit j = false := by
        rw [low_bits]; simp [h1, h2]
      rw [this]; simp
/-- The lowest bit of a word; the word without it. -/
theorem low_word (x : Nat) (h0 : x ≠ 0) (h : x < 2 ^ 64) : x.testBit (Lib.ctz 64 x) = true ∧ Lib.ctz 64 x < 64 ∧ ∀ j, (j < Lib.ctz 64 x → x.testBit j = false) ∧ (x &&& (x - 1)).testBit j = (decide (Lib.ctz 64 x < j) && x.testBit j) := by
  obtain ⟨m, h1, h2⟩ := low_form x h0 h
  generalize Lib.ctz 64 x = k at *
  subst h1
  refine ⟨by rw [low_bits]; simp, h2, fun j => ⟨fun hj => ?_, low_off k m j⟩⟩
  rw [low_bits]; simp; omega
end Go.Proofs.YtbbejfkgopcjoaaDoor
namespace Go.Proofs.YtbbejfkgopcjoaaDoor
/-- The places of a set below n, rising. -/
def plB (f : Nat → Bool) (n : Nat) : List Nat := (List.range n).filter f
theorem plB_succ (f : Nat → Bool) (n : Nat) : plB f (n + 1) = if f n then plB f n ++ [n] else plB f n := by
  simp only [plB, List.range_succ, List.filter_append]
  cases h : f n <;> simp [h]
theorem plB_skip (f : Nat → Bool) (a : Nat) : ∀ d, (∀ q, a ≤ q → q < a + d → f q = false) → plB f (a + d) = plB f a
  | 0, _ => rfl
  | d + 1, h => by
    rw [← Nat.add_assoc, plB_succ, h (a + d) (by omega) (by omega)]
    simp [plB_skip f a d (fun q h1 h2 => h q h1 (by omega))]
/-- A word without the bits below c. -/
def wordFrom (f : Nat → Bool) (c i : Nat) : Nat := wordOf (fun q => f q && decide (64 * i + c ≤ q)) i
theorem wordFrom_zero (f : Nat → Bool) (i : Nat) : wordFrom f 0 i = wordOf f i := by
  apply Nat.eq_of_testBit_eq
  intro k
  rw [wordFrom, wordOf_bit, wordOf_bit]
  simp
theorem wordFrom_bit (f : Nat → Bool) (c i k : Nat) : (wordFrom f c i).testBit k = (decide (k < 64) && (f (64 * i + k) && decide (c ≤ k))) := by
  rw [wordFrom, wordOf_bit]
  have : decide (64 * i + c ≤ 64 * i + k) = decide (c ≤ k) := by
    by_cases h : c ≤ k
    · rw [decide_eq_true h, decide_eq_true (by omega)]
    · rw [decide_eq_false h, decide_eq_false (by omega)]
  rw [this]
theorem wordFrom_lt (f : Nat → Bool) (c i : Nat) : wordFrom f c i < 18446744073709551616 := wordOf_lt _ _
theorem wordFrom_none {f : Nat → Bool} {c i : Nat} (h : wordFrom f c i = 0) (hc : c ≤ 64) : plB f (64 * (i + 1)) = plB f (64 * i + c) := by
  have := plB_skip f (64 * i + c) (64 - c) (fun q h1 h2 => by
    have hb := wordFrom_bit f c i (q - 64 * i)
    rw [h, Nat.zero_testBit, decide_eq_true (show q - 64 * i < 64 by omega), decide_eq_true (show c ≤ q - 64 * i by omega), show 64 * i + (q - 64 * i) = q by omega] at hb
    simpa using hb.symm)
  rw [← this]
  congr 1
  omega
theorem wordFrom_some {f : Nat → Bool} {c i : Nat} (h : wordFrom f c i ≠ 0) : ∃ t, Lib.ctz 64 (wordFrom f c i) = t ∧ c ≤ t ∧ t < 64 ∧ f (64 * i + t) = true ∧ wordFrom f c i &&& (wordFrom f c i - 1) = wordFrom f (t + 1) i ∧ plB f (64 * i + (t + 1)) = plB f (64 * i + c) ++ [64 * i + t] := by
  obtain ⟨h1, h2, h3⟩ := low_word _ h (wordFrom_lt f c i)
  refine ⟨_, rfl, ?_⟩
  generalize Lib.ctz 64 (wordFrom f c i) = t at *
  rw [wordFrom_bit, decide_eq_true h2, Bool.true_and, Bool.and_eq_true] at h1
  have hct : c ≤ t := of_decide_eq_true h1.2
  refine ⟨hct, h2, h1.1, ?_, ?_⟩
  · apply Nat.eq_of_testBit_eq
    intro j
    rw [(h3 j).2, wordFrom_bit, wordFrom_bit]
    by_cases hj : t < j
    · rw [decide_eq_true hj, decide_eq_true (show c ≤ j by omega), decide_eq_true (show t + 1 ≤ j by omega), Bool.true_and]
    · rw [decide_eq_false hj, decide_eq_false (show ¬ t + 1 ≤ j by omega)]
      simp
  · rw [← Nat.add_assoc, plB_succ, h1.1, if_pos rfl]
    have := plB_skip f (64 * i + c) (t - c) (fun q h4 h5 => by
      have hb := (h3 (q - 64 * i)).1 (by omega)
      rw [wordFrom_bit, decide_eq_true (show q - 64 * i < 64 by omega), decide_eq_true (show c ≤ q - 64 * i by omega), show 64 * i + (q - 64 * i) = q by omega] at hb
      simpa using hb)
    rw [show 64 * i + t = 64 * i + c + (t - c) by omega, this]
end Go.Proofs.YtbbejfkgopcjoaaDoor
namespace Go.Proofs.YtbbejfkgopcjoaaDoor
/-- Little ends first: so many bytes of a number. -/
def leB (n : Nat) : Nat → List UInt8
  | 0 => []
  | k + 1 => UInt8.ofNat (n % 256) :: leB (n / 256) k
theorem leB_len : ∀ (k n : Nat), (leB n k).length = k
  | 0, _ => rfl
  | k + 1, n => by rw [leB, List.length_cons, leB_len k]
/-- And back. -/
def leD : List UInt8 → Nat
  | [] => 0
  | b :: l => b.toNat + 256 * leD l
theorem leD_leB : ∀ (k n : Nat), leD (leB n k) = n % 256 ^ k
  | 0, n => by simp [leB, leD, Nat.mod_one]
  | k + 1, n => by
    have e : (UInt8.ofNat (n % 256)).toNat = n % 256 := by rw [UInt8.toNat_ofNat']; omega
    have p : 256 ^ (k + 1) = 256 * 256 ^ k := by rw [Nat.pow_succ, Nat.mul_comm]
    rw [leB, leD, leD_leB k, e, p, Nat.mod_mul]
theorem leB_inj {k a b : Nat} (ha : a < 256 ^ k) (hb : b < 256 ^ k) (h : leB a k = leB b k) : a = b := by
  have := congrArg leD h
  rwa [leD_leB, leD_leB, Nat.mod_eq_of_lt ha, Nat.mod_eq_of_lt hb] at this
/-- A word of a set, as text. -/
def wdT (f : Nat → Bool) (i : Nat) : List UInt8 := if wordOf f i = 0 then [] else leB i 4 ++ leB (wordOf f i) 8
/-- The words of a set ahead of the i-th, as text. -/
def encW (f : Nat → Bool) : Nat → List UInt8
  | 0 => []
  | i + 1 => encW f i ++ wdT f i
theorem wdT_len (f : Nat → Bool) (i : Nat) : (wdT f i).length ≤ 12 := by
  unfold wdT
  split
  · simp
  · rw [List.length_append, leB_len, leB_len]; omega
theorem encW_len (f : Nat → Bool) : ∀ i, (encW f i).length ≤ 12 * i
  | 0 => by simp [encW]
  | i + 1 => by rw [encW, List.length_append]; have := encW_len f i; have := wdT_len f i; omega
theorem encW_same {f g : Nat → Bool} : ∀ n, (∀ q, q < 64 * n → f q = g q) → encW f n = encW g n
  | 0, _ => rfl
  | n + 1, h => by
    have hw : wordOf f n = wordOf g n := by
      apply Nat.eq_of_testBit_eq
      intro k
      rw [wordOf_bit, wordOf_bit]
      by_cases hk : k < 64
      · rw [h (64 * n + k) (by omega)]
      · simp [hk]
    rw [encW, encW, encW_same n (fun q hq => h q (by omega))]
    unfold wdT
    rw [hw]
/-- The words of a set that hold anything, in their order. -/
def wl (f : Nat → Bool) : Nat → List Nat
  | 0 => []
  | i + 1 => if wordOf f i = 0 then wl f i else wl f i ++ [i]
def wlT (f : Nat → Bool) (l : List Nat) : List UInt8 := l.flatMap fun i => leB i 4 ++ leB (wordOf f i) 8
theorem encW_wl (f : Nat → Bool) : ∀ n, encW f n = wlT f (wl f n)
  | 0 => rfl
  | n + 1 => by
    rw [encW, wl, encW_wl f n]
    unfold wdT wlT
    by_cases h : wordOf f n = 0
    · rw [if_pos h, if_pos h, List.append_nil]
    · rw [if_neg h, if_neg h, List.flatMap_append]; simp
theorem wl_lt (f : Nat → Bool) : ∀ n, ∀ i ∈ wl f n, i < n ∧ wordOf f i ≠ 0
  | 0, i, h => by cases h
  | n + 1, i, h => by
    rw [wl] at h
    by_cases h0 : wordOf f n = 0
    · rw [if_pos h0] at h; have := wl_lt f n i h; exact ⟨by omega, this.2⟩
    · rw [if_neg h0, List.mem_append, List.mem_singleton] at h
      rcases h with h | rfl
      · have := wl_lt f n i h; exact ⟨by omega, this.2⟩
      · exact ⟨by omega, h0⟩
theorem wl_len (f : Nat → Bool) : ∀ n, (wl f n).length ≤ n
  | 0 => by simp [wl]
  | n + 1 => by
    rw [wl]
    have := wl_len f n
    split
    · omega
    · rw [List.length_append, List.length_singleton]; omega
theorem wlT_len (f : Nat → Bool) (l : List Nat) : (wlT f l).length = 12 * l.length := by
  unfold wlT
  induction l with
  | nil => rfl
  | cons i l ih => rw [List.flatMap_cons, List.length_append, ih, List.length_append, leB_len, leB_len, List.length_cons]; omega
/-- Texts tell sets apart. -/
theorem encW_inj {f g : Nat → Bool} {n : Nat} (hn : n ≤ 4294967296) (h : encW f n = encW g n) : ∀ q, q < 64 * n → f q = g q := by
  have key : ∀ (l m : List Nat), (∀ i ∈ l, i < n ∧ wordOf f i ≠ 0) → (∀ i ∈ m, i < n ∧ wordOf g i ≠ 0) → wlT f l = wlT g m → l = m ∧ ∀ i ∈ l, wordOf f i = wordOf g i := by
    intro l
    induction l with
    | nil =>
      intro m _ _ he
      cases m with
      | nil => exact ⟨rfl, fun i hi => by cases hi⟩
      | cons j m =>
        have := congrArg List.length he
        rw [wlT_len, wlT_len] at this
        simp at this
    | cons i l ih =>
      intro m hl hm he
      cases m with
      | nil =>
        have := congrArg List.length he
        rw [wlT_len, wlT_len] at this
        simp at this
      | cons j m =>
        unfold wlT at he
        rw [List.flatMap_cons, List.flatMap_cons, List.append_assoc, List.append_assoc] at he
        obtain ⟨e1, e2⟩ := List.append_inj he (by rw [leB_len, leB_len])
        obtain ⟨e3, e4⟩ := List.append_inj e2 (by rw [leB_len, leB_len])
        have hi := hl i (.head _)
        have hj := hm j (.head _)
        obtain rfl : i = j := leB_inj (k := 4) (by omega) (by omega) e1
        have hw : wordOf f i = wordOf g i := leB_inj (k := 8) (by have := wordOf_lt f i; omega) (by have := wordOf_lt g i; omega) e3
        obtain ⟨r1, r2⟩ := ih m (fun k hk => hl k (.tail _ hk)) (fun k hk => hm k (.tail _ hk)) e4
        refine ⟨by rw [r1], fun k hk => ?_⟩
        rcases List.mem_cons.1 hk with rfl | hk
        · exact hw
        · exact r2 k hk
  rw [encW_wl, encW_wl] at h
  obtain ⟨e, hw⟩ := key _ _ (wl_lt f n) (wl_lt g n) h
  have mem : ∀ (f : Nat → Bool) (n i : Nat), i < n → wordOf f i ≠ 0 → i ∈ wl f n := by
    intro f n
    induction n with
    | zero => intro i hi; omega
    | succ n ih =>
      intro i hi h0
      rw [wl]
      by_cases hin : i = n
      · subst hin; rw [if_neg h0]; simp
      · split
        · exact ih i (by omega) h0
        · exact List.mem_append_left _ (ih i (by omega) h0)
  intro q hq
  have hqn : q / 64 < n := by omega
  have hww : wordOf f (q / 64) = wordOf g (q / 64) := by
    by_cases h0 : wordOf f (q / 64) = 0
    · by_cases h1 : wordOf g (q / 64) = 0
      · rw [h0, h1]
      · exact hw _ (by rw [e]; exact mem g n _ hqn h1)
    · exact hw _ (mem f n _ hqn h0)
  have h1 := wordOf_bit f (q / 64) (q % 64)
  have h2 := wordOf_bit g (q / 64) (q % 64)
  rw [hww, h2, show 64 * (q / 64) + q % 64 = q by omega] at h1
  have : q % 64 < 64 := Nat.mod_lt _ (by omega)
  simpa [this] using h1.symm
/-- Two rising lists as one. -/
def mrgA (x : Nat) (f : List Nat → List Nat) : List Nat → List Nat
  | [] => x :: f []
  | y :: b => if x < y then x :: f (y :: b) else if y < x then y :: mrgA x f b else x :: f b
def mrg : List Nat → List Nat → List Nat
  | [] => fun b => b
  | x :: a => mrgA x (mrg a)
theorem mrg_nl (b : List Nat) : mrg [] b = b := rfl
theorem mrg_nil : ∀ (a : List Nat), mrg a [] = a
  | [] => rfl
  | x :: a => by
    show x :: mrg a [] = x :: a
    rw [mrg_nil a]
theorem mrg_cons (x : Nat) (a : List Nat) (y : Nat) (b : List Nat) : mrg (x :: a) (y :: b) = if x < y then x :: mrg a (y :: b) else if y < x then y :: mrg (x :: a) b else x :: mrg a b := rfl
theorem mrg_mem : ∀ (a b : List Nat) (z : Nat), z ∈ mrg a b ↔ z ∈ a ∨ z ∈ b
  | [], b, z => by simp [mrg_nl]
  | x :: a, [], z => by simp [mrg_nil]
  | x :: a, y :: b, z => by
    rw [mrg_cons]
    split
    · rw [List.mem_cons, mrg_mem a (y :: b), List.mem_cons (a := z) (b := x), or_assoc]
    · split
      · rw [List.mem_cons, mrg_mem (x :: a) b, List.mem_cons, List.mem_cons]
        constructor
        · rintro (h | (h | h) | h)
          · exact .inr (.inl h)
          · exact .inl (.inl h)
          · exact .inl (.inr h)
          · exact .inr (.inr h)
        · rintro ((h | h) | (h | h))
          · exact .inr (.inl (.inl h))
          · exact .inr (.inl (.inr h))
          · exact .inl h
          · exact .inr (.inr h)
      · have e : x = y := by omega
        subst e
        rw [List.mem_cons, mrg_mem a b, List.mem_cons, List.mem_cons]
        constructor
        · rintro (h | h | h)
          · exact .inl (.inl h)
          · exact .inl (.inr h)
          · exact .inr (.inr h)
        · rintro ((h | h) | (h | h))
          · exact .inl h
          · exact .inr (.inl h)
          · exact .inl h
          · exact .inr (.inr h)
termination_by a b => a.length + b.length
theorem mrg_len : ∀ (a b : List Nat), (mrg a b).length ≤ a.length + b.length
  | [], b => by simp [mrg_nl]
  | x :: a, [] => by simp [mrg_nil]
  | x :: a, y :: b => by
    rw [mrg_cons]
    split
    · have := mrg_len a (y :: b); simp only [List.length_cons] at *; omega
    · split
      · have := mrg_len (x :: a) b; simp only [List.length_cons] at *; omega
      · have := mrg_len a b; simp only [List.length_cons] at *; omega
termination_by a b => a.length + b.length
theorem mrg_rise : ∀ (a b : List Nat), a.Pairwise (· < ·) → b.Pairwise (· < ·) → (mrg a b).Pairwise (· < ·)
  | [], b, _, hb => by rw [mrg_nl]; exact hb
  | x :: a, [], ha, _ => by rw [mrg_nil]; exact ha
  | x :: a, y :: b, ha, hb => by
    obtain ⟨ha1, ha2⟩ := List.pairwise_cons.1 ha
    obtain ⟨hb1, hb2⟩ := List.pairwise_cons.1 hb
    rw [mrg_cons]
    split
    · refine List.pairwise_cons.2 ⟨fun z hz => ?_, mrg_rise a (y :: b) ha2 hb⟩
      rcases (mrg_mem _ _ _).1 hz with h | h
      · exact ha1 z h
      · rcases List.mem_cons.1 h with rfl | h
        · assumption
        · have := hb1 z h; omega
    · split
      · refine List.pairwise_cons.2 ⟨fun z hz => ?_, mrg_rise (x :: a) b ha hb2⟩
        rcases (mrg_mem _ _ _).1 hz with h | h
        · rcases List.mem_cons.1 h with rfl | h
          · assumption
          · have := ha1 z h; omega
        · exact hb1 z h
      · refine List.pairwise_cons.2 ⟨fun z hz => ?_, mrg_rise a b ha2 hb2⟩
        rcases (mrg_mem _ _ _).1 hz with h | h
        · exact ha1 z h
        · have := hb1 z h; omega
termination_by a b => a.length + b.length
/-- Each once, of what stands side by side. -/
def onceC : List Nat → List Nat → List Nat
  | acc, [] => acc
  | acc, x :: l => onceC (if acc.getLast? = some x then acc else acc ++ [x]) l
theorem onceC_snoc : ∀ (l acc : List Nat) (x : Nat), onceC acc (l ++ [x]) = if (onceC acc l).getLast? = some x then onceC acc l else onceC acc l ++ [x]
  | [], acc, x => rfl
  | y :: l, acc, x => by rw [List.cons_append, onceC, onceC, onceC_snoc l]
end Go.Proofs.YtbbejfkgopcjoaaDoor
namespace Go.Proofs.YtbbejfkgopcjoaaDoor
open Go.RowKit Go.Shelf
theorem BS.put {w : World} {g m : Nat} {f f' : Nat → Bool} (h : BS w g m f) (x : Nat) (he : ∀ i, ¬ i = x → wordOf f' i = wordOf f i) (ho : ∀ q, 512 * m ≤ q → f' q = false) : BS (w.setCell ⟨g, x, none⟩ (.int .u64 (wordOf f' x : Int))) g m f' := by
  obtain ⟨cur, h1, h2⟩ := h.row
  refine ⟨⟨_, heap_setCell_same w g x _ _ _ h1, fun i hi => ?_⟩, ho⟩
  by_cases e : i = x
  · subst e
    have : i < cur.size := (Array.getElem?_eq_some_iff.1 (h2 _ hi)).1
    simp [this]
  · rw [Array.getElem?_setIfInBounds_ne (fun e' => e e'.symm), h2 i hi, he i e]
theorem BS.only {w w' : World} {g m : Nat} {f : Nat → Bool} {S : Nat → Prop} (h : BS w g m f) (ho : Only w w' S) (hs : ¬ S g) : BS w' g m f := h.kept (ho.block g h.lt hs)
end Go.Proofs.YtbbejfkgopcjoaaDoor
namespace Go.Proofs.YtbbejfkgopcjoaaDoor
open Go.RowKit Go.Shelf
/-- A row of places. -/
inductive RowIs (w : World) (m : Nat) (L : List Int) : Option Nat → Value → Prop
  | short (a : Option Addr) (c : Nat) (h : IA w a L) : RowIs w m L (a.map (·.block)) (.agg #[.slice a L.length c, .slice none 0 0])
  | long (g : Nat) (h : BS w g m (addF L (fun _ => false))) : RowIs w m L (some g) (.agg #[.slice none 0 0, .slice (some ⟨g, 0, none⟩) m m])
theorem IA.only {w w' : World} {a : Option Addr} {L : List Int} {S : Nat → Prop} (h : IA w a L) (ho : Only w w' S) (hs : ∀ p, a = some p → ¬ S p.block) : IA w' a L := ⟨fun k hk => by
  obtain ⟨b, off, rfl, h1, h2⟩ := h.at' k hk
  exact ⟨b, off, rfl, Nat.lt_of_lt_of_le h1 ho.size, (ho.cell (p := ⟨b, off + k, none⟩) h1 (hs ⟨b, off, none⟩ rfl)).trans h2⟩⟩
theorem RowIs.only {w w' : World} {m : Nat} {L : List Int} {x : Option Nat} {v : Value} {S : Nat → Prop} (h : RowIs w m L x v) (ho : Only w w' S) (hs : ∀ b, x = some b → ¬ S b) : RowIs w' m L x v := by
  cases h with
  | short a c h => exact .short a c (h.only ho (fun p hp => hs _ (by rw [hp]; rfl)))
  | long g h => exact .long g (h.only ho (hs g rfl))
end Go.Proofs.YtbbejfkgopcjoaaDoor
namespace Go.Proofs.YtbbejfkgopcjoaaDoor
open Go.RowKit Go.Shelf Go.Maps
theorem u8_toN (x : Nat) (h : x < 256) : (UInt8.ofNat x).toNat = x := by rw [UInt8.toNat_ofNat']; omega
def cellsOf (l : List UInt8) : List Value := l.map fun c => .int .u8 (c.toNat : Int)
/-- A slice of bytes of the call's own. -/
def OwnB (w : World) (base : Nat) (v : Value) (l : List UInt8) : Prop := w.ownsRow base 5 1 v l.length (cellsOf l)
theorem infoU8 : (Tryd.prog.info? 5).map (fun i => (i.zero, i.size, i.bytes)) = some (some (.int .u8 0), 1, 1) := by kernel_rfl
theorem toStr {w : World} {base : Nat} {v : Value} {l : List UInt8} (h : OwnB w base v l) : (convert 99 9 v).run Tryd.prog w = .ok (.string ⟨l.toArray⟩) w := by
  have h0 := h
  rcases h.2 with ⟨rfl, hn⟩ | ⟨g, cap, cur, rfl, _⟩
  · have : l = [] := List.length_eq_zero_iff.1 hn
    subst this
    rw [run_convert_bytes_string w 99 9 5 none 0 0 Tryd.underlying99 Tryd.underlying5 Tryd.underlying9]; rfl
  · refine run_convert_bytes_back (P := Tryd.prog) w 99 9 5 ⟨g, 0, none⟩ cap l Tryd.underlying99 Tryd.underlying5 Tryd.underlying9 (fun j hj => ?_)
    rw [Addr.add_lit, Nat.zero_add, World.ownsRow.cellAt h0 j (by omega)]
    simp [cellsOf, hj]
/-- Bytes put behind. -/
structure Apd (w w' : World) (lo : Nat) (v v' : Value) (l : List UInt8) : Prop where
  own : OwnB w' lo v' l
  frm : Only w w' (fun k => v.ownBlock = some k)
  at' : ∀ k, v'.ownBlock = some k → v.ownBlock = some k ∨ w.heap.size ≤ k
theorem apd_more {w wr w2 : World} {lo : Nat} {v u v' : Value} {l : List UInt8} {c : UInt8} {o : Obj} (h : Apd w wr lo v u l) (hown : w2.ownsRow lo 5 1 v' (l.length + 1) (cellsOf l ++ [.int .u8 (c.toNat : Int)])) (hg : (wr.alloc o).grownBy w2 u.ownBlock) (hat : v'.ownBlock = u.ownBlock ∨ v'.ownBlock = some (wr.alloc o).heap.size) : Apd w w2 lo v v' (l ++ [c]) := by
  refine ⟨?_, h.frm.trans ((Only.alloc wr o (fun k => u.ownBlock = some k)).trans (Only.ofGrown hg) (fun _ h => .inl h)) (fun k hk => h.at' k hk), fun k hk => ?_⟩
  · unfold OwnB
    rw [List.length_append, List.length_singleton]
    have e : cellsOf (l ++ [c]) = cellsOf l ++ [.int .u8 (c.toNat : Int)] := by simp [cellsOf]
    rw [e]
    exact hown
  · rcases hat with e | e
    · exact h.at' k (by rw [← e]; exact hk)
    · rw [e] at hk
      cases hk
      right
      have := h.frm.size
      simp
      omega
theorem lawS : Keyed Tryd.prog 9 := string_keyed Tryd.underlying9
def strB (k : List UInt8) : ByteArray := ⟨k.toArray⟩
def keyS (k : List UInt8) : Lit := .string k
theorem keyS_inj {a b : List UInt8} (h : keyS a = keyS b) : a = b := by unfold keyS at h; injection h
theorem keyS_is (k : List UInt8) : WideAt.IsKeyLit (keyS k) := trivial
/-- A map that has the texts ks, each with its number. -/
structure SaysS (D : DataW Unit) (off0 : Nat) (ks : List (List UInt8)) : Prop where
  has : ∀ c, Maps.has D (keyS c) = decide (c ∈ ks)
  at' : ∀ i (h : i < ks.length), D.atKey (keyS ks[i]) (.lit (.int .i64 0)) = .lit (.int .i64 ((i + off0 : Nat) : Int))
  off : ∀ c, c ∉ ks → D.atKey (keyS c) (.lit (.int .i64 0)) = .lit (.int .i64 0)
theorem saysS_nil (o : Nat) : SaysS (.map []) o [] := ⟨fun c => by rfl, fun i h => absurd h (Nat.not_lt_zero _), fun c _ => rfl⟩
theorem saysS_put {D : DataW Unit} {o : Nat} {ks : List (List UInt8)} (h : SaysS D o ks) (hT : Tidy D) {c : List UInt8} (hc : c ∉ ks) : SaysS (D.put (keyS c) (.lit (.int .i64 ((ks.length + o : Nat) : Int)))) o (ks ++ [c]) where
  has := fun d => by
    by_cases e : d = c
    · subst e
      rw [has_put_same hT.isMap (keyS_is _)]
      simp
    · rw [has_put_other (fun he => e (keyS_inj he)), h.has]
      simp [e]
  at' := fun i hi => by
    by_cases e : i < ks.length
    · rw [List.getElem_append_left e, atKey_put_other (fun he => hc (by rw [← keyS_inj he]; exact List.getElem_mem e)), h.at' i e]
    · have e2 : i = ks.length := by simp at hi; omega
      subst e2
      rw [List.getElem_append_right (Nat.le_refl _)]
      simp only [Nat.sub_self, List.getElem_cons_zero]
      exact atKey_put_same hT.isMap (keyS_is _) _ _
  off := fun d hd => by
    rw [List.mem_append, not_or] at hd
    rw [atKey_put_other (fun he => hd.2 (by rw [keyS_inj he]; simp))]
    exact h.off d hd.1
/-- The block B is the map of the texts ks. -/
def MapS (w : World) (B o : Nat) (ks : List (List UInt8)) : Prop := ∃ D, w.ownsMap Tryd.prog 9 (plainElem Tryd.prog 3) B ks.length D ∧ SaysS D o ks
theorem MapS.lt {w : World} {B o : Nat} {ks : List (List UInt8)} (h : MapS w B o ks) : B < w.heap.size := by
  obtain ⟨D, h1, _⟩ := h
  exact h1.lt
theorem MapS.keep {w w' : World} {B o : Nat} {ks : List (List UInt8)} (h : MapS w B o ks) (hb : w'.heap[B]? = w.heap[B]?) : MapS w' B o ks := by
  obtain ⟨D, ⟨es, clock, h1, h2⟩, hs⟩ := h
  exact ⟨D, ⟨es, clock, hb.trans h1, h2⟩, hs⟩
theorem MapS.isMap {w : World} {B o : Nat} {ks : List (List UInt8)} (h : MapS w B o ks) : ∃ es clock, w.heap[B]? = some (.map es clock) := by
  obtain ⟨D, ⟨es, clock, h1, h2⟩, hs⟩ := h
  exact ⟨es, clock, h1⟩
theorem MapS.made (w : World) (o : Nat) : MapS (w.alloc (.map #[] 0)) w.heap.size o [] := ⟨_, World.ownsMap_made w _ _ _, saysS_nil o⟩
set_option maxRecDepth 100000 in
theorem keyOf_strB (k : List UInt8) (hk : k.length ≤ 1000000000000) : keyOf Tryd.prog 9 (.string (strB k)) = some (keyS k) := by
  have := Go.WideMaps.keyOf_string_mk (P := Tryd.prog) Tryd.underlying9 (s := strB k) (by unfold maxLen; simp [strB, ByteArray.size]; omega)
  simpa [strB, keyS] using this
set_option maxRecDepth 100000 in
theorem MapS.look {w : World} {B o : Nat} {ks : List (List UInt8)} (h : MapS w B o ks) {i : Nat} (hi : i < ks.length) (hk : ks[i].length ≤ 1000000000000) :
    (Instr.lookup 93 (.map (some B)) (.string (strB ks[i])) true).run Tryd.prog w = .ok (.tuple #[.int .i64 ((i + o : Nat) : Int), .bool true]) w := by
  obtain ⟨D, h1, hs⟩ := h
  obtain ⟨v, ps, hrun, hv⟩ := h1.look_ok (t := 93) lawS Tryd.underlying93 (Tryd.zeroValue3 w) (plainElem_int Tryd.underlying3 (by decide)) (keyOf_strB ks[i] hk)
  obtain ⟨c, rfl, hcc, _⟩ := plainElem_int_inv Tryd.underlying3 hv
  have e := congrArg Prod.fst hcc
  have e2 := hs.at' i hi
  simp only [e2] at e
  injection e with e
  injection e with _ e
  have h3 := hs.has ks[i]
  rw [hrun, ← e, h3, decide_eq_true (List.getElem_mem hi)]
set_option maxRecDepth 100000 in
theorem MapS.lookNot {w : World} {B o : Nat} {ks : List (List UInt8)} (h : MapS w B o ks) {d : List UInt8} (hd : d ∉ ks) (hk : d.length ≤ 1000000000000) :
    (Instr.lookup 93 (.map (some B)) (.string (strB d)) true).run Tryd.prog w = .ok (.tuple #[.int .i64 0, .bool false]) w := by
  obtain ⟨D, h1, hs⟩ := h
  obtain ⟨v, ps, hrun, hv⟩ := h1.look_ok (t := 93) lawS Tryd.underlying93 (Tryd.zeroValue3 w) (plainElem_int Tryd.underlying3 (by decide)) (keyOf_strB d hk)
  obtain ⟨c, rfl, hcc, _⟩ := plainElem_int_inv Tryd.underlying3 hv
  have e := congrArg Prod.fst hcc
  have e2 := hs.off d hd
  simp only [e2] at e
  injection e with e
  injection e with _ e
  have h3 := hs.has d
  rw [hrun, ← e, h3, decide_eq_false hd]
set_option maxRecDepth 100000 in
theorem MapS.put {w : World} {B o : Nat} {ks : List (List UInt8)} (h : MapS w B o ks) {d : List UInt8} (hd : d ∉ ks) (hk : d.length ≤ 1000000000000) (hn : ks.length + o ≤ 1000000000000) :
    ∃ w', (Instr.mapUpdate 93 (.map (some B)) (.string (strB d)) (.int .i64 ((ks.length + o : Nat) : Int))).run Tryd.prog w = .ok () w' ∧ MapS w' B o (ks ++ [d]) ∧ w.grownBy w' (some B) := by
  obtain ⟨D, h1, hs⟩ := h
  have hw : (Lit.int .i64 ((ks.length + o : Nat) : Int)).wf = true := by simp [Lit.wf, IntKind.min, IntKind.max, IntKind.signed, IntKind.bits]; omega
  obtain ⟨w', hrun, h2, h3⟩ := h1.update (t := 93) lawS Tryd.underlying93 (by unfold maxLen; omega) (keyOf_strB d hk) (plainElem_int Tryd.underlying3 hw)
  refine ⟨w', hrun, ⟨_, ?_, saysS_put hs (h1.tidy lawS) hd⟩, h3⟩
  rw [List.length_append]
  exact h2
end Go.Proofs.YtbbejfkgopcjoaaDoor
namespace Go.Proofs.YtbbejfkgopcjoaaDoor
open Go.RowKit Go.Shelf
set_option maxRecDepth 10000 in
set_option maxHeartbeats 1600000 in
theorem addBytes_any (lo n cnt : Nat) (v : Value) (l : List UInt8) (w : World) (ho : OwnB w lo v l) (hl : l.length ≤ 100000000000) (hn : n < 18446744073709551616) (hc : cnt ≤ 8) (hlo : lo ≤ w.heap.size) :
    Calls Tryd.prog 50 #[v, .int .u64 (n : Int), .int .i64 (cnt : Int)] w fun e w' => ∃ v', e = .returned v' ∧ Apd w w' lo v v' (l ++ leB n cnt) := by
  obtain ⟨i0, hi, hz0, hz1, hz2⟩ := info_parts infoU8
  have HA : Hid (Apd w w lo v v l) := hid0 ⟨ho, Only.refl _ _, fun k hk => .inl hk⟩
  have hcI : (cnt : Int) ≤ 8 := by omega
  clear ho
  go_enter Tryd.func50, Tryd.ntmps50
  go_wp2
  go_loopw [0, 1, 8] (fun u x i wr => ∃ (k m : Nat) (p : List UInt8), k ≤ cnt ∧ i = .int .i64 (k : Int) ∧ x = .int .u64 (m : Int) ∧ m < 18446744073709551616 ∧ p.length ≤ 100000000008 ∧ Hid (p ++ leB m (cnt - k) = l ++ leB n cnt) ∧ Hid (Apd w wr lo v u p)) (fun _ _ i _ => cnt - (intOf i).toNat)
  case atStart => exact ⟨0, n, l, by omega, rfl, rfl, hn, by omega, hid0 rfl, HA⟩
  case round =>
    obtain ⟨k, m, p, hk, rfl, rfl, hm, hp, HE, HP⟩ := hrel
    have hmI : (m : Int) < 18446744073709551616 := by omega
    have HO : Hid (∀ o : Obj, (wr.alloc o).ownsRow lo 5 1 u0 p.length (cellsOf p)) := hid0 (fun o => World.ownsRow.alloc HP.out.own o)
    have hlo2 : lo ≤ wr.heap.size := Nat.le_trans hlo HP.out.frm.size
    obtain ⟨au, cu, hu0⟩ : ∃ au cu, u0 = .slice au p.length cu := by
      rcases HP.out.own.2 with ⟨e, hn⟩ | ⟨g, cap, cur, e, _⟩
      · exact ⟨none, 0, by rw [e, hn]⟩
      · exact ⟨_, _, e⟩
    subst hu0
    by_cases hb : k < cnt
    · have hbI : (k : Int) < (cnt : Int) := by omega
      obtain ⟨y, hy⟩ : ∃ y, y = m % 256 := ⟨_, rfl⟩
      have hw8 : IntKind.u8.wrap (m : Int) = (y : Int) := by rw [IntKind.wrap_u8']; omega
      have hcc : ((UInt8.ofNat (m % 256)).toNat : Int) = (y : Int) := by rw [u8_toN _ (by omega), hy]
      have HNx : Hid (∀ (v' : Value) (w2 : World), w2.ownsRow lo 5 1 v' (p.length + 1) (cellsOf p ++ [.int .u8 (y : Int)]) → (wr.alloc (.cells #[.int .u8 (y : Int)] 5)).grownBy w2 (Value.slice au p.length cu).ownBlock → (v'.ownBlock = (Value.slice au p.length cu).ownBlock ∨ v'.ownBlock = some (wr.alloc (.cells #[.int .u8 (y : Int)] 5)).heap.size) → Apd w w2 lo v v' (p ++ [UInt8.ofNat (m % 256)])) := hid0 (fun v' w2 h1 h2 h3 => apd_more (c := UInt8.ofNat (m % 256)) HP.out (by rw [hcc]; exact h1) h2 h3)
      have HE2 : Hid (p ++ [UInt8.ofNat (m % 256)] ++ leB (m / 256) (cnt - (k + 1)) = l ++ leB n cnt) := hid0 (by
        rw [← HE.out, show cnt - k = (cnt - (k + 1)) + 1 by omega, leB]; simp)
      have HL2 : Hid ((p ++ [UInt8.ofNat (m % 256)]).length ≤ 100000000008) := hid0 (by
        have h1 := congrArg List.length HE2.out
        simp only [List.length_append, leB_len] at h1 ⊢
        omega)
      clear hcc HE HP hy
      go_wp2_with (at_builtin; go_loud ((refine wpList_append_own_at _ rfl _ _ 99 rfl lo 5 i0 (.int .u8 0) 1 1 Tryd.underlying99 hi hz0 hz1 hz2 rfl (by decide) (.slice au p.length cu) p.length (cellsOf p) rfl (HO.out _) ⟨wr.heap.size, 0, none⟩ 1 1 [.int .u8 (y : Int)] rfl rfl (cell_one_new _ _ _) (by simp [Value.oneCell']) (by unfold maxLen; omega) (by omega) (by simp; omega) ?_; intro v' w2 h1 h2 _ h3; have HN := hid0 (HNx.out v' w2 h1 h2 h3); clear h1 h2 h3)))
      go_roundw
      case rel => exact ⟨k + 1, m / 256, _, by omega, by go_num, by go_num, by omega, HL2.out, HE2, HN⟩
      case measure => simp [intOf]; omega
    · obtain rfl : k = cnt := by omega
      have HF : Hid (Apd w wr lo v (.slice au p.length cu) (l ++ leB n k)) := hid0 (by
        have := HE.out
        rw [Nat.sub_self, leB, List.append_nil] at this
        rw [← this]; exact HP.out)
      go_wp2
      go_ret
      exact ⟨_, rfl, HF.out⟩
theorem Apd.trans {a b c : World} {lo : Nat} {u v z : Value} {l m : List UInt8} (h : Apd a b lo u v l) (k : Apd b c lo v z m) : Apd a c lo u z m :=
  ⟨k.own, h.frm.trans k.frm (fun i hi => h.at' i hi), fun i hi => by
    rcases k.at' i hi with q | q
    · exact h.at' i q
    · right; have := h.frm.size; omega⟩
theorem Apd.since {a b c : World} {lo : Nat} {u v : Value} {l : List UInt8} (h : Below a.heap.size a b) (k : Apd b c lo u v l) : Apd a c lo u v l :=
  ⟨k.own, (Only.ofBelow h _ (fun i h1 h2 => by omega)).trans k.frm (fun i hi => .inl hi), fun i hi => by
    rcases k.at' i hi with q | q
    · exact .inl q
    · right; have := h.size; omega⟩
set_option maxRecDepth 10000 in
set_option maxHeartbeats 1600000 in
theorem addWord_any (lo i x : Nat) (v : Value) (l : List UInt8) (w : World) (ho : OwnB w lo v l) (hl : l.length ≤ 99999999000) (hi : i < 4294967296) (hx : x < 18446744073709551616) (hlo : lo ≤ w.heap.size) :
    Calls Tryd.prog 66 #[v, .agg #[.int .i64 (i : Int), .int .u64 (x : Int)]] w fun e w' => ∃ v', e = .returned v' ∧ Apd w w' lo v v' (l ++ leB i 4 ++ leB x 8) := by
  obtain ⟨w0, hw0⟩ : ∃ w0, w0 = w.alloc (.cells #[.int .i64 (i : Int), .int .u64 (x : Int)] 130) := ⟨_, rfl⟩
  have hb0 : Below w.heap.size w w0 := by rw [hw0]; exact (Below.refl _ _).alloc (Nat.le_refl _) _
  have hs0 : w0.heap.size = w.heap.size + 1 := by rw [hw0]; simp
  have hr0 : w0.heap[w.heap.size]? = some (.cells #[.int .i64 (i : Int), .int .u64 (x : Int)] 130 (0, 0)) := by rw [hw0]; exact heap_alloc_new w _
  have HVl : Hid (∀ k, v.ownBlock = some k → k < w.heap.size) := hid0 (fun k hk => (World.ownsRow.lt ho k hk).2)
  have HRd : Hid (∀ V : World, Only w0 V (fun k => v.ownBlock = some k) → V.cell? ⟨w.heap.size, 0, none⟩ = some (.int .i64 (i : Int)) ∧ V.cell? ⟨w.heap.size, 1, none⟩ = some (.int .u64 (x : Int))) := hid0 (fun V ho => by
    have hq : V.heap[w.heap.size]? = _ := (ho.block w.heap.size (by omega) (fun s => by have := HVl.out _ s; omega)).trans hr0
    exact ⟨by rw [cell_of_row _ _ _ _ _ _ hq]; rfl, by rw [cell_of_row _ _ _ _ _ _ hq]; rfl⟩)
  have HS0 := hid0 (HRd.out w0 (Only.refl _ _))
  have HC1 : Hid (Calls Tryd.prog 50 #[v, .int .u64 (i : Int), .int .i64 4] w0.drew fun e w' => ∃ v', e = .returned v' ∧ Apd w0 w' lo v v' (l ++ leB i 4)) := hid0 (by
    have hd : Below w0.heap.size w0 w0.drew := (Below.refl _ _).drew
    have h := addBytes_any lo i 4 v l w0.drew (own_blk ho (fun k hk => (hb0.block k (World.ownsRow.lt ho k hk).2))) (by omega) (by omega) (by omega) (by have := hb0.size; have := hd.size; omega)
    exact h.mono (fun e w' ⟨v', h1, h2⟩ => ⟨v', h1, h2.since hd⟩))
  have HC2 : Hid (∀ (V : World) (v1 : Value), Apd w0 V lo v v1 (l ++ leB i 4) → Calls Tryd.prog 50 #[v1, .int .u64 (x : Int), .int .i64 8] V fun e w' => ∃ v', e = .returned v' ∧ Apd w w' lo v v' (l ++ leB i 4 ++ leB x 8) ∧ Only w0 w' (fun k => v.ownBlock = some k)) := hid0 (fun V v1 h1 => by
    have h := addBytes_any lo x 8 v1 (l ++ leB i 4) V h1.own (by rw [List.length_append, leB_len]; omega) hx (by omega) (by have := hb0.size; have := h1.frm.size; omega)
    exact h.mono (fun e w' ⟨v', q1, q2⟩ => ⟨v', q1, (h1.trans q2).since hb0, (h1.trans q2).frm⟩))
  have hiI : (i : Int) < 4294967296 := by omega
  have hwi : IntKind.u64.wrap (i : Int) = (i : Int) := by rw [IntKind.wrap_u64]; omega
  have hfold := hw0.symm
  clear hw0 hb0 hr0 ho hlo hs0
  go_enter Tryd.func66, Tryd.ntmps66
  go_wp2
  go_region_held3 (fun V => V.cell? ⟨w.heap.size, 0, none⟩ = some (.int .i64 (i : Int)) ∧ V.cell? ⟨w.heap.size, 1, none⟩ = some (.int .u64 (x : Int)))
    (first | assumption | exact HS0.out)
    (first
      | (go_at_call 50; have hq := HA1.out; refine (HC2.out _ _ hq).mono ?_; rintro e w2 ⟨v2, rfl, h2, h3⟩; have HF := hid0 h2; have hs2 := HRd.out w2 h3; clear h2 h3)
      | (go_at_call 50; refine HC1.out.mono ?_; rintro e w1 ⟨v1, rfl, h1⟩; have HA1 := hid0 h1; have hs1 := HRd.out w1 h1.frm; clear h1))
  go_wp2
  go_ret
  exact ⟨_, rfl, HF.out⟩
end Go.Proofs.YtbbejfkgopcjoaaDoor
namespace Go.Proofs.YtbbejfkgopcjoaaDoor
open Go.RowKit Go.Shelf
theorem leD_lt : ∀ (l : List UInt8), leD l < 256 ^ l.length
  | [] => by simp [leD]
  | b :: l => by
    have h1 := leD_lt l
    have h2 := b.toNat_lt
    rw [leD, List.length_cons, Nat.pow_succ]
    omega
theorem leD_drop {l : List UInt8} {k : Nat} (hk : k < l.length) : leD (l.drop k) = (l[k]).toNat + 256 * leD (l.drop (k + 1)) := by
  rw [List.drop_eq_getElem_cons hk, leD]
theorem or_low (n b : Nat) (h : b < 256) : n * 256 ||| b = n * 256 + b := by
  have := Nat.shiftLeft_add_eq_or_of_lt (b := b) (i := 8) h n
  rw [Nat.shiftLeft_eq] at this
  exact this.symm
set_option maxRecDepth 10000 in
set_option maxHeartbeats 800000 in
theorem numberIn_any (cnt : Nat) (l : List UInt8) (w : World) (hc : cnt ≤ 8) (hl : cnt ≤ l.length) (hb : l.length ≤ 100000000000) :
    Calls Tryd.prog 89 #[.string ⟨l.toArray⟩, .int .i64 (cnt : Int)] w fun e w' => e = .returned (.int .u64 (leD (l.take cnt) : Int)) ∧ w' = w := by
  have hcI : (cnt : Int) ≤ 8 := by omega
  have HT : Hid ((l.take cnt).length = cnt) := hid0 (by rw [List.length_take]; omega)
  go_enter Tryd.func89, Tryd.ntmps89
  go_wp2
  go_loopw [5, 6] (fun x i wr => ∃ k : Nat, k ≤ cnt ∧ i = .int .i64 ((k : Int) - 1) ∧ x = .int .u64 (leD ((l.take cnt).drop k) : Int) ∧ wr = w) (fun _ i _ => (intOf i + 1).toNat)
  case atStart => exact ⟨cnt, Nat.le_refl _, rfl, by rw [List.drop_of_length_le (by rw [HT.out]; exact Nat.le_refl _)]; rfl, rfl⟩
  case round =>
    obtain ⟨k, hk, rfl, rfl, rfl⟩ := hrel
    by_cases h0 : k = 0
    · subst h0
      rw [show (((0 : Nat) : Int) - 1) = (-1 : Int) from rfl]
      go_wp2
      go_ret
      exact ⟨rfl, rfl⟩
    · obtain ⟨j, rfl⟩ : ∃ j, k = j + 1 := ⟨k - 1, by omega⟩
      have hj : j < (l.take cnt).length := by rw [HT.out]; omega
      have hjl : j < l.length := by omega
      have hd := leD_drop hj
      have hlt := leD_lt ((l.take cnt).drop (j + 1))
      rw [List.length_drop, HT.out] at hlt
      have hlt2 : leD ((l.take cnt).drop (j + 1)) < 72057594037927936 := by
        refine Nat.lt_of_lt_of_le hlt ?_
        exact Nat.le_trans (Nat.pow_le_pow_right (by omega) (show cnt - (j + 1) ≤ 7 by omega)) (by decide)
      rw [List.getElem_take] at hd
      have hv := (l[j]).toNat_lt
      generalize hb2 : (l[j]).toNat = b at *
      have HD := hid0 hd
      clear hd hlt
      generalize leD ((l.take cnt).drop (j + 1)) = n at *
      have ej : ((j + 1 : Nat) : Int) - 1 = (j : Int) := by omega
      rw [ej]
      have HB2 : Hid (∀ h, ((⟨l.toArray⟩ : ByteArray)[j]'h).toNat = b) := hid0 (fun h => by rw [← hb2]; rfl)
      have HW : Hid (IntKind.u64.wrap (b : Int) = (b : Int)) := hid0 (by rw [IntKind.wrap_u64]; omega)
      have HO : Hid (bits .or .u64 ((n : Int) * 256) (b : Int) = ((b + 256 * n : Nat) : Int)) := hid0 (by
        rw [show (n : Int) * 256 = ((n * 256 : Nat) : Int) by omega, bits_or_u64_nat _ _ (by omega) (by omega), or_low n b (by omega)]
        omega)
      clear hb2 hv
      go_wp2
      go_roundw
      case rel => exact ⟨j, by omega, rfl, by rw [HB2.out, HW.out, HO.out, HD.out], trivial⟩
      case measure => simp [intOf]
end Go.Proofs.YtbbejfkgopcjoaaDoor
