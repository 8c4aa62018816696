/-
  Two texts of good units, one behind the other: mathematics.
-/
import Derived.Test.YtlmbbohhdgeedaaDoorBackM
import Derived.Test.YtlmbbohhdgeedaaDoorOzM
namespace Go.Proofs.YtlmbbohhdgeedaaDoor
open Go.RowKit
/-- The units of what is encoded, from a place on. -/
def uL : Nat → List Int → List (Int × Nat × Nat)
  | _, [] => []
  | k, p :: ps => (p, k, k + (encL p.toNat).length) :: uL (k + (encL p.toNat).length) ps
theorem uL_len : ∀ (ps : List Int) (k : Nat), (uL k ps).length = ps.length := by
  intro ps
  induction ps with
  | nil => intro k; rfl
  | cons p ps ih => intro k; rw [uL, List.length_cons, List.length_cons, ih]
theorem unitsF_uL (ps : List Int) : ∀ (f k : Nat), (encAll ps).length ≤ f → ps.all scalarP = true → unitsF f k (encAll ps) = uL k ps := by
  induction ps with
  | nil => intro f k _ _; cases f <;> rfl
  | cons p ps ih =>
    intro f k hf ha
    rw [List.all_cons, Bool.and_eq_true] at ha
    have hp := (scalar_iff _).1 ha.1
    obtain ⟨n, rfl⟩ : ∃ n : Nat, p = (n : Int) := ⟨p.toNat, by omega⟩
    have e : encAll ((n : Int) :: ps) = encL n ++ encAll ps := by rw [encAll, List.flatMap_cons]; rfl
    rw [e] at hf ⊢
    rw [List.length_append] at hf
    have hpos := encL_pos n
    have hu : uniOf (encL n ++ encAll ps) = ((n : Int), (encL n).length) := by rw [uniOf, good_enc n ha.1]
    obtain ⟨a, t, he⟩ : ∃ a t, encL n ++ encAll ps = a :: t := by
      cases h : encL n ++ encAll ps with
      | nil => have := congrArg List.length h; rw [List.length_append, List.length_nil] at this; omega
      | cons a t => exact ⟨a, t, rfl⟩
    obtain ⟨f', rfl⟩ : ∃ f', f = f' + 1 := ⟨f - 1, by omega⟩
    rw [he, unitsF, ← he, hu]
    simp only
    rw [List.drop_left, ih f' _ (by omega) ha.2]
    rfl
theorem units_uL (ps : List Int) (ha : ps.all scalarP = true) : unitsOf (encAll ps) = uL 0 ps := by
  rw [unitsOf, unitsAt, List.drop_zero, Nat.sub_zero]
  exact unitsF_uL ps _ 0 (Nat.le_refl _) ha
theorem uL_take : ∀ (ps : List Int) (k j : Nat), (uL k ps).take j = uL k (ps.take j) := by
  intro ps
  induction ps with
  | nil => intro k j; simp [uL]
  | cons p ps ih =>
    intro k j
    cases j with
    | zero => simp [uL]
    | succ j => rw [uL, List.take_succ_cons, List.take_succ_cons, uL, ih]
/-- The place behind a point. -/
def stF (p : Pl) (x : Int) : Pl := ⟨p.b + (encL x.toNat).length, p.u + 1, p.w + widP x, if x = 10 then p.l + 1 else p.l, if x = 10 then 1 else p.c + 1⟩
theorem fold_uL : ∀ (ps : List Int) (q : Pl), (uL q.b ps).foldl stP q = ps.foldl stF q := by
  intro ps
  induction ps with
  | nil => intro q; rfl
  | cons p ps ih =>
    intro q
    rw [uL, List.foldl_cons, List.foldl_cons]
    have e : stP q (p, q.b, q.b + (encL p.toNat).length) = stF q p := rfl
    rw [e, ← ih]
    rfl
/-- The place behind all of some points. -/
def endF (ps : List Int) : Pl := ps.foldl stF p0
theorem stK_end (ps : List Int) (ha : ps.all scalarP = true) (j : Nat) : stK (unitsOf (encAll ps)) j = endF (ps.take j) := by
  rw [stK, units_uL ps ha, uL_take, endF]
  exact fold_uL _ p0
theorem units_len (ps : List Int) (ha : ps.all scalarP = true) : (unitsOf (encAll ps)).length = ps.length := by rw [units_uL ps ha, uL_len]
theorem endF_snoc (ps : List Int) (x : Int) : endF (ps ++ [x]) = stF (endF ps) x := by rw [endF, List.foldl_append]; rfl
theorem endF_b (ps : List Int) : (endF ps).b = (encAll ps).length ∧ (endF ps).u = ps.length ∧ 1 ≤ (endF ps).l ∧ 1 ≤ (endF ps).c ∧ (endF ps).w ≤ 2 * ps.length ∧ (endF ps).l ≤ ps.length + 1 ∧ (endF ps).c ≤ ps.length + 1 := by
  suffices h : ∀ ls : List Int, ∀ ps, ps = ls.reverse → (endF ps).b = (encAll ps).length ∧ (endF ps).u = ps.length ∧ 1 ≤ (endF ps).l ∧ 1 ≤ (endF ps).c ∧ (endF ps).w ≤ 2 * ps.length ∧ (endF ps).l ≤ ps.length + 1 ∧ (endF ps).c ≤ ps.length + 1 from h ps.reverse ps (by simp)
  intro ls
  induction ls with
  | nil => intro ps h; subst h; simp [endF, p0, encAll]
  | cons x ls ih =>
    intro ps h
    obtain ⟨h1, h2, h3, h4, h5, h6, h7⟩ := ih ls.reverse rfl
    rw [List.reverse_cons] at h
    subst h
    have hw := wid_pos x
    have he : encAll (ls.reverse ++ [x]) = encAll ls.reverse ++ encL x.toNat := by simp [encAll]
    rw [endF_snoc, he, List.length_append, List.length_append, List.length_singleton]
    refine ⟨by simp only [stF]; omega, by simp only [stF]; omega, by simp only [stF]; split <;> omega, by simp only [stF]; split <;> omega, by simp only [stF]; omega, by simp only [stF]; split <;> omega, by simp only [stF]; split <;> omega⟩
/-- What is asked behind a seam. -/
def joinP (e q : Pl) : Pl := ⟨e.b + q.b, e.u + q.u, e.w + q.w, e.l + q.l - 1, if q.l = 1 then e.c + q.c - 1 else q.c⟩
theorem endF_join (ps qs : List Int) : endF (ps ++ qs) = joinP (endF ps) (endF qs) := by
  suffices h : ∀ ls : List Int, ∀ qs, qs = ls.reverse → endF (ps ++ qs) = joinP (endF ps) (endF qs) from h qs.reverse qs (by simp)
  intro ls
  induction ls with
  | nil =>
    intro qs h
    subst h
    have := endF_b ps
    simp [joinP, endF, p0]
  | cons x ls ih =>
    intro qs h
    rw [List.reverse_cons] at h
    subst h
    rw [← List.append_assoc, endF_snoc, endF_snoc, ih _ rfl]
    obtain ⟨_, _, a1, a2, _⟩ := endF_b ps
    obtain ⟨_, _, b1, b2, _⟩ := endF_b ls.reverse
    generalize endF ps = E at *
    generalize endF ls.reverse = Q at *
    obtain ⟨eb, eu, ew, el, ec⟩ := E
    obtain ⟨qb, qu, qw, ql, qc⟩ := Q
    simp only at a1 a2 b1 b2
    simp only [joinP, stF, Pl.mk.injEq]
    refine ⟨by omega, by omega, by omega, ?_, ?_⟩
    · (repeat' split) <;> omega
    · (repeat' split) <;> omega
theorem encAll_append (ps qs : List Int) : encAll (ps ++ qs) = encAll ps ++ encAll qs := by simp [encAll]
/-- A scalar value out of a number. -/
def pickS (k : Int) : Nat := (if k.tmod 1112064 < 0 then k.tmod 1112064 + 1112064 else k.tmod 1112064).toNat
theorem pickS_lt (k : Int) : pickS k < 1112064 := by
  have hm1 := Int.tmod_lt_of_pos k (b := (1112064 : Int)) (by omega)
  have hm2 : -1112064 < k.tmod 1112064 := by
    have := Int.tmod_lt_of_pos (-k) (b := (1112064 : Int)) (by omega)
    rw [Int.neg_tmod] at this
    omega
  unfold pickS
  split <;> omega
def ptF (k : Int) : Int := if 55296 ≤ pickS k then (pickS k : Int) + 2048 else (pickS k : Int)
theorem ptF_scalar (k : Int) : scalarP (ptF k) = true := by
  have := pickS_lt k
  rw [scalar_iff]
  unfold ptF
  split <;> omega
theorem all_ptF (zs : List Int) : (zs.map ptF).all scalarP = true := by
  rw [List.all_eq_true]
  intro x hx
  obtain ⟨z, _, rfl⟩ := List.mem_map.1 hx
  exact ptF_scalar z
end Go.Proofs.YtlmbbohhdgeedaaDoor
