/-
  The mathematics of pieces: a block's classes told by where they change.
-/
import Derived.Test.YtpimameogmkpcaaDoorPbM
namespace Go.Proofs.YtpimameogmkpcaaDoor
abbrev Pc := Int × Int
/-- The pieces of a row of n classes. -/
def encN (f : Nat → Int) : Nat → List Pc
  | 0 => []
  | n + 1 => if n = 0 ∨ f n ≠ f (n - 1) then encN f n ++ [((n : Int), f n)] else encN f n
/-- A piece behind others. -/
def putF (l : List Pc) (p : Pc) : List Pc :=
  if 128 ≤ p.1 then l else
    let m := if l.getLast?.any (fun q => decide (q.1 = p.1)) = true then l.dropLast else l
    if m.getLast?.any (fun q => decide (q.2 = p.2)) = true then m else m ++ [p]
theorem encN_congr (f g : Nat → Int) (n : Nat) (h : ∀ j, j < n → f j = g j) : encN f n = encN g n := by
  induction n with
  | zero => rfl
  | succ n ih =>
    rw [encN, encN, ih (fun j hj => h j (by omega)), h n (by omega)]
    by_cases hn : n = 0
    · simp [hn]
    · rw [h (n - 1) (by omega)]
theorem encN_const (f : Nat → Int) (p n : Nat) (hp : p + 1 ≤ n) (h : ∀ j, p ≤ j → j < n → f j = f p) : encN f n = encN f (p + 1) := by
  induction n with
  | zero => omega
  | succ n ih =>
    rcases Nat.lt_or_ge p n with hlt | hge
    · rw [encN, if_neg (by rw [h n (by omega) (by omega), h (n - 1) (by omega) (by omega)]; simp; omega), ih (by omega) (fun j h1 h2 => h j h1 (by omega))]
    · have : n = p := by omega
      rw [this]
theorem encN_lt (f : Nat → Int) (n : Nat) : ∀ q ∈ encN f n, 0 ≤ q.1 ∧ q.1 < (n : Int) := by
  induction n with
  | zero => intro q hq; cases hq
  | succ n ih =>
    intro q hq
    rw [encN] at hq
    split at hq
    · rcases List.mem_append.1 hq with hq | hq
      · have := ih q hq; omega
      · simp only [List.mem_singleton] at hq; subst hq; simp; omega
    · have := ih q hq; omega
theorem encN_last (f : Nat → Int) (n : Nat) (h : 0 < n) : ∃ a : Int, (encN f n).getLast? = some (a, f (n - 1)) ∧ a < (n : Int) := by
  induction n with
  | zero => omega
  | succ n ih =>
    rw [encN]
    split
    · exact ⟨(n : Int), by simp, by omega⟩
    · rename_i hc
      have hn : ¬ n = 0 := fun e => hc (.inl e)
      have he : f n = f (n - 1) := Classical.byContradiction (fun e => hc (.inr e))
      obtain ⟨a, h1, h2⟩ := ih (by omega)
      exact ⟨a, by rw [h1, Nat.add_sub_cancel, he], by omega⟩
/-- A piece put behind pieces that do not change any more. -/
theorem putF_enc (f : Nat → Int) (p : Nat) (c : Int) (h : ∀ j, p ≤ j → j < 128 → f j = f p) : putF (encN f 128) ((p : Int), c) = encN (fun j => if j < p then f j else c) 128 := by
  rcases Nat.lt_or_ge p 128 with hp | hp
  · have e1 : encN f 128 = encN f (p + 1) := encN_const f p 128 (by omega) h
    have e2 : encN (fun j => if j < p then f j else c) 128 = encN (fun j => if j < p then f j else c) (p + 1) := encN_const _ p 128 (by omega) (fun j h1 _ => by simp; intro h2; omega)
    have e3 : encN (fun j => if j < p then f j else c) p = encN f p := encN_congr _ _ p (fun j hj => by simp [hj])
    have em : (if (encN f (p + 1)).getLast?.any (fun q => decide (q.1 = (p : Int))) = true then (encN f (p + 1)).dropLast else encN f (p + 1)) = encN f p := by
      rw [encN]
      split
      · simp
      · rename_i hc
        have hn : ¬ p = 0 := fun e => hc (.inl e)
        obtain ⟨a, h1, h2⟩ := encN_last f p (by omega)
        rw [h1]
        simp
        omega
    rw [e1, e2]
    unfold putF
    rw [if_neg (by simp; omega)]
    simp only [em]
    rw [encN, e3]
    rcases Nat.eq_zero_or_pos p with h0 | h0
    · subst h0
      simp [encN]
    · obtain ⟨a, h1, _⟩ := encN_last f p h0
      rw [h1]
      simp only [Option.any_some, decide_eq_true_eq, Nat.lt_irrefl, if_false]
      have e4 : (if p - 1 < p then f (p - 1) else c) = f (p - 1) := if_pos (by omega)
      rw [e4]
      by_cases hc : f (p - 1) = c
      · rw [if_pos hc, if_neg (by simp [hc]; omega)]
      · rw [if_neg hc, if_pos (.inr (fun e => hc e.symm))]
  · unfold putF
    rw [if_pos (by simp; omega)]
    exact encN_congr _ _ _ (fun j hj => by simp; intro h1; omega)
theorem encN_cut (f : Nat → Int) (n j : Nat) (h : j < n) : (encN f n).filter (fun q => decide (q.1 ≤ (j : Int))) = encN f (j + 1) := by
  induction n with
  | zero => omega
  | succ n ih =>
    rcases Nat.lt_or_ge j n with hlt | hge
    · rw [encN]
      split
      · rw [List.filter_append, ih hlt]
        simp
        omega
      · exact ih hlt
    · have : n = j := by omega
      subst this
      exact List.filter_eq_self.2 (fun q hq => by have := encN_lt f (n + 1) q hq; simp; omega)
theorem encN_inj (f g : Nat → Int) (n : Nat) (h : encN f n = encN g n) : ∀ j, j < n → f j = g j := by
  intro j hj
  have e : encN f (j + 1) = encN g (j + 1) := by rw [← encN_cut f n j hj, ← encN_cut g n j hj, h]
  obtain ⟨a, h1, _⟩ := encN_last f (j + 1) (by omega)
  obtain ⟨b, h2, _⟩ := encN_last g (j + 1) (by omega)
  rw [e, h2] at h1
  simp at h1
  exact h1.2.symm
end Go.Proofs.YtpimameogmkpcaaDoor
