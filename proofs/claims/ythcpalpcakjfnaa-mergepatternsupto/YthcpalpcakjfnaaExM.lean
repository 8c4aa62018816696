/-
  Expressions as trees; what Check says of them.
-/
import Derived.Test.YthcpalpcakjfnaaEhBW
namespace Go.Proofs.Ythcpalpcakjfnaa
open Go.RowKit Go.Shelf
/-- An expression: its kind, its set (turned, names, points), its parts. -/
inductive Ex where
  | mk (k : Int) (nt : Bool) (N : List ByteArray) (P : List (Int × Int)) (L : List Ex) : Ex
def Ex.kind : Ex → Int | .mk k _ _ _ _ => k
def Ex.nt : Ex → Bool | .mk _ b _ _ _ => b
def Ex.nm : Ex → List ByteArray | .mk _ _ N _ _ => N
def Ex.pt : Ex → List (Int × Int) | .mk _ _ _ P _ => P
def Ex.parts : Ex → List Ex | .mk _ _ _ _ L => L
/-- The faults of Check: 0 too many, 1 wrong, 2 out of form. -/
inductive CR where
  | ok (n s : Nat) : CR
  | bad (f : Nat) : CR
def zeroF (nt : Bool) (N : List ByteArray) (P : List (Int × Int)) : Bool := !nt && N.length == 0 && P.length == 0
/-- Has a node what its kind asks for, and nothing beside? -/
def wholeF (may : List ByteArray → List (Int × Int) → Bool) (k : Int) (nt : Bool) (N : List ByteArray) (P : List (Int × Int)) (n : Nat) : Bool :=
  if k = 1 then n == 0 && zeroF nt N P
  else if k = 2 then n == 0 && may N P
  else if k = 3 ∨ k = 4 then zeroF nt N P
  else if k = 5 ∨ k = 6 ∨ k = 7 then n == 1 && zeroF nt N P
  else false
def hasK (L : List Ex) (k : Int) : Bool := L.any fun e => decide (e.kind = k)
def formF (k : Int) (L : List Ex) : Bool :=
  if k = 3 then decide (2 ≤ L.length) && (!hasK L 3 && !hasK L 1)
  else if k = 4 then decide (2 ≤ L.length) && !hasK L 4
  else true
mutual
def chkE (may : List ByteArray → List (Int × Int) → Bool) : Ex → Nat → Nat → Nat → CR
  | .mk k nt N P L, d, n, s =>
    if n + 1 ≤ 4000 ∧ d ≤ 128 ∧ s + (N.length + P.length) ≤ 65536 then
      if wholeF may k nt N P L.length then
        if formF k L then chkL may L (d + 1) (n + 1) (s + (N.length + P.length)) else .bad 2
      else .bad 1
    else .bad 0
def chkL (may : List ByteArray → List (Int × Int) → Bool) : List Ex → Nat → Nat → Nat → CR
  | [], _, n, s => .ok n s
  | e :: L, d, n, s => match chkE may e d n s with
    | .ok n' s' => chkL may L d n' s'
    | .bad f => .bad f
end
/-- The first so many parts: how many nodes and spans they come to, where all may be. -/
def CR.isOk : CR → Bool | .ok _ _ => true | .bad _ => false
theorem chkL_snoc (may : List ByteArray → List (Int × Int) → Bool) (L : List Ex) (e : Ex) (d : Nat) : ∀ (n s : Nat), chkL may (L ++ [e]) d n s = (match chkL may L d n s with | .ok n' s' => chkE may e d n' s' | .bad f => .bad f) := by
  induction L with
  | nil =>
    intro n s
    simp only [List.nil_append, chkL]
    cases chkE may e d n s <;> rfl
  | cons x L ih =>
    intro n s
    simp only [List.cons_append, chkL]
    cases chkE may x d n s with
    | ok n' s' => exact ih n' s'
    | bad f => rfl
theorem chkL_stop (may : List ByteArray → List (Int × Int) → Bool) (L M : List Ex) (d n s f : Nat) (h : chkL may L d n s = .bad f) : chkL may (L ++ M) d n s = .bad f := by
  induction L generalizing n s with
  | nil => simp [chkL] at h
  | cons x L ih =>
    simp only [List.cons_append, chkL] at h ⊢
    revert h
    cases chkE may x d n s with
    | ok n' s' => exact fun h => ih n' s' h
    | bad g => exact fun h => h
theorem chkE_bound (may : List ByteArray → List (Int × Int) → Bool) (e : Ex) (d n s : Nat) (h : ¬ (n + 1 ≤ 4000)) : chkE may e d n s = .bad 0 := by
  cases e with
  | mk k nt N P L => simp only [chkE]; rw [if_neg (fun c => h c.1)]
mutual
theorem chkE_ok (may : List ByteArray → List (Int × Int) → Bool) : ∀ (e : Ex) (d n s n' s' : Nat), s ≤ 65536 → chkE may e d n s = .ok n' s' → n < n' ∧ n' ≤ 4000 ∧ s ≤ s' ∧ s' ≤ 65536 := fun e d n s n' s' hs h => by
  match e with
  | .mk k nt N P L =>
    simp only [chkE] at h
    split at h
    · rename_i hc
      split at h
      · split at h
        · have := chkL_ok may L (d + 1) (n + 1) (s + (N.length + P.length)) n' s' hc.1 hc.2.2 h
          omega
        · cases h
      · cases h
    · cases h
theorem chkL_ok (may : List ByteArray → List (Int × Int) → Bool) : ∀ (L : List Ex) (d n s n' s' : Nat), n ≤ 4000 → s ≤ 65536 → chkL may L d n s = .ok n' s' → n ≤ n' ∧ n' ≤ 4000 ∧ s ≤ s' ∧ s' ≤ 65536 := fun L d n s n' s' hn hs h => by
  match L with
  | [] => simp only [chkL, CR.ok.injEq] at h; omega
  | e :: L =>
    simp only [chkL] at h
    cases he : chkE may e d n s with
    | ok a b =>
      rw [he] at h
      have h1 := chkE_ok may e d n s a b hs he
      have h2 := chkL_ok may L d a b n' s' h1.2.1 h1.2.2.2 h
      omega
    | bad f => rw [he] at h; cases h
end
end Go.Proofs.Ythcpalpcakjfnaa
