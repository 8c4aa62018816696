/-
  Property files, as mathematics over lists of bytes.
-/
import Derived.Lib.Strings
namespace Go.Proofs.YtcbepmjojppokaaGreatDoor
abbrev By := List UInt8
def isBl (c : UInt8) : Bool := c == 32 || c == 9
def isDg (c : UInt8) : Bool := decide (48 ≤ c.toNat) && decide (c.toNat ≤ 57)
def isLt (c : UInt8) : Bool := (decide (65 ≤ c.toNat) && decide (c.toNat ≤ 90)) || (decide (97 ≤ c.toNat) && decide (c.toNat ≤ 122))
def isHx (c : UInt8) : Bool := isDg c || (decide (65 ≤ c.toNat) && decide (c.toNat ≤ 70)) || (decide (97 ≤ c.toNat) && decide (c.toNat ≤ 102))
def isNb (c : UInt8) : Bool := isLt c || isDg c || c == 95
/-- The number of a hexadecimal digit. -/
def hxv (c : UInt8) : Nat := if c.toNat ≤ 57 then c.toNat - 48 else if c.toNat ≤ 70 then c.toNat - 55 else c.toNat - 87
def hexN (l : By) : Nat := l.foldl (fun n c => 16 * n + hxv c) 0
theorem hexN_snoc (l : By) (c : UInt8) : hexN (l ++ [c]) = 16 * hexN l + hxv c := by simp [hexN]
theorem hxv_lt (c : UInt8) (h : isHx c = true) : hxv c < 16 := by
  simp only [isHx, isDg, Bool.or_eq_true, Bool.and_eq_true, decide_eq_true_eq] at h
  unfold hxv
  split
  · omega
  · split <;> omega
theorem hexN_lt (l : By) (h : ∀ c ∈ l, isHx c = true) : hexN l < 16 ^ l.length := by
  suffices H : ∀ (l : By), (∀ c ∈ l.reverse, isHx c = true) → hexN l.reverse < 16 ^ l.length by
    have := H l.reverse (by simpa using h)
    simpa using this
  intro l
  induction l with
  | nil => intro _; simp [hexN]
  | cons c r ih =>
    intro h
    rw [List.reverse_cons, hexN_snoc]
    have h1 := ih (fun x hx => h x (by simp at hx ⊢; exact .inl hx))
    have h2 := hxv_lt c (h c (by simp))
    simp only [List.length_cons, Nat.pow_succ]
    omega
/-- A name. -/
def isNm (l : By) : Bool := decide (1 ≤ l.length) && decide (l.length ≤ 32) && (l.head?.any isLt) && l.all isNb
/-- A line's end is cut off. -/
def chopR (l : By) : By := if l.getLast? = some 13 then l.dropLast else l
/-- The lines, with what was read of the first one. -/
def linesGo (cur : By) : By → List By
  | [] => [cur]
  | c :: r => if c = 10 then chopR cur :: linesGo [] r else linesGo (cur ++ [c]) r
def linesOf (l : By) : List By := linesGo [] l
theorem linesGo_none (a cur : By) (h : ∀ c ∈ a, c ≠ 10) : linesGo cur a = [cur ++ a] := by
  induction a generalizing cur with
  | nil => simp [linesGo]
  | cons c r ih =>
    rw [linesGo, if_neg (h c (.head _)), ih _ (fun x hx => h x (.tail _ hx))]
    simp
theorem linesGo_cut (a b cur : By) (h : ∀ c ∈ a, c ≠ 10) : linesGo cur (a ++ 10 :: b) = chopR (cur ++ a) :: linesGo [] b := by
  induction a generalizing cur with
  | nil => simp [linesGo]
  | cons c r ih =>
    rw [List.cons_append, linesGo, if_neg (h c (.head _)), ih _ (fun x hx => h x (.tail _ hx))]
    simp
theorem linesGo_len (l cur : By) : (linesGo cur l).length ≤ l.length + 1 := by
  induction l generalizing cur with
  | nil => simp [linesGo]
  | cons c r ih =>
    rw [linesGo]
    split
    · have := ih []; simp; omega
    · have := ih (cur ++ [c]); simp; omega
/-- Blanks off both ends. -/
def trimB (l : By) : By := ((l.dropWhile isBl).reverse.dropWhile isBl).reverse
def bareOf (l : By) : By := trimB (l.takeWhile (fun c => c != 35))
/-- Behind the points of a line. -/
def tailL (lo hi : Nat) (r : By) : Option (Nat × Nat × By) :=
  match r.dropWhile isBl with
  | [] => none
  | c :: r2 => if c = 59 then (if isNm (r2.dropWhile isBl) then some (lo, hi, r2.dropWhile isBl) else none) else none
/-- Digits at the beginning: how many, what they say. -/
def ptLen (s : By) : Nat := (s.takeWhile isHx).length
def ptOk (s : By) : Bool := decide (4 ≤ ptLen s) && decide (ptLen s ≤ 6)
def ptVal (s : By) : Nat := hexN (s.takeWhile isHx)
/-- What a bare line says. -/
def saidL (s : By) : Option (Nat × Nat × By) :=
  if ptOk s then
    let r := s.drop (ptLen s)
    if r.take 2 = [46, 46] then (if ptOk (r.drop 2) then tailL (ptVal s) (ptVal (r.drop 2)) ((r.drop 2).drop (ptLen (r.drop 2))) else none)
    else tailL (ptVal s) (ptVal s) r
  else none
theorem ptVal_lt (s : By) (h : ptOk s = true) : ptVal s < 16777216 := by
  simp only [ptOk, Bool.and_eq_true, decide_eq_true_eq] at h
  have h1 := hexN_lt (s.takeWhile isHx) (fun c hc => List.all_eq_true.1 (List.all_takeWhile) c hc)
  have h2 : 16 ^ (s.takeWhile isHx).length ≤ 16 ^ 6 := Nat.pow_le_pow_right (by omega) h.2
  unfold ptVal
  omega
theorem takeWhile_len_drop (p : UInt8 → Bool) (s : By) : s.drop (s.takeWhile p).length = s.dropWhile p := by
  induction s with
  | nil => rfl
  | cons c r ih =>
    simp only [List.takeWhile_cons, List.dropWhile_cons]
    split
    · simpa using ih
    · rfl
/-- A scan that stands at k. -/
theorem scan_at (p : UInt8 → Bool) (s : By) (k : Nat) (h : ∀ j, j < k → ∃ c, s[j]? = some c ∧ p c = true) : k ≤ (s.takeWhile p).length := by
  induction s generalizing k with
  | nil =>
    cases k with
    | zero => simp
    | succ k => obtain ⟨c, hc, _⟩ := h 0 (by omega); simp at hc
  | cons c r ih =>
    cases k with
    | zero => simp
    | succ k =>
      obtain ⟨c', hc, hp⟩ := h 0 (by omega)
      simp at hc
      subst hc
      rw [List.takeWhile_cons, if_pos hp, List.length_cons]
      have := ih k (fun j hj => by obtain ⟨c', h1, h2⟩ := h (j + 1) (by omega); exact ⟨c', by simpa using h1, h2⟩)
      omega
theorem scan_end (p : UInt8 → Bool) (s : By) (k : Nat) (h : ∀ j, j < k → ∃ c, s[j]? = some c ∧ p c = true) (he : ∀ c, s[k]? = some c → p c = false) : (s.takeWhile p).length = k := by
  induction s generalizing k with
  | nil =>
    cases k with
    | zero => simp
    | succ k => obtain ⟨c, hc, _⟩ := h 0 (by omega); simp at hc
  | cons c r ih =>
    cases k with
    | zero => rw [List.takeWhile_cons, he c (by simp)]; simp
    | succ k =>
      obtain ⟨c', hc, hp⟩ := h 0 (by omega)
      simp at hc
      subst hc
      rw [List.takeWhile_cons, if_pos hp, List.length_cons, ih k (fun j hj => by obtain ⟨c', h1, h2⟩ := h (j + 1) (by omega); exact ⟨c', by simpa using h1, h2⟩) (fun c hc => he c (by simpa using hc))]
theorem scan_take (p : UInt8 → Bool) (s : By) : s.takeWhile p = s.take (s.takeWhile p).length := by
  induction s with
  | nil => rfl
  | cons c r ih =>
    simp only [List.takeWhile_cons]
    split
    · simpa using ih
    · rfl
end Go.Proofs.YtcbepmjojppokaaGreatDoor
