/-
  The words of a line, and a word with quotes, as mathematics over lists of bytes (stage 25).
-/
import Derived.Lib.Strings
namespace Go.Proofs.YtcbepmjojppokaaDoor
abbrev Dy := List UInt8
/-- The number of a hexadecimal digit; below nought: it is none. -/
def hxD (c : UInt8) : Int := if 48 ≤ c.toNat ∧ c.toNat ≤ 57 then (c.toNat : Int) - 48 else if 97 ≤ c.toNat ∧ c.toNat ≤ 102 then (c.toNat : Int) - 87 else if 65 ≤ c.toNat ∧ c.toNat ≤ 70 then (c.toNat : Int) - 55 else -1
theorem hxD_lt (c : UInt8) : hxD c ≤ 15 ∧ -1 ≤ hxD c := by
  unfold hxD
  (repeat' split) <;> omega
/-- What stands behind a backslash: the byte that is meant, and how many bytes say so. -/
def escH : Dy → Option (UInt8 × Nat)
  | a :: b :: _ => if 0 ≤ hxD a ∧ 0 ≤ hxD b then some (UInt8.ofNat (hxD a * 16 + hxD b).toNat, 3) else none
  | _ => none
def escD : Dy → Option (UInt8 × Nat)
  | [] => none
  | c :: r => if c = 34 ∨ c = 92 then some (c, 1) else if c = 110 then some (10, 1) else if c = 120 then escH r else none
theorem escH_len {l : Dy} {b : UInt8} {n : Nat} (h : escH l = some (b, n)) : n = 3 ∧ 2 ≤ l.length := by
  unfold escH at h
  split at h
  · split at h
    · simp at h
      exact ⟨h.2.symm, by simp⟩
    · cases h
  · cases h
theorem escD_len {l : Dy} {b : UInt8} {n : Nat} (h : escD l = some (b, n)) : 1 ≤ n ∧ n ≤ l.length := by
  cases l with
  | nil => cases h
  | cons c r =>
    rw [escD] at h
    split at h
    · simp at h; simp; omega
    · split at h
      · simp at h; simp; omega
      · split at h
        · have := escH_len h
          simp; omega
        · cases h
/-- Does a blank stand there, or nothing? -/
def bOE : Dy → Bool
  | [] => true
  | c :: _ => c == 32
def plB (c : UInt8) : Bool := decide (32 ≤ c.toNat) && decide (c.toNat ≤ 126)
/-- Behind the first quote, and behind n bytes that were read: the word, and how many bytes it takes. -/
def qS : Nat → Dy → Option (Dy × Nat)
  | _, [] => none
  | n + 1, _ :: r => (qS n r).map fun p => (p.1, p.2 + 1)
  | 0, c :: r =>
    if c = 34 then (if bOE r = true then some ([], 1) else none)
    else if c = 92 then (match escD r with | none => none | some (b, n) => (qS n r).map fun p => (b :: p.1, p.2 + 1))
    else if plB c = true then (qS 0 r).map fun p => (c :: p.1, p.2 + 1) else none
theorem qS_skip : ∀ (n : Nat) (l : Dy), qS n l = (qS 0 (l.drop n)).map fun p => (p.1, p.2 + n)
  | 0, l => by simp
  | n + 1, [] => by simp [qS]
  | n + 1, c :: r => by
    rw [qS, qS_skip n r, Option.map_map]
    rfl
theorem qS_len : ∀ (l : Dy) (n : Nat) (w : Dy) (m : Nat), qS n l = some (w, m) → 1 ≤ m ∧ m ≤ l.length ∧ w.length ≤ m
  | [], n, w, m, h => by cases n <;> simp [qS] at h
  | c :: r, n + 1, w, m, h => by
    rw [qS] at h
    obtain ⟨p, h1, h2⟩ := Option.map_eq_some_iff.1 h
    cases h2
    have := qS_len r n p.1 p.2 h1
    simp; omega
  | c :: r, 0, w, m, h => by
    rw [qS] at h
    split at h
    · split at h
      · cases h; simp
      · cases h
    · split at h
      · split at h
        · cases h
        · next b n e =>
          obtain ⟨p, h1, h2⟩ := Option.map_eq_some_iff.1 h
          cases h2
          have := qS_len r n p.1 p.2 h1
          simp; omega
      · split at h
        · obtain ⟨p, h1, h2⟩ := Option.map_eq_some_iff.1 h
          cases h2
          have := qS_len r 0 p.1 p.2 h1
          simp; omega
        · cases h
def bareB (c : UInt8) : Bool := decide (33 ≤ c.toNat) && decide (c.toNat ≤ 126) && !(c == 34)
def notSp (c : UInt8) : Bool := !(c == 32)
def plW (l : Dy) : Option (Dy × Nat) := if (l.takeWhile notSp).all bareB = true then some (l.takeWhile notSp, (l.takeWhile notSp).length) else none
/-- The first word of what begins with no blank. -/
def fstW : Dy → Option (Dy × Nat)
  | [] => none
  | c :: r => if c = 34 then (qS 0 r).map fun p => (p.1, p.2 + 1) else plW (c :: r)
theorem fstW_len {l : Dy} {w : Dy} {m : Nat} (h : fstW l = some (w, m)) (hs : ∀ c r, l = c :: r → ¬ c = 32) : 1 ≤ m ∧ m ≤ l.length ∧ w.length ≤ m := by
  cases l with
  | nil => cases h
  | cons c r =>
    rw [fstW] at h
    split at h
    · obtain ⟨p, h1, h2⟩ := Option.map_eq_some_iff.1 h
      cases h2
      have := qS_len r 0 p.1 p.2 h1
      simp; omega
    · unfold plW at h
      split at h
      · cases h
        have h1 := (List.takeWhile_sublist (p := notSp) (l := c :: r)).length_le
        have h2 : notSp c = true := by unfold notSp; simp [hs c r rfl]
        rw [List.takeWhile_cons, if_pos h2] at h1 ⊢
        simp at h1 ⊢
        omega
      · cases h
/-- The words, behind n bytes that were read. -/
def wdS : Nat → Dy → Option (List Dy)
  | _, [] => some []
  | n + 1, _ :: r => wdS n r
  | 0, c :: r => if c = 32 then wdS 0 r else match fstW (c :: r) with | none => none | some (w, n) => (wdS (n - 1) r).map fun L => w :: L
theorem wdS_skip : ∀ (n : Nat) (l : Dy), wdS n l = wdS 0 (l.drop n)
  | 0, l => by simp
  | n + 1, [] => by simp [wdS]
  | n + 1, c :: r => by
    rw [wdS, wdS_skip n r]
    rfl
theorem wdS_nil : wdS 0 [] = some [] := rfl
theorem wdS_blank (r : Dy) : wdS 0 (32 :: r) = wdS 0 r := by rw [wdS, if_pos rfl]
theorem wdS_word {c : UInt8} {r : Dy} (hc : ¬ c = 32) : wdS 0 (c :: r) = match fstW (c :: r) with | none => none | some (w, n) => (wdS 0 ((c :: r).drop n)).map fun L => w :: L := by
  rw [wdS, if_neg hc]
  cases h : fstW (c :: r) with
  | none => rfl
  | some p =>
    have := fstW_len h (fun d s e => by cases e; exact hc)
    obtain ⟨w, n⟩ := p
    show Option.map _ _ = _
    obtain ⟨k, rfl⟩ : ∃ k, n = k + 1 := ⟨n - 1, by simp at this; omega⟩
    rw [wdS_skip]
    rfl
theorem wdS_trim (l : Dy) : wdS 0 l = wdS 0 (l.dropWhile (fun c => c == 32)) := by
  induction l with
  | nil => rfl
  | cons c r ih =>
    by_cases h : c = 32
    · subst h
      rw [wdS_blank, ih, List.dropWhile_cons_of_pos (by rfl)]
    · rw [List.dropWhile_cons_of_neg (by simpa using h)]
/-- How many words at most. -/
theorem wdS_len : ∀ (l : Dy) (n : Nat) (L : List Dy), wdS n l = some L → L.length ≤ l.length
  | [], n, L, h => by cases n <;> (simp [wdS] at h; subst h; simp)
  | c :: r, n + 1, L, h => by
    rw [wdS] at h
    have := wdS_len r n L h
    simp; omega
  | c :: r, 0, L, h => by
    rw [wdS] at h
    split at h
    · have := wdS_len r 0 L h
      simp; omega
    · split at h
      · cases h
      · next w n e =>
        obtain ⟨M, h1, h2⟩ := Option.map_eq_some_iff.1 h
        cases h2
        have := wdS_len r (n - 1) M h1
        simp; omega
/-- A byte, as Quote writes it. -/
def hxC (n : Nat) : UInt8 := ([48, 49, 50, 51, 52, 53, 54, 55, 56, 57, 97, 98, 99, 100, 101, 102] : Dy).getD n 0
def escQ (c : UInt8) : Dy := if c = 34 then [92, 34] else if c = 92 then [92, 92] else if c = 10 then [92, 110] else if plB c = true then [c] else [92, 120, hxC (c.toNat / 16), hxC (c.toNat % 16)]
def bareQ (w : Dy) : Bool := match w with | [] => false | c :: _ => !(c == 35) && w.all (fun b => bareB b && !(b == 92))
def quoQ (w : Dy) : Dy := if bareQ w = true then w else 34 :: (w.flatMap escQ ++ [34])
theorem hx_back : ∀ c : Fin 256, hxD (hxC (c.val / 16)) = (c.val / 16 : Nat) ∧ hxD (hxC (c.val % 16)) = (c.val % 16 : Nat) := by decide +kernel
/-- One byte is read back. -/
theorem qS_esc (c : UInt8) (r : Dy) : qS 0 (escQ c ++ r) = (qS 0 r).map fun p => (c :: p.1, p.2 + (escQ c).length) := by
  unfold escQ
  by_cases h1 : c = 34
  · subst h1
    rw [if_pos rfl]
    show qS 0 (92 :: 34 :: r) = _
    rw [qS, if_neg (by decide), if_pos rfl]
    show Option.map _ (qS 1 (34 :: r)) = _
    rw [qS_skip, Option.map_map]
    rfl
  · by_cases h2 : c = 92
    · subst h2
      rw [if_neg h1, if_pos rfl]
      show qS 0 (92 :: 92 :: r) = _
      rw [qS, if_neg (by decide), if_pos rfl]
      show Option.map _ (qS 1 (92 :: r)) = _
      rw [qS_skip, Option.map_map]
      rfl
    · by_cases h3 : c = 10
      · subst h3
        rw [if_neg h1, if_neg h2, if_pos rfl]
        show qS 0 (92 :: 110 :: r) = _
        rw [qS, if_neg (by decide), if_pos rfl]
        show Option.map _ (qS 1 (110 :: r)) = _
        rw [qS_skip, Option.map_map]
        rfl
      · by_cases h4 : plB c = true
        · rw [if_neg h1, if_neg h2, if_neg h3, if_pos h4]
          show qS 0 (c :: r) = _
          rw [qS, if_neg h1, if_neg h2, if_pos h4]
          rfl
        · rw [if_neg h1, if_neg h2, if_neg h3, if_neg h4]
          show qS 0 (92 :: 120 :: hxC (c.toNat / 16) :: hxC (c.toNat % 16) :: r) = _
          have hb := hx_back ⟨c.toNat, c.toNat_lt⟩
          have he : escD (120 :: hxC (c.toNat / 16) :: hxC (c.toNat % 16) :: r) = some (c, 3) := by
            rw [escD, if_neg (by decide), if_neg (by decide), if_pos rfl, escH]
            have e1 : hxD (hxC (c.toNat / 16)) = (c.toNat / 16 : Nat) := hb.1
            have e2 : hxD (hxC (c.toNat % 16)) = (c.toNat % 16 : Nat) := hb.2
            rw [e1, e2, if_pos (by omega)]
            have e3 : (((c.toNat / 16 : Nat) : Int) * 16 + (c.toNat % 16 : Nat)).toNat = c.toNat := by omega
            rw [e3]
            simp
          rw [qS, if_neg (by decide), if_pos rfl, he]
          show Option.map _ (qS 3 (120 :: hxC (c.toNat / 16) :: hxC (c.toNat % 16) :: r)) = _
          rw [qS_skip, Option.map_map]
          rfl
theorem qS_quo (w r : Dy) (hr : bOE r = true) : qS 0 (w.flatMap escQ ++ 34 :: r) = some (w, (w.flatMap escQ).length + 1) := by
  induction w with
  | nil =>
    show qS 0 (34 :: r) = _
    rw [qS, if_pos rfl, if_pos hr]
    rfl
  | cons c w ih =>
    rw [List.flatMap_cons, List.append_assoc, qS_esc, ih]
    simp
    omega
theorem all_mono {w : Dy} {p q : UInt8 → Bool} (h : w.all p = true) (hpq : ∀ c, p c = true → q c = true) : w.all q = true := by
  rw [List.all_eq_true] at h ⊢
  exact fun c hc => hpq c (h c hc)
theorem bare_word {w : Dy} (h : bareQ w = true) : ∃ c r, w = c :: r ∧ ¬ c = 34 ∧ ¬ c = 32 ∧ w.all notSp = true ∧ w.all bareB = true := by
  cases w with
  | nil => cases h
  | cons c r =>
    unfold bareQ at h
    rw [Bool.and_eq_true] at h
    have hb : (c :: r).all bareB = true := all_mono h.2 (fun c hc => (Bool.and_eq_true _ _ ▸ hc).1)
    have hc : bareB c = true := by rw [List.all_cons, Bool.and_eq_true] at hb; exact hb.1
    have hc34 : ¬ c = 34 := fun e => by subst e; cases hc
    have hc32 : ¬ c = 32 := fun e => by subst e; cases hc
    refine ⟨c, r, rfl, hc34, hc32, all_mono hb (fun d hd => ?_), hb⟩
    unfold notSp
    by_cases e : d = 32
    · subst e; cases hd
    · simpa using e
theorem take_all (w r : Dy) (h : w.all notSp = true) (hr : bOE r = true) : (w ++ r).takeWhile notSp = w := by
  induction w with
  | nil =>
    cases r with
    | nil => rfl
    | cons c r =>
      have : c = 32 := by simpa [bOE] using hr
      subst this
      rfl
  | cons c w ih =>
    rw [List.all_cons, Bool.and_eq_true] at h
    rw [List.cons_append, List.takeWhile_cons, if_pos h.1, ih h.2]
/-- A quoted word is read back, whatever stands behind it. -/
theorem wdS_quo (w r : Dy) (hr : bOE r = true) : wdS 0 (quoQ w ++ r) = (wdS 0 r).map fun L => w :: L := by
  by_cases hb : bareQ w = true
  · unfold quoQ
    rw [if_pos hb]
    obtain ⟨c, s, e, h1, h2, h3, h4⟩ := bare_word hb
    have ht := take_all w r h3 hr
    subst e
    rw [List.cons_append, wdS_word h2, fstW, if_neg h1, plW, ← List.cons_append, ht, if_pos h4]
    simp
  · unfold quoQ
    rw [if_neg hb, List.cons_append, List.append_assoc, wdS_word (by decide), fstW, if_pos rfl]
    have := qS_quo w r hr
    rw [show w.flatMap escQ ++ ([34] ++ r) = w.flatMap escQ ++ 34 :: r from rfl, this]
    generalize w.flatMap escQ = m
    simp [List.drop_append]
    rw [List.drop_of_length_le (by omega)]
    rfl
theorem wdS_one (w : Dy) : wdS 0 (quoQ w) = some [w] := by
  have := wdS_quo w [] rfl
  rw [List.append_nil] at this
  rw [this]
  rfl
theorem wdS_two (w : Dy) : wdS 0 (32 :: 32 :: 97 :: 32 :: (quoQ w ++ 32 :: 32 :: quoQ w)) = some [[97], w, w] := by
  rw [wdS_blank, wdS_blank, wdS_word (by decide)]
  have : fstW (97 :: 32 :: (quoQ w ++ 32 :: 32 :: quoQ w)) = some ([97], 1) := rfl
  rw [this]
  show Option.map _ (wdS 0 (32 :: (quoQ w ++ 32 :: 32 :: quoQ w))) = _
  rw [wdS_blank, wdS_quo w _ rfl, wdS_blank, wdS_blank, wdS_one]
  rfl
theorem esc_len (c : UInt8) : 1 ≤ (escQ c).length ∧ (escQ c).length ≤ 4 := by
  unfold escQ
  (repeat' split) <;> simp
theorem quo_len (w : Dy) : (quoQ w).length ≤ 4 * w.length + 2 := by
  unfold quoQ
  have h : (w.flatMap escQ).length ≤ 4 * w.length := by
    induction w with
    | nil => simp
    | cons c w ih =>
      have := (esc_len c).2
      rw [List.flatMap_cons, List.length_append, List.length_cons]
      omega
  generalize w.flatMap escQ = m at *
  split
  · omega
  · simp; omega
end Go.Proofs.YtcbepmjojppokaaDoor
