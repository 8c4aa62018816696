/-
  The lines of a text with their ends; what a text of cases says (stage 23).
-/
import Derived.Test.YtcbepmjojppokaaGreatDoorTgQW
namespace Go.Proofs.YtcbepmjojppokaaGreatDoor
/-- The lines, each with its end. -/
def rawGo (now : By) : By → List By
  | [] => if now = [] then [] else [now]
  | c :: r => if c = 10 then (now ++ [10]) :: rawGo [] r else rawGo (now ++ [c]) r
def rawL (s : By) : List By := rawGo [] s
theorem rawGo_cut (a b now : By) (h : ∀ c ∈ a, c ≠ 10) : rawGo now (a ++ 10 :: b) = (now ++ a ++ [10]) :: rawGo [] b := by
  induction a generalizing now with
  | nil => simp [rawGo]
  | cons c r ih =>
    rw [List.cons_append, rawGo, if_neg (h c (.head _)), ih _ (fun x hx => h x (.tail _ hx))]
    simp
theorem rawGo_end (a now : By) (h : ∀ c ∈ a, c ≠ 10) : rawGo now a = if now ++ a = [] then [] else [now ++ a] := by
  induction a generalizing now with
  | nil => simp [rawGo]
  | cons c r ih =>
    rw [rawGo, if_neg (h c (.head _)), ih _ (fun x hx => h x (.tail _ hx))]
    simp
def not10 (c : UInt8) : Bool := !(c == 10)
theorem tw10 (s : By) : ∀ c ∈ s.takeWhile not10, c ≠ 10 := fun c hc => by
  have := List.all_eq_true.1 List.all_takeWhile c hc
  simpa [not10] using this
theorem idx10 (l : By) : Lib.indexByte l 10 = if (l.takeWhile not10).length < l.length then ((l.takeWhile not10).length : Int) else -1 := by
  induction l with
  | nil => rfl
  | cons c r ih =>
    rw [Lib.indexByte]
    by_cases hc : c = 10
    · subst hc
      simp [not10]
    · have hn : not10 c = true := by unfold not10; simpa using hc
      rw [List.takeWhile_cons, if_pos hn, ih]
      have hb : (c == 10) = false := by simpa using hc
      rw [hb]
      simp only [List.length_cons, Bool.false_eq_true, if_false]
      by_cases h : (r.takeWhile not10).length < r.length
      · rw [if_pos h, if_pos (show (r.takeWhile not10).length + 1 < r.length + 1 by omega), if_neg (by simp)]
        omega
      · rw [if_neg h, if_neg (show ¬ (r.takeWhile not10).length + 1 < r.length + 1 by omega)]
        rfl
theorem tw_split (s : By) : s = s.takeWhile not10 ++ s.dropWhile not10 := (List.takeWhile_append_dropWhile).symm
theorem raw_cut (s : By) (k : Nat) (h : (s.takeWhile not10).length = k) (hk : k < s.length) : rawL s = s.take (k + 1) :: rawL (s.drop (k + 1)) := by
  have h1 := tw_split s
  have h2 := tw10 s
  cases hd : s.dropWhile not10 with
  | nil =>
    rw [hd, List.append_nil] at h1
    have := congrArg List.length h1
    omega
  | cons c b =>
    have hc : c = 10 := by
      have := List.head_dropWhile_not (l := s) not10 (by rw [hd]; simp)
      simpa [hd, not10] using this
    rw [hd, hc] at h1
    generalize s.takeWhile not10 = a at *
    subst h
    subst h1
    show rawGo [] _ = _
    rw [rawGo_cut a b [] h2]
    have e1 : (a ++ 10 :: b).take (a.length + 1) = a ++ [10] := by
      rw [List.take_append, List.take_of_length_le (by omega)]
      simp
    have e2 : (a ++ 10 :: b).drop (a.length + 1) = b := by simp [List.drop_append]
    rw [e1, e2]
    rfl
theorem raw_end (s : By) (h : ¬ (s.takeWhile not10).length < s.length) (hs : s ≠ []) : rawL s = [s] := by
  have h1 : s.takeWhile not10 = s := (List.takeWhile_sublist not10).eq_of_length (by have := (List.takeWhile_sublist (p := not10) (l := s)).length_le; omega)
  have h2 := tw10 s
  rw [h1] at h2
  show rawGo [] s = _
  rw [rawGo_end s [] h2, if_neg (by simpa using hs)]
  rfl
theorem raw_nil : rawL [] = [] := rfl
theorem rawGo_len (s : By) : ∀ (now : By), ∀ x ∈ rawGo now s, x.length ≤ now.length + s.length := by
  induction s with
  | nil =>
    intro now x hx
    rw [rawGo] at hx
    split at hx
    · cases hx
    · simp at hx; subst hx; simp
  | cons c r ih =>
    intro now x hx
    rw [rawGo] at hx
    split at hx
    · rcases List.mem_cons.1 hx with rfl | hx
      · simp
      · have := ih [] x hx; simp at this ⊢; omega
    · have := ih _ x hx
      simp at this ⊢
      omega
theorem rawGo_cnt (s : By) : ∀ (now : By), (rawGo now s).length ≤ s.length + 1 := by
  induction s with
  | nil =>
    intro now
    rw [rawGo]
    split <;> simp
  | cons c r ih =>
    intro now
    rw [rawGo]
    split
    · have := ih []; simp; omega
    · have := ih (now ++ [c]); simp; omega
/-- The bare lines are the document's, but for an empty one at the end. -/
theorem bareN_end (now : By) : bareN (now ++ [10]) = bareOf (chopR now) := by
  have h1 : Lib.hasSuffix (now ++ [10]) [10] = true := by unfold Lib.hasSuffix; rw [List.isSuffixOf_iff_suffix]; exact List.suffix_append _ _
  have h2 : Lib.trimSuffix (now ++ [10]) [10] = now := by
    unfold Lib.trimSuffix
    rw [if_pos h1]
    simp
  unfold bareN
  rw [if_pos h1, h2]
theorem bareN_no (now : By) (h : ∀ c ∈ now, c ≠ 10) : bareN now = bareOf now := by
  unfold bareN
  rw [if_neg]
  unfold Lib.hasSuffix
  rw [List.isSuffixOf_iff_suffix]
  rintro ⟨q, hq⟩
  exact h 10 (by rw [← hq]; simp) rfl
def tailE (now s : By) : List By := if s = [] then (if now = [] then [[]] else []) else if s.getLast? = some 10 then [[]] else []
theorem lines_raw (s : By) : ∀ (now : By), (∀ c ∈ now, c ≠ 10) → ∃ E, (E = [] ∨ E = [[]]) ∧ (linesGo now s).map bareOf = (rawGo now s).map bareN ++ E := by
  induction s with
  | nil =>
    intro now h
    rw [linesGo, rawGo]
    by_cases hn : now = []
    · subst hn
      exact ⟨[[]], .inr rfl, rfl⟩
    · rw [if_neg hn]
      exact ⟨[], .inl rfl, by simp [bareN_no now h]⟩
  | cons c r ih =>
    intro now h
    rw [linesGo, rawGo]
    by_cases hc : c = 10
    · rw [if_pos hc, if_pos hc]
      obtain ⟨E, hE, e⟩ := ih [] (fun c hc => by cases hc)
      exact ⟨E, hE, by rw [List.map_cons, List.map_cons, e, bareN_end]; rfl⟩
    · rw [if_neg hc, if_neg hc]
      exact ih (now ++ [c]) (fun d hd => by
        rcases List.mem_append.1 hd with h1 | h1
        · exact h d h1
        · rw [List.mem_singleton.1 h1]; exact hc)
abbrev Cx := List Int × List Int
/-- What a file says: its cases, or the line and the refusal. -/
inductive PRes
  | ok (C : List Cx)
  | bad (line i : Nat)
def lnS (b : By) : Option Cx := rdS (b.length + 2) true b [] []
/-- What one line does. -/
def stepP (k : Nat) (C : List Cx) (b : By) : PRes :=
  if b = [] then .ok C else match lnS b with
    | none => .bad (k + 1) 1
    | some x => if x.1.all scalarP = true then (if C.length = 20000 then .bad (k + 1) 2 else .ok (C ++ [x])) else .bad (k + 1) 0
def parF (k : Nat) (C : List Cx) : List By → PRes
  | [] => .ok C
  | b :: r => match stepP k C b with
    | .ok C' => parF (k + 1) C' r
    | .bad l i => .bad l i
theorem parF_snoc (L : List By) (b : By) : ∀ (k : Nat) (C : List Cx), parF k C (L ++ [b]) = match parF k C L with | .ok C' => stepP (k + L.length) C' b | .bad l i => .bad l i := by
  induction L with
  | nil =>
    intro k C
    show (match stepP k C b with | .ok C' => parF (k + 1) C' [] | .bad l i => .bad l i) = stepP (k + 0) C b
    rw [Nat.add_zero]
    cases stepP k C b <;> rfl
  | cons a r ih =>
    intro k C
    rw [List.cons_append, parF, parF]
    cases stepP k C a with
    | ok C' =>
      show parF (k + 1) C' (r ++ [b]) = _
      rw [ih, List.length_cons, show k + 1 + r.length = k + (r.length + 1) by omega]
    | bad l i => rfl
theorem parF_app_bad (L M : List By) (l i : Nat) : ∀ (k : Nat) (C : List Cx), parF k C L = .bad l i → parF k C (L ++ M) = .bad l i := by
  induction L with
  | nil => intro k C h; cases h
  | cons a r ih =>
    intro k C h
    rw [List.cons_append, parF]
    rw [parF] at h
    cases hs : stepP k C a with
    | ok C' => rw [hs] at h; exact ih _ _ h
    | bad l' i' => rw [hs] at h; exact h
theorem stepP_nil (k : Nat) (C : List Cx) : stepP k C [] = .ok C := by unfold stepP; rw [if_pos rfl]
theorem parF_tail (L E : List By) (hE : E = [] ∨ E = [[]]) (k : Nat) (C : List Cx) : parF k C (L ++ E) = parF k C L := by
  rcases hE with rfl | rfl
  · rw [List.append_nil]
  · rw [parF_snoc]
    cases parF k C L with
    | ok C' => exact stepP_nil _ _
    | bad l i => rfl
/-- Both ways to the lines. -/
theorem parF_same (s : By) : parF 0 [] ((linesOf s).map bareOf) = parF 0 [] ((rawL s).map bareN) := by
  obtain ⟨E, hE, e⟩ := lines_raw s [] (fun c h => by cases h)
  show parF 0 [] ((linesGo [] s).map bareOf) = _
  rw [e, parF_tail _ _ hE]
  rfl
theorem stepP_len {k : Nat} {C C' : List Cx} {b : By} (h : stepP k C b = .ok C') (hC : C.length ≤ 20000) : C'.length ≤ 20000 := by
  unfold stepP at h
  split at h
  · injection h with h; subst h; exact hC
  · split at h
    · cases h
    · split at h
      · split at h
        · cases h
        · injection h with h; subst h; simp; omega
      · cases h
theorem parF_len (L : List By) : ∀ (k : Nat) (C C' : List Cx), parF k C L = .ok C' → C.length ≤ 20000 → C'.length ≤ 20000 := by
  induction L with
  | nil => intro k C C' h hC; injection h with h; subst h; exact hC
  | cons a r ih =>
    intro k C C' h hC
    rw [parF] at h
    cases hs : stepP k C a with
    | ok D => rw [hs] at h; exact ih _ _ _ h (stepP_len hs hC)
    | bad l i => rw [hs] at h; cases h
end Go.Proofs.YtcbepmjojppokaaGreatDoor
