/-
  The lines of a text with their numbers; lines taken one after another.
-/
import Derived.Test.YthdmhelgmejicaaGreatDoorPfFrM
import Derived.Test.YthdmhelgmejicaaGreatDoorPfCtW
namespace Go.Proofs.YthdmhelgmejicaaGreatDoor
open Go.RowKit Go.Shelf
/-- A line with its number. -/
structure Ln where
  num : Nat
  body : By
  short : body.length ≤ 1048576
def numL (k : Nat) : List By → List (Nat × By)
  | [] => []
  | b :: r => (k, b) :: numL (k + 1) r
theorem numL_length (k : Nat) (L : List By) : (numL k L).length = L.length := by
  induction L generalizing k with
  | nil => rfl
  | cons b r ih => rw [numL, List.length_cons, ih, List.length_cons]
theorem numL_snd (k : Nat) (L : List By) : (numL k L).map (·.2) = L := by
  induction L generalizing k with
  | nil => rfl
  | cons b r ih => rw [numL, List.map_cons, ih]
theorem numL_get (k : Nat) (L : List By) (i : Nat) (h : i < (numL k L).length) : (numL k L)[i].1 = k + i := by
  induction L generalizing k i with
  | nil => simp [numL] at h
  | cons b r ih =>
    cases i with
    | zero => rfl
    | succ i => simp only [numL, List.getElem_cons_succ]; rw [ih]; omega
def lnOf (x : Ln) : Nat × By := (x.num, x.body)
/-- Lines taken from a state on. -/
def foldL (s : PS) : List By → Option PS
  | [] => some s
  | b :: r => match lineStep s (bareOf b) with
    | .go s' => foldL s' r
    | .stop _ => none
theorem foldL_snoc (s s' : PS) (p : List By) (b : By) (h : foldL s p = some s') {s2 : PS} (h2 : lineStep s' (bareOf b) = .go s2) : foldL s (p ++ [b]) = some s2 := by
  induction p generalizing s with
  | nil =>
    simp only [foldL, Option.some.injEq] at h
    subst h
    simp only [List.nil_append, foldL, h2]
  | cons a r ih =>
    rw [List.cons_append, foldL]
    rw [foldL] at h
    cases hl : lineStep s (bareOf a) with
    | go s3 => rw [hl] at h; exact ih s3 h
    | stop i => rw [hl] at h; simp at h
theorem run_fold (s s' : PS) (p r : List By) (k : Nat) (h : foldL s p = some s') : linesRun s k (p ++ r) = linesRun s' (k + p.length) r := by
  induction p generalizing s k with
  | nil =>
    simp only [foldL, Option.some.injEq] at h
    subst h
    rfl
  | cons a q ih =>
    rw [List.cons_append, linesRun]
    rw [foldL] at h
    cases hl : lineStep s (bareOf a) with
    | go s3 =>
      rw [hl] at h
      simp only
      rw [ih s3 (k + 1) h, List.length_cons]
      congr 1
      omega
    | stop i => rw [hl] at h; simp at h
theorem fold_ok (s s' : PS) (p : List By) (h : foldL s p = some s') (hk : s.Ok) : s'.Ok := by
  induction p generalizing s with
  | nil => simp only [foldL, Option.some.injEq] at h; subst h; exact hk
  | cons a q ih =>
    rw [foldL] at h
    cases hl : lineStep s (bareOf a) with
    | go s3 => rw [hl] at h; exact ih s3 h (hk.step hl)
    | stop i => rw [hl] at h; simp at h
def ps0 : PS := ⟨[], [], []⟩
theorem ps0_ok : ps0.Ok := ⟨⟨fun t ht => by simp [ps0] at ht, List.Pairwise.nil⟩, fun t => Iff.rfl, fun t ht => by simp [ps0] at ht⟩
theorem all_fold (l : By) (ys : List Ln) (hy : ys.map lnOf = numL 1 (linesOf l)) (st : PS) (h : foldL ps0 (ys.map Ln.body) = some st) : parseL l = .ok st := by
  have e : ys.map Ln.body = linesOf l := by
    rw [← numL_snd 1 (linesOf l), ← hy, List.map_map]
    rfl
  rw [e] at h
  have := run_fold ps0 st (linesOf l) [] 0 h
  rw [List.append_nil] at this
  exact this
theorem stop_fold (l : By) (p : List Ln) (x : Ln) (hy : (p ++ [x]).map lnOf <+: numL 1 (linesOf l)) (st : PS) (h : foldL ps0 (p.map Ln.body) = some st) (i : Nat) (hs : lineStep st (bareOf x.body) = .stop i) : parseL l = .bad x.num i := by
  obtain ⟨r, hr⟩ := hy
  have e : p.map Ln.body ++ (x.body :: r.map (·.2)) = linesOf l := by
    rw [← numL_snd 1 (linesOf l), ← hr, List.map_append, List.map_append, List.map_append]
    simp [lnOf]
  have hn : x.num = 1 + p.length := by
    have hlt : p.length < (numL 1 (linesOf l)).length := by rw [← hr]; simp
    have h1 := numL_get 1 (linesOf l) p.length hlt
    have h2 : (numL 1 (linesOf l))[p.length] = lnOf x := by
      simp only [← hr]
      rw [List.getElem_append_left (by simp)]
      simp
    rw [h2] at h1
    exact h1
  have := run_fold ps0 st (p.map Ln.body) (x.body :: r.map (·.2)) 0 h
  rw [e] at this
  rw [parseL]
  rw [show (⟨[], [], []⟩ : PS) = ps0 from rfl, this, linesRun, hs, List.length_map, hn]
  simp only
  congr 1
  omega
/-- The lines by the first end of a line. -/
theorem ahead_no (c : UInt8) (l : By) : ∀ x ∈ aheadOf c l, x ≠ c := fun x hx => by
  induction l with
  | nil => simp [aheadOf] at hx
  | cons b r ih =>
    rw [aheadOf, List.takeWhile_cons] at hx
    split at hx
    · rename_i hb
      rcases List.mem_cons.1 hx with rfl | hx
      · simpa using hb
      · exact ih hx
    · simp at hx
theorem ahead_behind (c : UInt8) (l : By) (h : c ∈ l) : aheadOf c l ++ c :: behindOf c l = l := by
  induction l with
  | nil => simp at h
  | cons b r ih =>
    by_cases hb : b = c
    · subst hb
      simp [aheadOf, behindOf]
    · have h1 : aheadOf c (b :: r) = b :: aheadOf c r := by
        rw [aheadOf, List.takeWhile_cons, if_pos (by simpa using hb)]; rfl
      have h2 : behindOf c (b :: r) = behindOf c r := by
        rw [behindOf, h1, behindOf]; simp
      rw [h1, h2, List.cons_append, ih (by rcases List.mem_cons.1 h with h | h; exact absurd h.symm hb; exact h)]
theorem ahead_none (c : UInt8) (l : By) (h : ¬ c ∈ l) : aheadOf c l = l := by
  induction l with
  | nil => rfl
  | cons b r ih =>
    have hb : ¬ b = c := fun e => h (by rw [e]; exact .head _)
    have h1 : aheadOf c (b :: r) = b :: aheadOf c r := by
      rw [aheadOf, List.takeWhile_cons, if_pos (by simpa using hb)]; rfl
    rw [h1, ih (fun hm => h (.tail _ hm))]
theorem lines_in (l : By) (h : (10 : UInt8) ∈ l) : linesOf l = chopR (aheadOf 10 l) :: linesOf (behindOf 10 l) := by
  have := linesGo_cut (aheadOf 10 l) (behindOf 10 l) [] (ahead_no 10 l)
  rw [ahead_behind 10 l h] at this
  exact this
theorem lines_out (l : By) (h : ¬ (10 : UInt8) ∈ l) : linesOf l = [l] := by
  have := linesGo_none l [] (fun c hc e => h (e ▸ hc))
  exact this
theorem behind_len (c : UInt8) (l : By) (h : c ∈ l) : (behindOf c l).length < l.length := by
  have := congrArg List.length (ahead_behind c l h)
  simp at this
  omega
theorem ahead_len (c : UInt8) (l : By) : (aheadOf c l).length ≤ l.length := (List.takeWhile_sublist _).length_le
end Go.Proofs.YthdmhelgmejicaaGreatDoor
