/-
  The short file of cases, and its pieces (stage 23).
-/
import Derived.Test.YtcbepmjojppokaaGreatDoorTpDW
namespace Go.Proofs.YtcbepmjojppokaaGreatDoor.Tp
open Go.RowKit Go.Shelf
abbrev Cs := List Int × List Int
/-- The case at a place. -/
def cP (C : List Cs) (i : Nat) : List Int := (C.getD i ([], [])).1
def cB (C : List Cs) (i : Nat) : List Int := (C.getD i ([], [])).2
theorem cP_at {C : List Cs} {i : Nat} (h : i < C.length) : cP C i = C[i].1 := by unfold cP; rw [List.getD_eq_getElem?_getD, List.getElem?_eq_getElem h]; rfl
theorem cB_at {C : List Cs} {i : Nat} (h : i < C.length) : cB C i = C[i].2 := by unfold cB; rw [List.getD_eq_getElem?_getD, List.getElem?_eq_getElem h]; rfl
/-- What stands between two lines. -/
def sep (i : Nat) : List UInt8 := if i = 0 then [] else [10]
/-- The text of the first cases. -/
def jn (C : List Cs) : Nat → List UInt8
  | 0 => []
  | i + 1 => jn C i ++ sep i ++ shF (cP C i) (cB C i) (cP C i).length
theorem shF_len (P B : List Int) (i : Nat) : (shF P B i).length ≤ 10 * i + 2 := by
  have h := pre_len P B i
  rw [sh_pre, List.length_append, mkF_len]
  omega
theorem sep_len (i : Nat) : (sep i).length ≤ 1 := by unfold sep; split <;> simp
theorem jn_len (C : List Cs) (m : Nat) (hm : ∀ x ∈ C, x.1.length ≤ m) : ∀ i, (jn C i).length ≤ i * (10 * m + 3)
  | 0 => by simp [jn]
  | i + 1 => by
    have h1 := jn_len C m hm i
    have h2 := shF_len (cP C i) (cB C i) (cP C i).length
    have h3 := sep_len i
    have h4 : (cP C i).length ≤ m := by
      by_cases hi : i < C.length
      · rw [cP_at hi]; exact hm _ (List.getElem_mem hi)
      · unfold cP
        rw [List.getD_eq_getElem?_getD, List.getElem?_eq_none (by omega)]
        exact Nat.zero_le _
    rw [jn]
    simp only [List.length_append]
    rw [Nat.add_mul]
    omega
/-- May all be so? -/
def okC (C : List Cs) : Bool := C.all fun x => mayC x.1 x.2
/-- What Print says: the error's number, the text. -/
def sayN (C : List Cs) : Nat := if 20000 < C.length then 3 else if okC C = false then 1 else if 1048576 < (jn C C.length).length then 3 else 0
def sayT (C : List Cs) : List UInt8 := if sayN C = 0 then jn C C.length else []
theorem say_many {C : List Cs} (h : 20000 < C.length) : sayN C = 3 ∧ sayT C = [] := by
  have : sayN C = 3 := by unfold sayN; rw [if_pos h]
  exact ⟨this, by unfold sayT; rw [this]; rfl⟩
theorem say_arg {C : List Cs} (h : ¬ 20000 < C.length) (h2 : okC C = false) : sayN C = 1 ∧ sayT C = [] := by
  have : sayN C = 1 := by unfold sayN; rw [if_neg h, if_pos h2]
  exact ⟨this, by unfold sayT; rw [this]; rfl⟩
theorem say_long {C : List Cs} (h : ¬ 20000 < C.length) (h2 : okC C = true) (h3 : 1048576 < (jn C C.length).length) : sayN C = 3 ∧ sayT C = [] := by
  have : sayN C = 3 := by unfold sayN; rw [if_neg h, if_neg (by rw [h2]; simp), if_pos h3]
  exact ⟨this, by unfold sayT; rw [this]; rfl⟩
theorem say_fine {C : List Cs} (h : ¬ 20000 < C.length) (h2 : okC C = true) (h3 : ¬ 1048576 < (jn C C.length).length) : sayN C = 0 ∧ sayT C = jn C C.length := by
  have : sayN C = 0 := by unfold sayN; rw [if_neg h, if_neg (by rw [h2]; simp), if_neg h3]
  exact ⟨this, by unfold sayT; rw [this]; rfl⟩
theorem okC_at {C : List Cs} (h : okC C = true) (i : Nat) (hi : i < C.length) : mayC C[i].1 C[i].2 = true := List.all_eq_true.1 h _ (List.getElem_mem hi)
theorem okC_no {C : List Cs} (i : Nat) (hi : i < C.length) (h : mayC C[i].1 C[i].2 = false) : okC C = false := by
  unfold okC
  rw [List.all_eq_false]
  exact ⟨_, List.getElem_mem hi, by rw [h]; simp⟩
theorem okC_all {C : List Cs} (h : ∀ i (hi : i < C.length), mayC C[i].1 C[i].2 = true) : okC C = true := by
  unfold okC
  rw [List.all_eq_true]
  intro x hx
  obtain ⟨i, hi, rfl⟩ := List.getElem_of_mem hx
  exact h i hi
/-- The pieces of a case. -/
def casP (P B : List Int) : Nat → List (List UInt8)
  | 0 => [mkF B 0]
  | j + 1 => casP P B j ++ [[32] ++ hx (P.getD j 0).toNat ++ [32] ++ mkF B (j + 1)]
def sepP (i : Nat) : List (List UInt8) := if i = 0 then [] else [[10]]
/-- The pieces of the first cases. -/
def pcs (C : List Cs) : Nat → List (List UInt8)
  | 0 => []
  | i + 1 => pcs C i ++ sepP i ++ casP (cP C i) (cB C i) (cP C i).length
theorem casP_flat (P B : List Int) : ∀ j, (casP P B j).flatten = shF P B j
  | 0 => by simp [casP, shF]
  | j + 1 => by rw [casP, List.flatten_append, casP_flat P B j, shF]; simp [List.append_assoc]
theorem sepP_flat (i : Nat) : (sepP i).flatten = sep i := by unfold sepP sep; split <;> rfl
theorem pcs_flat (C : List Cs) : ∀ i, (pcs C i).flatten = jn C i
  | 0 => rfl
  | i + 1 => by rw [pcs, List.flatten_append, List.flatten_append, pcs_flat C i, sepP_flat, casP_flat, jn]
theorem pcs_pre (C : List Cs) (i : Nat) : ∀ n, i ≤ n → ∃ r, pcs C i ++ r = pcs C n
  | 0, h => ⟨[], by rw [List.append_nil, Nat.le_zero.1 h]⟩
  | n + 1, h => by
    by_cases e : i = n + 1
    · exact ⟨[], by rw [List.append_nil, e]⟩
    · obtain ⟨r, hr⟩ := pcs_pre C i n (by omega)
      exact ⟨r ++ (sepP n ++ casP (cP C n) (cB C n) (cP C n).length), by rw [← List.append_assoc, hr, pcs, List.append_assoc]⟩
theorem casP_pre (P B : List Int) (i : Nat) : ∀ n, i ≤ n → ∃ r, casP P B i ++ r = casP P B n
  | 0, h => ⟨[], by rw [List.append_nil, Nat.le_zero.1 h]⟩
  | n + 1, h => by
    by_cases e : i = n + 1
    · exact ⟨[], by rw [List.append_nil, e]⟩
    · obtain ⟨r, hr⟩ := casP_pre P B i n (by omega)
      exact ⟨r ++ [[32] ++ hx (P.getD n 0).toNat ++ [32] ++ mkF B (n + 1)], by rw [← List.append_assoc, hr, casP]⟩
/-- The pieces while the case at i is told, j of its points behind its first mark. -/
def pcJ (C : List Cs) (i j : Nat) : List (List UInt8) := pcs C i ++ sepP i ++ casP (cP C i) (cB C i) j
theorem pcJ_end (C : List Cs) (i : Nat) : pcJ C i (cP C i).length = pcs C (i + 1) := rfl
theorem pcJ_pre {C : List Cs} {i j : Nat} (hi : i < C.length) (hj : j ≤ (cP C i).length) : ∃ r, pcJ C i j ++ r = pcs C C.length := by
  obtain ⟨r1, h1⟩ := casP_pre (cP C i) (cB C i) j _ hj
  obtain ⟨r2, h2⟩ := pcs_pre C (i + 1) C.length hi
  exact ⟨r1 ++ r2, by rw [← h2, pcs, ← h1, pcJ]; simp [List.append_assoc]⟩
/-- The next piece. -/
theorem pc_sep {C : List Cs} {i : Nat} (hi : i < C.length) (h0 : 0 < i) : (∃ r, pcs C i ++ [10] :: r = pcs C C.length) ∧ pcs C i ++ sepP i = pcs C i ++ [[10]] := by
  have e : sepP i = [[10]] := by unfold sepP; rw [if_neg (by omega)]
  obtain ⟨r, h⟩ := pcJ_pre (j := 0) hi (Nat.zero_le _)
  refine ⟨⟨casP (cP C i) (cB C i) 0 ++ r, ?_⟩, by rw [e]⟩
  rw [← h, pcJ, e]
  simp [List.append_assoc]
theorem pc_mark {C : List Cs} {i : Nat} (hi : i < C.length) : (∃ r, (pcs C i ++ sepP i) ++ mkF (cB C i) 0 :: r = pcs C C.length) ∧ (pcs C i ++ sepP i) ++ [mkF (cB C i) 0] = pcJ C i 0 := by
  obtain ⟨r, h⟩ := pcJ_pre (j := 0) hi (Nat.zero_le _)
  exact ⟨⟨r, by rw [← h, pcJ, casP]; simp [List.append_assoc]⟩, rfl⟩
theorem pc_point {C : List Cs} {i j : Nat} (hi : i < C.length) (hj : j < (cP C i).length) : (∃ r, pcJ C i j ++ ([32] ++ hx ((cP C i).getD j 0).toNat ++ [32] ++ mkF (cB C i) (j + 1)) :: r = pcs C C.length) ∧ pcJ C i j ++ [[32] ++ hx ((cP C i).getD j 0).toNat ++ [32] ++ mkF (cB C i) (j + 1)] = pcJ C i (j + 1) := by
  obtain ⟨r, h⟩ := pcJ_pre (j := j + 1) hi hj
  exact ⟨⟨r, by rw [← h, pcJ, pcJ, casP]; simp [List.append_assoc]⟩, by rw [pcJ, pcJ, casP]; simp [List.append_assoc]⟩
/-- No more than the limit yet. -/
def okP (pre : List (List UInt8)) : Bool := decide (pre.flatten.length ≤ 1048576)
theorem okP_step (pre : List (List UInt8)) (x : List UInt8) : okP (pre ++ [x]) = decide (pre.flatten.length + x.length ≤ 1048576) := by unfold okP; simp
theorem okP_long {C : List Cs} {pre : List (List UInt8)} (h : okP pre = false) (hp : ∃ r, pre ++ r = pcs C C.length) : 1048576 < (jn C C.length).length := by
  obtain ⟨r, hr⟩ := hp
  have h1 : ¬ pre.flatten.length ≤ 1048576 := of_decide_eq_false h
  rw [← pcs_flat, ← hr, List.flatten_append, List.length_append]
  omega
end Go.Proofs.YtcbepmjojppokaaGreatDoor.Tp
