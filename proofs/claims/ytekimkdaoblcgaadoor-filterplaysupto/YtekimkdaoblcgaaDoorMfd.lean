/-
  PrM, PrNM, FiM, ShelfQ, PrAW, FiAW, MrCW, MrDW, MrGW, MrFW, MrHW, PrBM, FiBM, FiCW, PrDM.
-/
import Derived.Test.YtekimkdaoblcgaaDoorMfa
import Derived.Test.YtekimkdaoblcgaaDoorMfb
import Derived.Shelf.Slices.SearchI
import Derived.Shelf.Slices.Empties
import Derived.Ground.Names2Prog
import Derived.Test.YtekimkdaoblcgaaDoorProg
import Derived.Laws.MakeOwn
import Derived.Maps.OwnSet
import Derived.Maps.OwnOps
import Derived.DeepKeys4
namespace Go.Proofs.YtekimkdaoblcgaaDoor
/-- The least of both; -1: none. -/
def lstF (a b : List Int) : Int := (a.find? fun x => b.contains x).getD (-1)
theorem lstF_nil (b : List Int) : lstF [] b = -1 := rfl
theorem lstF_nil2 (a : List Int) : lstF a [] = -1 := by
  unfold lstF
  have : a.find? (fun x => ([] : List Int).contains x) = none := List.find?_eq_none.2 (fun x _ => by simp)
  rw [this]
  rfl
theorem lstF_head {a b : List Int} {x : Int} (hb : x ∈ b) : lstF (x :: a) b = x := by
  unfold lstF
  rw [List.find?_cons_of_pos (by simpa using hb)]
  rfl
theorem lstF_skip {a b : List Int} {x : Int} (hb : x ∉ b) : lstF (x :: a) b = lstF a b := by
  unfold lstF
  rw [List.find?_cons_of_neg (by simpa using hb)]
/-- What is not in the other list may be left out. -/
theorem lstF_drop (b : List Int) : ∀ (k : Nat) (a : List Int), (∀ z ∈ a.take k, z ∉ b) → lstF (a.drop k) b = lstF a b
  | 0, a, _ => rfl
  | k + 1, [], _ => rfl
  | k + 1, x :: a, h => by
    rw [List.drop_succ_cons, lstF_drop b k a (fun z hz => h z (by rw [List.take_succ_cons]; exact .tail _ hz)), lstF_skip (h x (by rw [List.take_succ_cons]; exact .head _))]
theorem lstF_congr {a b c : List Int} (h : ∀ x ∈ a, x ∈ b ↔ x ∈ c) : lstF a b = lstF a c := by
  induction a with
  | nil => rfl
  | cons x a ih =>
    have ih' := ih (fun y hy => h y (.tail _ hy))
    by_cases hb : x ∈ b
    · rw [lstF_head hb, lstF_head ((h x (.head _)).1 hb)]
    · rw [lstF_skip hb, lstF_skip (fun q => hb ((h x (.head _)).2 q)), ih']
theorem lstF_drop2 (a b : List Int) (k : Nat) (h : ∀ z ∈ b.take k, z ∉ a) : lstF a (b.drop k) = lstF a b := lstF_congr (fun x hx => by
  constructor
  · exact fun q => List.mem_of_mem_drop q
  · intro q
    rw [← List.take_append_drop k b] at q
    rcases List.mem_append.1 q with q | q
    · exact absurd hx (h x q)
    · exact q)
def Rs (l : List Int) : Prop := l.Pairwise (· < ·)
theorem riseF_rs {cnt : Int} : ∀ (l : List Int) (lo : Int), riseF cnt lo l = true → Rs l ∧ ∀ z ∈ l, lo ≤ z ∧ z < cnt
  | [], _, _ => ⟨List.Pairwise.nil, fun z hz => (by cases hz)⟩
  | z :: l, lo, h => by
    rw [riseF] at h
    simp only [Bool.and_eq_true, decide_eq_true_eq] at h
    obtain ⟨⟨h1, h2⟩, h3⟩ := h
    obtain ⟨h4, h5⟩ := riseF_rs l (z + 1) h3
    refine ⟨List.Pairwise.cons (fun y hy => by have := h5 y hy; omega) h4, fun y hy => ?_⟩
    rcases List.mem_cons.1 hy with rfl | hy
    · exact ⟨h1, h2⟩
    · have := h5 y hy; omega
theorem Rs.drop {l : List Int} (h : Rs l) (k : Nat) : Rs (l.drop k) := List.Pairwise.sublist (List.drop_sublist k l) h
/-- How many are below. -/
def blw (l : List Int) (x : Int) : Nat := l.countP (· < x)
theorem blw_le (l : List Int) (x : Int) : blw l x ≤ l.length := List.countP_le_length
theorem blw_take : ∀ {l : List Int} (x : Int), Rs l → (∀ z ∈ l.take (blw l x), z < x) ∧ ∀ z ∈ l.drop (blw l x), x ≤ z
  | [], x, _ => ⟨fun z hz => (by simp at hz), fun z hz => (by simp at hz)⟩
  | y :: l, x, h => by
    obtain ⟨h1, h2⟩ := List.pairwise_cons.1 h
    obtain ⟨i1, i2⟩ := blw_take x h2
    by_cases hy : y < x
    · have e : blw (y :: l) x = blw l x + 1 := by unfold blw; rw [List.countP_cons_of_pos (by simpa using hy)]
      rw [e]
      refine ⟨fun z hz => ?_, fun z hz => i2 z (by rw [List.drop_succ_cons] at hz; exact hz)⟩
      rw [List.take_succ_cons] at hz
      rcases List.mem_cons.1 hz with rfl | hz
      · exact hy
      · exact i1 z hz
    · have e : blw (y :: l) x = 0 := by
        unfold blw
        rw [List.countP_eq_zero]
        intro z hz
        rcases List.mem_cons.1 hz with rfl | hz
        · simpa using hy
        · have := h1 z hz; simp; omega
      rw [e]
      refine ⟨fun z hz => (by simp at hz), fun z hz => ?_⟩
      rw [List.drop_zero] at hz
      rcases List.mem_cons.1 hz with rfl | hz
      · omega
      · have := h1 z hz; omega
/-- Of a beginning behind which nothing is below. -/
theorem blw_part {l : List Int} {x : Int} {m : Nat} (h : ∀ z ∈ l.drop m, ¬ z < x) : blw (l.take m) x = blw l x := by
  unfold blw
  have h2 : (l.take m ++ l.drop m).countP (· < x) = (l.take m).countP (· < x) + (l.drop m).countP (· < x) := List.countP_append
  rw [List.take_append_drop] at h2
  have h3 : (l.drop m).countP (· < x) = 0 := List.countP_eq_zero.2 (fun z hz => by simpa using h z hz)
  omega
/-- Both without what is below the greater of their firsts. -/
theorem lstF_low {x y : Int} {a b : List Int} (ha : Rs (x :: a)) (hb : Rs (y :: b)) : lstF ((x :: a).drop (blw (x :: a) (max x y))) ((y :: b).drop (blw (y :: b) (max x y))) = lstF (x :: a) (y :: b) := by
  obtain ⟨a1, a2⟩ := blw_take (max x y) ha
  obtain ⟨b1, b2⟩ := blw_take (max x y) hb
  have hx : ∀ z ∈ x :: a, x ≤ z := fun z hz => by
    rcases List.mem_cons.1 hz with rfl | hz
    · exact Int.le_refl _
    · have := (List.pairwise_cons.1 ha).1 z hz; omega
  have hy : ∀ z ∈ y :: b, y ≤ z := fun z hz => by
    rcases List.mem_cons.1 hz with rfl | hz
    · exact Int.le_refl _
    · have := (List.pairwise_cons.1 hb).1 z hz; omega
  rw [lstF_drop2, lstF_drop]
  · intro z hz hzb
    have h1 := a1 z hz
    have h2 := hx z (List.mem_of_mem_take hz)
    have h3 := hy z hzb
    rcases Int.le_total x y with h | h
    · rw [Int.max_eq_right h] at h1; omega
    · rw [Int.max_eq_left h] at h1; omega
  · intro z hz hza
    have h1 := b1 z hz
    have h2 := hy z (List.mem_of_mem_take hz)
    have h3 := a2 z hza
    omega
theorem blw_pos {x y : Int} {a b : List Int} (h : x ≠ y) : 0 < blw (x :: a) (max x y) ∨ 0 < blw (y :: b) (max x y) := by
  unfold blw
  rcases Int.lt_or_gt_of_ne h with h | h
  · left
    rw [Int.max_eq_right (by omega), List.countP_cons_of_pos (by simpa using h)]
    omega
  · right
    rw [Int.max_eq_left (by omega), List.countP_cons_of_pos (by simpa using h)]
    omega
end Go.Proofs.YtekimkdaoblcgaaDoor
namespace Go.Proofs.YtekimkdaoblcgaaDoor
/-- The symbols of a pairing. -/
def symF (N : List (List Int)) : Nat := (N.getD 0 []).length
def chkP (sl : Int) (N O : List (List Int)) (sr : Int) (N' O' : List (List Int)) (nb : Nat) (sy : Int) : Bool := chkF sl N O sy (nb : Int) && chkF sr N' O' sy (nb : Int)
def okD (sl : Int) (N O : List (List Int)) (sr : Int) (N' O' : List (List Int)) (nb : Nat) (l : List Int) : Bool := chkP sl N O sr N' O' nb (symF N : Int) && l.all (oneOf (symF N))
/-- The next state. -/
def nxS (N : List (List Int)) (s : Nat) (z : Int) : Nat := ((N.getD s []).getD z.toNat 0).toNat
/-- The state behind so many symbols. -/
def stK (N : List (List Int)) (s : Nat) (l : List Int) : Nat → Nat
  | 0 => s
  | k + 1 => nxS N (stK N s l k) (l.getD k 0)
/-- The number at a place. -/
def decK (sl : Int) (N O : List (List Int)) (sr : Int) (N' O' : List (List Int)) (l : List Int) (k : Nat) : Int := lstF (O.getD (stK N sl.toNat l (k + 1)) []) (O'.getD (stK N' sr.toNat l.reverse (l.length - 1 - k)) [])
def decF (sl : Int) (N O : List (List Int)) (sr : Int) (N' O' : List (List Int)) (l : List Int) : List Int := (List.range (l.length - 1)).map (decK sl N O sr N' O' l)
def sayF (B : List Bool) (el : Bool) (d : Int) : Bool := if d < 0 then el else B.getD d.toNat false
/-- The places of boundaries among the first so many. -/
def brkK (D : List Int) (B : List Bool) (el : Bool) (k : Nat) : List Int := ((List.range k).filter fun j => sayF B el (D.getD j 0)).map fun (j : Nat) => (j : Int) + 1
def brkF (D : List Int) (B : List Bool) (el : Bool) (n : Nat) : List Int := if n = 0 then [] else 0 :: (brkK D B el D.length ++ [(n : Int)])
theorem brkK_step (D : List Int) (B : List Bool) (el : Bool) (k : Nat) : brkK D B el (k + 1) = brkK D B el k ++ (if sayF B el (D.getD k 0) then [(k : Int) + 1] else []) := by
  unfold brkK
  rw [List.range_succ, List.filter_append, List.map_append]
  congr 1
  rw [List.filter_cons, List.filter_nil]
  cases sayF B el (D.getD k 0) <;> rfl
theorem brkK_len (D : List Int) (B : List Bool) (el : Bool) (k : Nat) : (brkK D B el k).length ≤ k := by
  unfold brkK
  rw [List.length_map]
  have := List.length_filter_le (fun j => sayF B el (D.getD j 0)) (List.range k)
  rw [List.length_range] at this
  exact this
/-- What a check that passes gives. -/
structure Fine (st : Int) (N O : List (List Int)) (sy : Nat) (nb : Nat) : Prop where
  start : 0 ≤ st ∧ st < (N.length : Int)
  out : O.length = N.length
  row : ∀ j, j < N.length → (N.getD j []).length = sy
  num : ∀ j, j < N.length → ∀ z ∈ N.getD j [], 0 ≤ z ∧ z < (N.length : Int)
  rise : ∀ j, j < N.length → Rs (O.getD j []) ∧ ∀ z ∈ O.getD j [], 0 ≤ z ∧ z < (nb : Int)
theorem fine_of {st : Int} {N O : List (List Int)} {sy nb : Nat} (h : chkF st N O (sy : Int) (nb : Int) = true) : Fine st N O sy nb := by
  unfold chkF at h
  simp only [Bool.and_eq_true, decide_eq_true_eq, List.all_eq_true, List.mem_range] at h
  obtain ⟨⟨⟨_, _, _, _, _, h6, _⟩, h8⟩, h9⟩ := h
  have key : ∀ j, j < N.length → ((N.getD j []).length = sy ∧ (N.getD j []).all (oneOf N.length) = true) ∧ riseF (nb : Int) 0 (O.getD j []) = true := fun j hj => by
    have h := h9 j hj
    unfold rowF at h
    simp only [Bool.and_eq_true, decide_eq_true_eq] at h
    exact ⟨⟨by omega, h.1.2⟩, h.2⟩
  refine ⟨(oneOf_iff _ _).1 h8, h6, fun j hj => (key j hj).1.1, fun j hj z hz => (oneOf_iff _ _).1 (List.all_eq_true.1 (key j hj).1.2 z hz), fun j hj => riseF_rs _ _ (key j hj).2⟩
theorem Fine.next {st : Int} {N O : List (List Int)} {sy nb s : Nat} {z : Int} (h : Fine st N O sy nb) (hs : s < N.length) (hz : 0 ≤ z ∧ z < (sy : Int)) : nxS N s z < N.length ∧ (N.getD s []).getD z.toNat 0 = (nxS N s z : Int) := by
  have hl := h.row s hs
  have hm : (N.getD s []).getD z.toNat 0 ∈ N.getD s [] := by
    rw [List.getD_eq_getElem?_getD (l := N.getD s []), List.getElem?_eq_getElem (by omega)]
    exact List.getElem_mem _
  have := h.num s hs _ hm
  unfold nxS
  omega
theorem Fine.st {st : Int} {N O : List (List Int)} {sy nb : Nat} {l : List Int} (h : Fine st N O sy nb) (hl : ∀ z ∈ l, 0 ≤ z ∧ z < (sy : Int)) : ∀ k, k ≤ l.length → stK N st.toNat l k < N.length
  | 0, _ => by have := h.start; show st.toNat < _; omega
  | k + 1, hk => by
    have ih := h.st hl k (by omega)
    have hm : l.getD k 0 ∈ l := by rw [List.getD_eq_getElem?_getD, List.getElem?_eq_getElem (by omega)]; exact List.getElem_mem _
    exact (h.next ih (hl _ hm)).1
/-- A run that is not refused. -/
theorem Fine.run {st : Int} {N O : List (List Int)} {sy nb : Nat} {l : List Int} (h : Fine st N O sy nb) (hl : ∀ z ∈ l, 0 ≤ z ∧ z < (sy : Int)) : runF N st l = some ((List.range (l.length + 1)).map fun k => (stK N st.toNat l k : Int)) := by
  have hst := h.start
  have step : ∀ k, k < l.length → stepF N (stK N st.toNat l k) (l.getD k 0) = some (stK N st.toNat l (k + 1)) := fun k hk => by
    have hs := h.st hl k (by omega)
    have hm : l.getD k 0 ∈ l := by rw [List.getD_eq_getElem?_getD, List.getElem?_eq_getElem (by omega)]; exact List.getElem_mem _
    have hz := hl _ hm
    obtain ⟨n1, n2⟩ := h.next hs hz
    unfold stepF
    rw [if_pos (by rw [h.row _ hs]; exact hz), n2, if_pos ((oneOf_iff _ _).2 ⟨by omega, by omega⟩), Int.toNat_natCast]
    rfl
  have key : ∀ d k, k + d = l.length → goF N ((List.range (k + 1)).map fun j => (stK N st.toNat l j : Int)) (stK N st.toNat l k) (l.drop k) = some ((List.range (l.length + 1)).map fun j => (stK N st.toNat l j : Int)) := by
    intro d
    induction d with
    | zero =>
      intro k hk
      rw [List.drop_of_length_le (by omega), goF]
      have : k = l.length := by omega
      rw [this]
    | succ d ih =>
      intro k hk
      have hkl : k < l.length := by omega
      have hg : l.getD k 0 = l[k] := by rw [List.getD_eq_getElem?_getD, List.getElem?_eq_getElem hkl]; rfl
      rw [goF_drop hkl, ← hg, step k hkl]
      have := ih (k + 1) (by omega)
      rw [List.range_succ, List.map_append] at this
      exact this
  unfold runF
  rw [if_pos ((oneOf_iff _ _).2 hst)]
  have := key l.length 0 (by omega)
  rw [List.drop_zero] at this
  have e : ((List.range (0 + 1)).map fun j => (stK N st.toNat l j : Int)) = [st] := by
    show [((stK N st.toNat l 0 : Nat) : Int)] = [st]
    unfold stK
    congr 1
    omega
  rw [e] at this
  exact this
theorem lstF_mem {a b : List Int} (h : ¬ lstF a b = -1) : lstF a b ∈ a := by
  unfold lstF at *
  cases e : a.find? (fun x => b.contains x) with
  | none => rw [e] at h; exact absurd rfl h
  | some x => exact List.mem_of_find?_eq_some e
end Go.Proofs.YtekimkdaoblcgaaDoor
namespace Go.Proofs.YtekimkdaoblcgaaDoor
open Go.RowKit Go.Shelf Go.Lib Go.Maps
/-- Does each stand above the one ahead of it? -/
def risK (sy : Int) : Int → List Int → Bool
  | _, [] => true
  | a, x :: r => if x ≤ a ∨ x ≥ sy then false else risK sy x r
theorem risK_rise {sy : Int} : ∀ {a : Int} {l : List Int}, risK sy a l = true → (∀ x ∈ l, a < x ∧ x < sy) ∧ l.Pairwise (· < ·)
  | _, [], _ => ⟨(fun _ h => nomatch h), List.Pairwise.nil⟩
  | a, x :: r, h => by
    rw [risK] at h
    split at h
    · cases h
    · rename_i hn
      obtain ⟨h1, h2⟩ := risK_rise h
      refine ⟨fun y hy => ?_, List.Pairwise.cons (fun y hy => (h1 y hy).1) h2⟩
      rcases List.mem_cons.1 hy with rfl | hy
      · omega
      · have := h1 y hy; omega
/-- The last place that is reached from a place on over units of trail. -/
def trl (tr word : List Int) (p : Nat) : Nat := p + ((word.drop p).takeWhile fun x => decide (x ∈ tr)).length
section
variable {tr word : List Int} {p q : Nat}
theorem trl_ge (tr word : List Int) (p : Nat) : p ≤ trl tr word p := Nat.le_add_right _ _
theorem trl_le (h : p ≤ word.length) : trl tr word p ≤ word.length := by
  unfold trl
  have := (List.takeWhile_sublist (l := word.drop p) (fun x => decide (x ∈ tr))).length_le
  rw [List.length_drop] at this
  omega
theorem trl_in (h : p < word.length) (hx : word[p] ∈ tr) : trl tr word p = trl tr word (p + 1) := by
  unfold trl
  rw [List.drop_eq_getElem_cons h, List.takeWhile_cons, if_pos (by simpa using hx), List.length_cons]
  omega
theorem trl_out (h : p < word.length) (hx : word[p] ∉ tr) : trl tr word p = p := by
  unfold trl
  rw [List.drop_eq_getElem_cons h, List.takeWhile_cons, if_neg (by simpa using hx)]
  rfl
theorem trl_end (h : word.length ≤ p) : trl tr word p = p := by
  unfold trl
  rw [List.drop_of_length_le h]
  rfl
theorem trl_same : ∀ (d p : Nat), p + d ≤ trl tr word p → trl tr word (p + d) = trl tr word p
  | 0, _, _ => rfl
  | d + 1, p, h => by
    by_cases hp : p < word.length
    · by_cases hx : word[p] ∈ tr
      · rw [trl_in hp hx] at h ⊢
        rw [show p + (d + 1) = p + 1 + d by omega] at h ⊢
        exact trl_same d (p + 1) h
      · rw [trl_out hp hx] at h; omega
    · rw [trl_end (by omega)] at h; omega
theorem trl_max (h : p ≤ q) : trl tr word (max (trl tr word p) q) = trl tr word q := by
  by_cases hq : q ≤ trl tr word p
  · have h1 := trl_same (tr := tr) (word := word) (q - p) p (by omega)
    rw [show p + (q - p) = q by omega] at h1
    have h2 := trl_same (tr := tr) (word := word) (trl tr word p - p) p (by have := trl_ge tr word p; omega)
    rw [show p + (trl tr word p - p) = trl tr word p by have := trl_ge tr word p; omega] at h2
    rw [Nat.max_eq_left hq, h2, h1]
  · rw [Nat.max_eq_right (by omega)]
end
/-- How many of what was found stand in the way of a place: (start, last place). -/
abbrev Sp := Nat × Nat
def cntW (F : List Sp) (i : Nat) : Nat := (F.filter fun f => decide (f.1 < i) && decide (i ≤ f.2)).length
/-- How many more than at the place ahead. -/
def chW : List Sp → Nat → Int
  | [], _ => 0
  | f :: r, i => (if f.1 + 1 = i then 1 else 0) - (if f.2 + 1 = i then 1 else 0) + chW r i
theorem cntW_step (F : List Sp) (h : ∀ f ∈ F, f.1 < f.2) (i : Nat) : (cntW F (i + 1) : Int) = (cntW F i : Int) + chW F (i + 1) := by
  induction F with
  | nil => rfl
  | cons f r ih =>
    have h1 := ih (fun g hg => h g (.tail _ hg))
    have h2 := h f (.head _)
    have e : ∀ i, (cntW (f :: r) i : Int) = (if f.1 < i ∧ i ≤ f.2 then 1 else 0) + (cntW r i : Int) := fun i => by
      unfold cntW
      rw [List.filter_cons]
      by_cases hq : f.1 < i ∧ i ≤ f.2
      · rw [if_pos (by simpa using hq), if_pos hq, List.length_cons]; omega
      · rw [if_neg (by simpa using hq), if_neg hq]; omega
    rw [e, e, h1]
    show _ = _ + ((if f.1 + 1 = i + 1 then 1 else 0) - (if f.2 + 1 = i + 1 then 1 else 0) + chW r (i + 1))
    have e1 : (if f.1 < i + 1 ∧ i + 1 ≤ f.2 then (1 : Int) else 0) = (if f.1 < i ∧ i ≤ f.2 then 1 else 0) + ((if f.1 + 1 = i + 1 then 1 else 0) - (if f.2 + 1 = i + 1 then 1 else 0)) := by
      split <;> split <;> split <;> split <;> omega
    rw [e1]
    omega
theorem cntW_zero (F : List Sp) : cntW F 0 = 0 := by
  unfold cntW
  rw [List.filter_eq_nil_iff.2 (fun f _ => by simp)]
  rfl
theorem cntW_le (F : List Sp) (i : Nat) : cntW F i ≤ F.length := List.length_filter_le _ _
theorem chW_snoc (F : List Sp) (f : Sp) (i : Nat) : chW (F ++ [f]) i = chW F i + ((if f.1 + 1 = i then 1 else 0) - (if f.2 + 1 = i then 1 else 0)) := by
  induction F with
  | nil => show _ + 0 = 0 + _; omega
  | cons g r ih =>
    show (_ + chW (r ++ [f]) i : Int) = _ + chW r i + _
    rw [ih]
    omega
theorem chW_bound (F : List Sp) (i : Nat) : -(F.length : Int) ≤ chW F i ∧ chW F i ≤ (F.length : Int) := by
  induction F with
  | nil => exact ⟨by show -((0 : Nat) : Int) ≤ 0; omega, by show (0 : Int) ≤ ((0 : Nat) : Int); omega⟩
  | cons g r ih =>
    have e : chW (g :: r) i = (if g.1 + 1 = i then 1 else 0) - (if g.2 + 1 = i then 1 else 0) + chW r i := rfl
    rw [e, List.length_cons]
    constructor <;> split <;> split <;> omega
theorem cntW_pos {F : List Sp} {i : Nat} : 0 < cntW F i ↔ ∃ f ∈ F, f.1 < i ∧ i ≤ f.2 := by
  unfold cntW
  rw [List.length_pos_iff_exists_mem]
  constructor
  · rintro ⟨f, hf⟩
    obtain ⟨h1, h2⟩ := List.mem_filter.1 hf
    exact ⟨f, h1, by simpa using h2⟩
  · rintro ⟨f, h1, h2⟩
    exact ⟨f, List.mem_filter.2 ⟨h1, by simpa using h2⟩⟩
/-- What is in the way, of what All tells. -/
def spF (tr word : List Int) (f : Fd) : Sp := (f.2.1.toNat, trl tr word f.2.2.toNat)
def hidB (E : List (List Int)) (tr points word : List Int) (i : Nat) : Bool := decide (0 < cntW ((allK E points points.length).map (spF tr word)) i)
/-- More entries hide no less. -/
theorem hid_more {E E' : List (List Int)} (hE : ∀ e ∈ E, e ∈ E') (h0 : [] ∉ E) {tr points word : List Int} {i : Nat} (h : hidB E tr points word i = true) : hidB E' tr points word i = true := by
  unfold hidB at *
  rw [decide_eq_true_eq, cntW_pos] at *
  obtain ⟨f, hf, h1⟩ := h
  obtain ⟨x, hx, rfl⟩ := List.mem_map.1 hf
  obtain ⟨j, s, hj, rfl, hst, _⟩ := all_mem points.length (Nat.le_refl _) x hx
  have hm : E[j] ∈ E := List.getElem_mem hj
  have := all_has (hE _ hm) (fun e0 => h0 (by rw [← e0]; exact hm)) hst
  exact ⟨_, List.mem_map.2 ⟨_, this, rfl⟩, h1⟩
theorem hid_none (tr points word : List Int) (i : Nat) : hidB [] tr points word i = false := by
  have h : ∀ k, allK [] points k = [] := fun k => by
    induction k with
    | zero => rfl
    | succ k ih =>
      rw [allK, ih]
      have : ∀ q, endsF [] q = [] := fun q => by
        induction q with
        | nil => rfl
        | cons x xs ih => simp [endsF, ih]
      rw [this]
      rfl
  unfold hidB
  rw [h]
  rfl
/-- What the closure of New says. -/
def dcd (B : List Bool) (el : Bool) (bef d : Int) (hd : Bool) : Bool := if (hd && (decide (d < 0) || decide (d ≥ bef))) = true then false else sayF B el d
/-- The boundaries among the first k places between. -/
def fbK (D : List Int) (B : List Bool) (el : Bool) (bef : Int) (hd : Nat → Bool) (k : Nat) : List Int := ((List.range k).filter fun j => dcd B el bef (D.getD j 0) (hd (j + 1))).map fun (j : Nat) => (j : Int) + 1
def fbF (D : List Int) (B : List Bool) (el : Bool) (bef : Int) (hd : Nat → Bool) (n : Nat) : List Int := if n = 0 then [] else 0 :: (fbK D B el bef hd D.length ++ [(n : Int)])
theorem fbK_step (D : List Int) (B : List Bool) (el : Bool) (bef : Int) (hd : Nat → Bool) (k : Nat) : fbK D B el bef hd (k + 1) = fbK D B el bef hd k ++ (if dcd B el bef (D.getD k 0) (hd (k + 1)) then [(k : Int) + 1] else []) := by
  unfold fbK
  rw [List.range_succ, List.filter_append, List.map_append]
  congr 1
  rw [List.filter_cons, List.filter_nil]
  cases dcd B el bef (D.getD k 0) (hd (k + 1)) <;> rfl
theorem fbK_len (D : List Int) (B : List Bool) (el : Bool) (bef : Int) (hd : Nat → Bool) (k : Nat) : (fbK D B el bef hd k).length ≤ k := by
  unfold fbK
  rw [List.length_map]
  have := List.length_filter_le (fun j => dcd B el bef (D.getD j 0) (hd (j + 1))) (List.range k)
  rw [List.length_range] at this
  exact this
theorem fbF_none (D : List Int) (B : List Bool) (el : Bool) (bef : Int) (n : Nat) (hd : Nat → Bool) (hh : ∀ i, hd i = false) : fbF D B el bef hd n = brkF D B el n := by
  unfold fbF brkF fbK brkK
  simp only [dcd, hh, Bool.false_and, Bool.false_eq_true, if_false]
/-- The hidden places among the first k between. -/
def hpK (hd : Nat → Bool) (k : Nat) : List Int := ((List.range k).filter fun j => hd (j + 1)).map fun (j : Nat) => (j : Int) + 1
theorem hpK_step (hd : Nat → Bool) (k : Nat) : hpK hd (k + 1) = hpK hd k ++ (if hd (k + 1) then [(k : Int) + 1] else []) := by
  unfold hpK
  rw [List.range_succ, List.filter_append, List.map_append]
  congr 1
  rw [List.filter_cons, List.filter_nil]
  cases hd (k + 1) <;> rfl
theorem hpK_len (hd : Nat → Bool) (k : Nat) : (hpK hd k).length ≤ k := by
  unfold hpK
  rw [List.length_map]
  have := List.length_filter_le (fun j => hd (j + 1)) (List.range k)
  rw [List.length_range] at this
  exact this
/-- Where more is hidden there are the same boundaries or fewer. -/
theorem fbF_sub (D : List Int) (B : List Bool) (el : Bool) (bef : Int) (n : Nat) {hd hd' : Nat → Bool} (hh : ∀ i, hd i = true → hd' i = true) : List.Sublist (fbF D B el bef hd' n) (fbF D B el bef hd n) := by
  unfold fbF
  split
  · exact List.Sublist.refl _
  · refine List.Sublist.cons_cons _ (List.Sublist.append ?_ (List.Sublist.refl _))
    unfold fbK
    refine List.Sublist.map _ ?_
    have : ∀ (l : List Nat), List.Sublist (l.filter fun j => dcd B el bef (D.getD j 0) (hd' (j + 1))) (l.filter fun j => dcd B el bef (D.getD j 0) (hd (j + 1))) := fun l => by
      induction l with
      | nil => exact List.Sublist.refl _
      | cons x r ih =>
        rw [List.filter_cons, List.filter_cons]
        cases h1 : dcd B el bef (D.getD x 0) (hd' (x + 1)) with
        | true =>
          have h2 : dcd B el bef (D.getD x 0) (hd (x + 1)) = true := by
            cases h3 : hd (x + 1) with
            | false =>
              unfold dcd at h1 ⊢
              split at h1
              · cases h1
              · rw [Bool.false_and, if_neg (by simp)]; exact h1
            | true => rw [hh _ h3] at h1; exact h1
          rw [h2]
          exact List.Sublist.cons_cons _ ih
        | false =>
          cases h2 : dcd B el bef (D.getD x 0) (hd (x + 1)) with
          | true => exact List.Sublist.cons _ ih
          | false => exact ih
    exact this _
theorem fbF_rise (D : List Int) (B : List Bool) (el : Bool) (bef : Int) (hd : Nat → Bool) (n : Nat) (hD : D.length = n - 1) : (fbF D B el bef hd n).Pairwise (· < ·) := by
  unfold fbF
  split
  · exact List.Pairwise.nil
  · rename_i hn
    have hm : ∀ x ∈ fbK D B el bef hd D.length, 0 < x ∧ x < (n : Int) := fun x hx => by
      unfold fbK at hx
      obtain ⟨j, hj, rfl⟩ := List.mem_map.1 hx
      have := List.mem_range.1 (List.mem_filter.1 hj).1
      omega
    have hp : (fbK D B el bef hd D.length).Pairwise (· < ·) := by
      unfold fbK
      refine List.Pairwise.map _ (fun a b (h : a < b) => by omega) ((List.pairwise_lt_range).filter _)
    refine List.Pairwise.cons (fun x hx => ?_) (List.pairwise_append.2 ⟨hp, List.pairwise_singleton _ _, fun a ha b hb => ?_⟩)
    · rcases List.mem_append.1 hx with h | h
      · exact (hm x h).1
      · rw [List.mem_singleton.1 h]; omega
    · rw [List.mem_singleton.1 hb]; exact (hm a ha).2
end Go.Proofs.YtekimkdaoblcgaaDoor
namespace Go.Proofs
open Go.Shelf
def Tryd.lays225_ren : Go.Shelf.Ren := ⟨fun | 25 => 84 | 31 => 86 | 32 => 87 | 37 => 88 | n => n, fun | 22 => 28 | 3 => 3 | 4 => 4 | 40 => 128 | 0 => 0 | n => n, fun | n => n⟩
theorem Tryd.lays225 : Go.Proofs.Lays2.n25 Tryd.prog Tryd.lays225_ren := {
  mixed := by kernel_rfl
  f25 := Tryd.func84.trans (congrArg some (by kernel_rfl))
  f31 := Tryd.func86.trans (congrArg some (by kernel_rfl))
  f32 := Tryd.func87.trans (congrArg some (by kernel_rfl))
  f37 := Tryd.func88.trans (congrArg some (by kernel_rfl))
  t0 := Tryd.underlying0
  a0 := Tryd.isAgg0
  z0 := Tryd.sizeOf0
  v0 := Tryd.zeroValue0
  t3 := Tryd.underlying3
  a3 := Tryd.isAgg3
  z3 := Tryd.sizeOf3
  v3 := Tryd.zeroValue3
  t4 := Tryd.underlying4
  a4 := Tryd.isAgg4
  z4 := Tryd.sizeOf4
  v4 := Tryd.zeroValue4
  t22 := Tryd.underlying28
  a22 := Tryd.isAgg28
  z22 := Tryd.sizeOf28
  v22 := Tryd.zeroValue28
  t40 := Tryd.underlying128
  a40 := Tryd.isAgg128
  z40 := Tryd.sizeOf128
  v40 := Tryd.zeroValue128 }
end Go.Proofs
namespace Go.Proofs.YtekimkdaoblcgaaDoor
open Go.RowKit Go.Shelf
theorem Rs.at_le {L : List Int} (h : Rs L) {i j : Nat} (hi : i ≤ j) (hj : j < L.length) : L[i]'(by omega) ≤ L[j] := by
  rcases Nat.eq_or_lt_of_le hi with rfl | hlt
  · exact Int.le_refl _
  · have := List.pairwise_iff_getElem.1 h i j (by omega) hj hlt; omega
theorem IA.drop {w : World} {b off : Nat} {L : List Int} (h : IA w (some ⟨b, off, none⟩) L) (k : Nat) : IA w (some ⟨b, off + k, none⟩) (L.drop k) := ⟨fun j hj => by
  obtain ⟨b', o', e, h1, h2⟩ := h.at' (k + j) (by rw [List.length_drop] at hj; omega)
  cases e
  refine ⟨b, off + k, rfl, h1, ?_⟩
  rw [List.getElem_drop, Nat.add_assoc]
  exact h2⟩
theorem IA.none {w : World} {a : Option Addr} : IA w a [] := ⟨fun _k hk => absurd hk (Nat.not_lt_zero _)⟩
set_option maxRecDepth 10000 in
set_option maxHeartbeats 1600000 in
theorem startingAt_any (L : List Int) (b off c : Nat) (low : Int) (w : World) (hl : L.length ≤ 1000000000) (hc : L.length ≤ c) (hr : Rs L) (h0 : 0 < L.length) (ha : IA w (some ⟨b, off, none⟩) L) :
    Calls Tryd.prog 75 #[.slice (some ⟨b, off, none⟩) L.length c, .int .i64 low] w fun e w' => ∃ a', e = .returned (.slice a' (L.length - blw L low) (c - blw L low)) ∧ IA w a' (L.drop (blw L low)) ∧ ∃ n, w' = w.drewN n := by
  have HA := hid0 ha
  have HRs := hid0 hr
  have HBs : Hid (∀ (m n : Nat), m ≤ L.length → 0 < m → Calls Tryd.prog 84 #[.slice (some ⟨b, off, none⟩) m c, .int .i64 low] (w.drewN n) fun e w' => e = .returned (.tuple #[.int .i64 (blw (L.take m) low : Nat), .bool ((L.take m).contains low)]) ∧ ∃ q, w' = (w.drewN n).drewN q) := hid0 (fun m n hm _ => by
    refine Any.slices_BinarySearch_int Tryd.lays225 b off m c L low (w.drewN n) hm (by omega) (fun j hj => ?_) ?_
    · obtain ⟨b', o', e, h1, h2⟩ := ha.at' j hj
      cases e
      rw [List.getD_eq_getElem?_getD, List.getElem?_eq_getElem hj]
      exact h2
    · exact List.Pairwise.sublist (List.take_sublist m L) (List.Pairwise.imp (fun h => Int.le_of_lt h) hr))
  obtain ⟨k, hk⟩ : ∃ k, k = blw L low := ⟨_, rfl⟩
  have hkl : k ≤ L.length := by rw [hk]; exact blw_le _ _
  have HK := hid0 hk
  rw [← hk]
  clear ha hr hk
  have hcI : (L.length : Int) ≤ (c : Int) := by omega
  go_enter Tryd.func75, Tryd.ntmps75
  go_wp2
  go_loopw [5] (fun i wr => ∃ e : Nat, 1 ≤ e ∧ e ≤ 2000000000 ∧ i = .int .i64 (e : Int) ∧ wr = w) (fun i _ => L.length - (intOf i).toNat)
  case atStart => exact ⟨1, Nat.le_refl _, by omega, rfl, rfl⟩
  case round =>
    obtain ⟨e, he1, he2, rfl, rfl⟩ := hrel
    have fin : ∀ m, 0 < m → m ≤ L.length → (∀ z ∈ L.drop m, ¬ z < low) → blw (L.take m) low = blw L low := fun m _ _ h => blw_part h
    by_cases hel : e < L.length
    · have helI : (e : Int) < (L.length : Int) := by omega
      have hsub : IntKind.i64.wrap ((e : Int) - 1) = ((e - 1 : Nat) : Int) := by simp [IntKind.wrap, IntKind.bits, IntKind.signed]; omega
      obtain ⟨e1, hee⟩ : ∃ e1, e = e1 + 1 := ⟨e - 1, by omega⟩
      obtain ⟨b', o', eq, _, d1⟩ := HA.out.at' e1 (by omega)
      cases eq
      have hsub1 : IntKind.i64.wrap ((e : Int) - 1) = (e1 : Int) := by simp [IntKind.wrap, IntKind.bits, IntKind.signed]; omega
      have hsub2 : (e : Int) - 1 = (e1 : Int) := by omega
      have he1I : (e1 : Int) < (L.length : Int) := by omega
      have he1I0 : (0 : Int) ≤ (e1 : Int) := by omega
      have he1n : e1 < L.length := by omega
      by_cases hlow : L[e1] < low
      · have hmul : IntKind.i64.wrap ((e : Int) * 2) = (e : Int) * 2 := by simp [IntKind.wrap, IntKind.bits, IntKind.signed]; omega
        generalize L[e1] = z at *
        clear hee fin
        go_wp2
        go_roundw
        case rel => exact ⟨e * 2, by omega, by omega, by go_num, trivial⟩
        case measure => simp [intOf]; omega
      · have HFin := hid0 (fin e (by omega) (by omega) (fun z hz => by
          obtain ⟨k, hk, rfl⟩ := List.getElem_of_mem hz
          rw [List.getElem_drop]
          have := HRs.out.at_le (i := e1) (j := e + k) (by omega) (by rw [List.length_drop] at hk; omega)
          omega))
        have hmin : min (e : Int) (L.length : Int) = (e : Int) := by omega
        have HB := hid0 (HBs.out e 0 (by omega) (by omega))
        rw [HFin.out, ← HK.out] at HB
        generalize L[e1] = z at *
        generalize (L.take e).contains low = bf at *
        have hkI : (k : Int) ≤ (L.length : Int) := by omega
        have hkI0 : (0 : Int) ≤ (k : Int) := by omega
        have hec : (e : Int) ≤ (c : Int) := by omega
        have hkc : (k : Int) ≤ (c : Int) := by omega
        clear hee fin HFin
        go_wp2_with (go_at_call 84; go_loud ((
          refine HB.out.mono ?_
          rintro e w2 ⟨rfl, q, hw2⟩
          subst hw2)))
        all_goals (go_ret; first | exact ⟨_, rfl, HA.out.drop k, q, rfl⟩ | (refine ⟨_, rfl, ?_, q, rfl⟩; rw [List.drop_of_length_le (by omega)]; exact IA.none))
    · have helI : ¬ (e : Int) < (L.length : Int) := by omega
      have HFin := hid0 (fin L.length h0 (Nat.le_refl _) (fun z hz => by rw [List.drop_length] at hz; cases hz))
      have hmin : min (e : Int) (L.length : Int) = (L.length : Int) := by omega
      have HB := hid0 (HBs.out L.length 0 (Nat.le_refl _) h0)
      rw [HFin.out, ← HK.out] at HB
      generalize (L.take L.length).contains low = bf at *
      have hkI : (k : Int) ≤ (L.length : Int) := by omega
      have hkI0 : (0 : Int) ≤ (k : Int) := by omega
      have hkc : (k : Int) ≤ (c : Int) := by omega
      clear fin HFin
      go_wp2_with (go_at_call 84; go_loud ((
        refine HB.out.mono ?_
        rintro e w2 ⟨rfl, q, hw2⟩
        subst hw2)))
      all_goals (go_ret; first | exact ⟨_, rfl, HA.out.drop k, q, rfl⟩ | (refine ⟨_, rfl, ?_, q, rfl⟩; rw [List.drop_of_length_le (by omega)]; exact IA.none))
/-- Lists of which one is left. -/
theorem lens {a b : List Int} {x y : Int} (h : x ≠ y) : ((x :: a).drop (blw (x :: a) (max x y))).length + ((y :: b).drop (blw (y :: b) (max x y))).length < (x :: a).length + (y :: b).length := by
  have := blw_pos (a := a) (b := b) h
  have h1 := blw_le (x :: a) (max x y)
  have h2 := blw_le (y :: b) (max x y)
  rw [List.length_drop, List.length_drop]
  simp only [List.length_cons] at *
  omega
theorem cons_of {L : List Int} (h : 0 < L.length) : ∃ x l, L = x :: l := by
  cases L with
  | nil => simp at h
  | cons x l => exact ⟨x, l, rfl⟩
set_option maxRecDepth 10000 in
set_option maxHeartbeats 1600000 in
theorem leastOfBoth_any (P Q : List Int) (a b : Option Addr) (ca cb : Nat) (w : World) (hp : P.length ≤ 1000000000) (hq : Q.length ≤ 1000000000) (hca : P.length ≤ ca) (hcb : Q.length ≤ cb) (rp : Rs P) (rq : Rs Q) (ha : IA w a P) (hb : IA w b Q) :
    Calls Tryd.prog 66 #[.slice a P.length ca, .slice b Q.length cb] w fun e w' => e = .returned (.int .i64 (lstF P Q)) ∧ ∃ n, w' = w.drewN n := by
  obtain ⟨res, hres⟩ : ∃ res, res = lstF P Q := ⟨_, rfl⟩
  have HR := hid0 hres
  have HRP := hid0 rp
  have HRQ := hid0 rq
  have HA := hid0 ha
  have HB := hid0 hb
  rw [← hres]
  clear hres rp rq ha hb
  go_enter Tryd.func66, Tryd.ntmps66
  go_wp2
  go_loopw [0, 1] (fun va vb wr => ∃ (P' Q' : List Int) (a' b' : Option Addr) (ca' cb' : Nat), va = .slice a' P'.length ca' ∧ vb = .slice b' Q'.length cb' ∧ P'.length ≤ ca' ∧ Q'.length ≤ cb' ∧ P'.length ≤ 1000000000 ∧ Q'.length ≤ 1000000000 ∧ Hid (Rs P' ∧ Rs Q' ∧ IA w a' P' ∧ IA w b' Q' ∧ lstF P' Q' = res) ∧ ∃ n, wr = w.drewN n) (fun va vb _ => (match va with | .slice _ n _ => n | _ => 0) + (match vb with | .slice _ n _ => n | _ => 0))
  case atStart => exact ⟨P, Q, a, b, ca, cb, rfl, rfl, hca, hcb, hp, hq, hid0 ⟨HRP.out, HRQ.out, HA.out, HB.out, HR.out.symm⟩, 0, rfl⟩
  case round =>
    clear hp hq hca hcb HR HRP HRQ HA HB
    obtain ⟨P, Q, a, b, ca, cb, rfl, rfl, hca, hcb, hp, hq, HE, nd, rfl⟩ := hrel
    obtain ⟨rp, rq, ha, hb, hres⟩ := HE.out
    by_cases h1 : 0 < P.length
    · by_cases h2 : 0 < Q.length
      · obtain ⟨b1, o1, rfl, _, d1⟩ := ha.at' 0 h1
        obtain ⟨b2, o2, rfl, _, d2⟩ := hb.at' 0 h2
        obtain ⟨x, P', eP⟩ := cons_of h1
        obtain ⟨y, Q', eQ⟩ := cons_of h2
        have ex : P[0] = x := by simp [eP]
        have ey : Q[0] = y := by simp [eQ]
        rw [ex, Nat.add_zero] at d1
        rw [ey, Nat.add_zero] at d2
        have h1I : (P.length : Int) > 0 := by omega
        have h2I : (Q.length : Int) > 0 := by omega
        by_cases hxy : x = y
        · have HV : Hid (res = x) := hid0 (by rw [← hres, eP, eQ, hxy]; exact lstF_head (.head _))
          have hxy' : (x == y) = true := by simpa using hxy
          have HXy := hid0 hxy
          clear hxy HE rp rq ha hb hres ex ey eP eQ
          go_wp2
          go_quiet ((fail))
          go_wp2
          go_ret
          exact ⟨by rw [HV.out]; rfl, _, rfl⟩
        · have hxy' : (x == y) = false := by simpa using hxy
          obtain ⟨lw, hlw⟩ : ∃ lw, lw = max x y := ⟨_, rfl⟩
          have HLn := hid0 (lens (a := P') (b := Q') hxy)
          have HLo : Hid (lstF (P.drop (blw P lw)) (Q.drop (blw Q lw)) = res) := hid0 (by rw [hlw, ← hres, eP, eQ]; exact lstF_low (by rw [← eP]; exact rp) (by rw [← eQ]; exact rq))
          rw [← eP, ← eQ, ← hlw] at HLn
          have HRr : Hid (Rs (P.drop (blw P lw)) ∧ Rs (Q.drop (blw Q lw))) := hid0 ⟨rp.drop _, rq.drop _⟩
          have HS1 : Hid (∀ n, Calls Tryd.prog 75 #[.slice (some ⟨b1, o1, none⟩) P.length ca, .int .i64 lw] (w.drewN n) fun e w' => ∃ a', e = .returned (.slice a' (P.length - blw P lw) (ca - blw P lw)) ∧ IA w a' (P.drop (blw P lw)) ∧ ∃ m, w' = (w.drewN n).drewN m) := hid0 (fun n => startingAt_any P b1 o1 ca lw (w.drewN n) hp hca rp h1 ⟨ha.at'⟩ |>.mono (fun e w' ⟨a', h1, h2, h3⟩ => ⟨a', h1, ⟨h2.at'⟩, h3⟩))
          have HS2 : Hid (∀ n, Calls Tryd.prog 75 #[.slice (some ⟨b2, o2, none⟩) Q.length cb, .int .i64 lw] (w.drewN n) fun e w' => ∃ a', e = .returned (.slice a' (Q.length - blw Q lw) (cb - blw Q lw)) ∧ IA w a' (Q.drop (blw Q lw)) ∧ ∃ m, w' = (w.drewN n).drewN m) := hid0 (fun n => startingAt_any Q b2 o2 cb lw (w.drewN n) hq hcb rq h2 ⟨hb.at'⟩ |>.mono (fun e w' ⟨a', h1, h2, h3⟩ => ⟨a', h1, ⟨h2.at'⟩, h3⟩))
          have hmx := hlw.symm
          obtain ⟨k1, ek1⟩ : ∃ k, k = blw P lw := ⟨_, rfl⟩
          obtain ⟨k2, ek2⟩ : ∃ k, k = blw Q lw := ⟨_, rfl⟩
          have hk1 : k1 ≤ P.length := by rw [ek1]; exact blw_le _ _
          have hk2 : k2 ≤ Q.length := by rw [ek2]; exact blw_le _ _
          rw [← ek1, ← ek2] at HLn HLo HRr
          rw [← ek1] at HS1
          rw [← ek2] at HS2
          clear hxy hlw HE rp rq ha hb hres ex ey eP eQ ek1 ek2
          go_wp2
          go_quiet ((fail))
          go_wp2
          go_quiet ((fail))
          rw [World.drewN_drewN, World.drewN_drewN]
          go_wp2_with (first
            | (go_at_call 75; have hq0 := HQ0.out; refine (HS2.out n4).mono ?_; rintro e w2 ⟨a2, rfl, ia2, n5, hw2⟩; rw [World.drewN_drewN] at hw2; subst hw2; have HI2 := hid0 ia2; clear ia2 hq0)
            | (go_at_call 75; refine (HS1.out _).mono ?_; rintro e w1 ⟨a1, rfl, ia1, n4', hw1⟩; rw [World.drewN_drewN] at hw1; obtain ⟨n4, hn4⟩ : ∃ n4, w1 = w.drewN n4 := ⟨_, hw1⟩; clear hw1; subst hn4; have HI1 := hid0 ia1; have HQ0 : Hid True := hid0 trivial; clear ia1 HS1))
          have HL1 : Hid ((P.drop k1).length = P.length - k1) := hid0 (List.length_drop ..)
          have HL2 : Hid ((Q.drop k2).length = Q.length - k2) := hid0 (List.length_drop ..)
          go_roundw
          case rel => exact ⟨P.drop k1, Q.drop k2, a1, a2, ca - k1, cb - k2, by rw [HL1.out], by rw [HL2.out], by have := HL1.out; omega, by have := HL2.out; omega, by have := HL1.out; omega, by have := HL2.out; omega, hid0 ⟨HRr.out.1, HRr.out.2, HI1.out, HI2.out, HLo.out⟩, _, rfl⟩
          case measure => have h3 := HLn.out; have h4 := HL1.out; have h5 := HL2.out; simp only; omega
      · have h2I : ¬ (Q.length : Int) > 0 := by omega
        have h1I : (P.length : Int) > 0 := by omega
        have HV : Hid (res = -1) := hid0 (by rw [← hres, List.eq_nil_of_length_eq_zero (show Q.length = 0 by omega)]; exact lstF_nil2 _)
        clear HE rp rq ha hb hres
        go_wp2
        go_ret
        exact ⟨by rw [HV.out]; rfl, nd, rfl⟩
    · have h1I : ¬ (P.length : Int) > 0 := by omega
      have HV : Hid (res = -1) := hid0 (by rw [← hres, List.eq_nil_of_length_eq_zero (show P.length = 0 by omega)]; rfl)
      clear HE rp rq ha hb hres
      go_wp2
      go_ret
      exact ⟨by rw [HV.out]; rfl, nd, rfl⟩
end Go.Proofs.YtekimkdaoblcgaaDoor
namespace Go.Proofs.YtekimkdaoblcgaaDoor
open Go.RowKit Go.Shelf Go.Maps
set_option maxRecDepth 10000 in
set_option maxHeartbeats 800000 in
theorem fiRises_any (l : List Int) (a : Option Addr) (ca : Nat) (sy : Int) (w : World) (hl : l.length ≤ 1000000000) (ha : IA w a l) :
    Calls Tryd.prog 23 #[.slice a l.length ca, .int .i64 sy] w fun e w' => e = .returned (.bool (risK sy (-1) l)) ∧ w' = w := by
  have HA := hid0 ha
  have HR : Hid (∀ b, risK sy (-1) l = b → Ending.returned (.bool b) = .returned (.bool (risK sy (-1) l))) := hid0 (fun b h => by rw [h])
  have HR0 : Hid (risK sy (-1) (l.drop 0) = risK sy (-1) l) := hid0 rfl
  generalize risK sy (-1) l = R at *
  clear ha
  go_enter Tryd.func23, Tryd.ntmps23
  go_wp2
  go_loopw [5, 10] (fun x y wr => ∃ (k : Nat) (z : Int), k ≤ l.length ∧ y = .int .i64 (k : Int) ∧ x = .int .i64 z ∧ Hid (risK sy z (l.drop k) = R) ∧ wr = w) (fun _ y _ => l.length - (intOf y).toNat)
  case atStart => exact ⟨0, -1, Nat.zero_le _, rfl, rfl, HR0, rfl⟩
  case round =>
    clear HR0
    obtain ⟨k, z, hk, rfl, rfl, HK, rfl⟩ := hrel
    by_cases hlt : k < l.length
    · obtain ⟨b, off, rfl, _, c1⟩ := HA.out.at' k hlt
      have hkI : (k : Int) < (l.length : Int) := by omega
      have hkI0 : (0 : Int) ≤ (k : Int) := by omega
      have HD : Hid (l.drop k = l[k] :: l.drop (k + 1)) := hid0 (List.drop_eq_getElem_cons hlt)
      generalize l[k] = x at *
      by_cases h1 : x ≤ z
      · have hR : R = false := by rw [← HK.out, HD.out, risK, if_pos (.inl h1)]
        subst hR
        clear HK HD HR HA
        go_wp2
        go_ret
        exact ⟨rfl, rfl⟩
      · by_cases h2 : x ≥ sy
        · have hR : R = false := by rw [← HK.out, HD.out, risK, if_pos (.inr h2)]
          subst hR
          clear HK HD HR HA
          go_wp2
          go_ret
          exact ⟨rfl, rfl⟩
        · have HK2 : Hid (risK sy x (l.drop (k + 1)) = R) := hid0 (by rw [← HK.out, HD.out, risK, if_neg (fun h => by omega)])
          clear HK HD
          go_wp2
          go_roundw
          case rel => exact ⟨k + 1, x, hlt, by go_num, rfl, HK2, trivial⟩
          case measure => simp [intOf]; omega
    · have hkI : ¬ (k : Int) < (l.length : Int) := by omega
      have hR : R = true := by rw [← HK.out, List.drop_of_length_le (by omega)]; rfl
      subst hR
      clear HK HR HA
      go_wp2
      go_ret
      exact ⟨rfl, rfl⟩
end Go.Proofs.YtekimkdaoblcgaaDoor
namespace Go.Proofs.YtekimkdaoblcgaaDoor
open Go.RowKit Go.Shelf
set_option maxRecDepth 10000 in
set_option maxHeartbeats 800000 in
theorem isOneOf_any (n : Nat) (z : Int) (w : World) : Calls Tryd.prog 57 #[.int .i64 z, .int .i64 (n : Int)] w fun e w' => e = .returned (.bool (oneOf n z)) ∧ w' = w := by
  by_cases h : z ≥ 0
  · by_cases h2 : z < (n : Int)
    · have e : oneOf n z = true := (oneOf_iff n z).2 ⟨h, h2⟩
      rw [e]
      go_enter Tryd.func57, Tryd.ntmps57
      go_wp2
      go_ret
      exact ⟨rfl, rfl⟩
    · have e : oneOf n z = false := (oneOf_not n z).2 (fun q => h2 q.2)
      rw [e]
      go_enter Tryd.func57, Tryd.ntmps57
      go_wp2
      go_ret
      exact ⟨rfl, rfl⟩
  · have e : oneOf n z = false := (oneOf_not n z).2 (fun q => h q.1)
    rw [e]
    go_enter Tryd.func57, Tryd.ntmps57
    go_wp2
    go_ret
    exact ⟨rfl, rfl⟩
set_option maxRecDepth 10000 in
set_option maxHeartbeats 800000 in
theorem allOf_any (n : Nat) (L : List Int) (a : Option Addr) (c : Nat) (w : World) (hl : L.length ≤ 17592186043904) (ha : IA w a L) : Calls Tryd.prog 58 #[.slice a L.length c, .int .i64 (n : Int)] w fun e w' => e = .returned (.bool (L.all (oneOf n))) ∧ w' = w := by
  have HA := hid0 ha
  have HO := hid0 (fun z => isOneOf_any n z w)
  clear ha
  go_enter Tryd.func58, Tryd.ntmps58
  go_wp2
  go_loopw [9] (fun i wr => ∃ k : Nat, k ≤ L.length ∧ i = .int .i64 (k : Int) ∧ wr = w ∧ Hid ((L.drop k).all (oneOf n) = L.all (oneOf n))) (fun i _ => L.length - (intOf i).toNat)
  case atStart => exact ⟨0, Nat.zero_le _, rfl, rfl, hid0 rfl⟩
  case round =>
    obtain ⟨k, hk, rfl, rfl, HD⟩ := hrel
    by_cases hlt : k < L.length
    · obtain ⟨b, off, rfl, _, d1⟩ := HA.out.at' k hlt
      have hkI : (k : Int) < (L.length : Int) := by omega
      have hkI0 : (0 : Int) ≤ (k : Int) := by omega
      have HS := hid0 (all_drop (n := n) hlt)
      generalize L[k] = s at *
      have HOS := hid0 (HO.out s)
      cases hs : oneOf n s with
      | true =>
        rw [hs] at HOS
        have HD2 : Hid ((L.drop (k + 1)).all (oneOf n) = L.all (oneOf n)) := hid0 (by rw [← HD.out, HS.out, hs, Bool.true_and])
        clear HS HD hs
        go_wp2_with (go_at_call 57; refine HOS.out.mono ?_; rintro e w1 ⟨rfl, rfl⟩)
        go_roundw
        case rel => exact ⟨k + 1, by omega, by go_num, trivial, HD2⟩
        case measure => simp [intOf]; omega
      | false =>
        rw [hs] at HOS
        have HD2 : Hid (L.all (oneOf n) = false) := hid0 (by rw [← HD.out, HS.out, hs, Bool.false_and])
        clear HS HD hs
        go_wp2_with (go_at_call 57; refine HOS.out.mono ?_; rintro e w1 ⟨rfl, rfl⟩)
        go_ret
        exact ⟨by rw [HD2.out]; rfl, rfl⟩
    · have hkI : ¬ (k : Int) < (L.length : Int) := by omega
      have HD2 : Hid (L.all (oneOf n) = true) := hid0 (by rw [← HD.out]; exact all_end (by omega))
      clear HD
      go_wp2
      go_ret
      exact ⟨by rw [HD2.out]; rfl, rfl⟩
set_option maxRecDepth 10000 in
set_option maxHeartbeats 800000 in
theorem rises_any (pa : Int) (L : List Int) (a : Option Addr) (c : Nat) (w : World) (hl : L.length ≤ 17592186043904) (hpa : pa ≤ 9223372036854775807) (ha : IA w a L) : Calls Tryd.prog 59 #[.slice a L.length c, .int .i64 pa] w fun e w' => e = .returned (.bool (riseF pa 0 L)) ∧ w' = w := by
  have HA := hid0 ha
  clear ha
  go_enter Tryd.func59, Tryd.ntmps59
  go_wp2
  go_loopw [5, 10] (fun l i wr => ∃ (k : Nat) (lo : Int), k ≤ L.length ∧ 0 ≤ lo ∧ i = .int .i64 (k : Int) ∧ l = .int .i64 (lo) ∧ wr = w ∧ Hid (riseF pa lo (L.drop k) = riseF pa 0 L)) (fun _ i _ => L.length - (intOf i).toNat)
  case atStart => exact ⟨0, 0, Nat.zero_le _, Int.le_refl _, rfl, rfl, rfl, hid0 rfl⟩
  case round =>
    obtain ⟨k, lo, hk, hlo, rfl, rfl, rfl, HD⟩ := hrel
    by_cases hlt : k < L.length
    · obtain ⟨b, off, rfl, _, d1⟩ := HA.out.at' k hlt
      have hkI : (k : Int) < (L.length : Int) := by omega
      have hkI0 : (0 : Int) ≤ (k : Int) := by omega
      have HS := hid0 (riseF_drop (cnt := pa) (lo := lo) hlt)
      generalize L[k] = s at *
      by_cases h1 : s < lo
      · have HD2 : Hid (riseF pa 0 L = false) := hid0 (by rw [← HD.out, HS.out, decide_eq_false (by omega)]; rfl)
        clear HS HD
        go_wp2
        go_ret
        exact ⟨by rw [HD2.out]; rfl, rfl⟩
      · by_cases h2 : s ≥ pa
        · have HD2 : Hid (riseF pa 0 L = false) := hid0 (by rw [← HD.out, HS.out, decide_eq_false (p := s < pa) (by omega), Bool.and_false]; rfl)
          clear HS HD
          go_wp2
          go_ret
          exact ⟨by rw [HD2.out]; rfl, rfl⟩
        · have HD2 : Hid (riseF pa (s + 1) (L.drop (k + 1)) = riseF pa 0 L) := hid0 (by rw [← HD.out, HS.out, decide_eq_true (p := s < pa) (by omega), decide_eq_true (p := lo ≤ s) (by omega)]; rfl)
          clear HS HD
          go_wp2
          go_roundw
          case rel => exact ⟨k + 1, s + 1, by omega, by omega, by go_num, by go_num, trivial, HD2⟩
          case measure => simp [intOf]; omega
    · have hkI : ¬ (k : Int) < (L.length : Int) := by omega
      have HD2 : Hid (riseF pa 0 L = true) := hid0 (by rw [← HD.out]; exact riseF_end (by omega))
      clear HD
      go_wp2
      go_ret
      exact ⟨by rw [HD2.out]; rfl, rfl⟩
set_option maxRecDepth 10000 in
set_option maxHeartbeats 800000 in
theorem refRises_any (pa : Int) (L : List Int) (a : Option Addr) (c : Nat) (w : World) (hl : L.length ≤ 17592186043904) (ha : IA w a L) : Calls Tryd.prog 69 #[.slice a L.length c, .int .i64 pa] w fun e w' => e = .returned (.bool (riseF pa 0 L)) ∧ w' = w := by
  have HA := hid0 ha
  clear ha
  go_enter Tryd.func69, Tryd.ntmps69
  go_wp2
  go_loopw [5, 6] (fun l i wr => ∃ (k : Nat) (lo : Int), k ≤ L.length ∧ 0 ≤ lo ∧ i = .int .i64 (k : Int) ∧ l = .int .i64 (lo - 1) ∧ wr = w ∧ Hid (riseF pa lo (L.drop k) = riseF pa 0 L)) (fun _ i _ => L.length - (intOf i).toNat)
  case atStart => exact ⟨0, 0, Nat.zero_le _, Int.le_refl _, rfl, rfl, rfl, hid0 rfl⟩
  case round =>
    obtain ⟨k, lo, hk, hlo, rfl, rfl, rfl, HD⟩ := hrel
    by_cases hlt : k < L.length
    · obtain ⟨b, off, rfl, _, d1⟩ := HA.out.at' k hlt
      have hkI : (k : Int) < (L.length : Int) := by omega
      have hkI0 : (0 : Int) ≤ (k : Int) := by omega
      have HS := hid0 (riseF_drop (cnt := pa) (lo := lo) hlt)
      generalize L[k] = s at *
      by_cases h1 : s ≤ lo - 1
      · have HD2 : Hid (riseF pa 0 L = false) := hid0 (by rw [← HD.out, HS.out, decide_eq_false (by omega)]; rfl)
        clear HS HD
        go_wp2
        go_ret
        exact ⟨by rw [HD2.out]; rfl, rfl⟩
      · by_cases h2 : s ≥ pa
        · have HD2 : Hid (riseF pa 0 L = false) := hid0 (by rw [← HD.out, HS.out, decide_eq_false (p := s < pa) (by omega), Bool.and_false]; rfl)
          clear HS HD
          go_wp2
          go_ret
          exact ⟨by rw [HD2.out]; rfl, rfl⟩
        · have HD2 : Hid (riseF pa (s + 1) (L.drop (k + 1)) = riseF pa 0 L) := hid0 (by rw [← HD.out, HS.out, decide_eq_true (p := s < pa) (by omega), decide_eq_true (p := lo ≤ s) (by omega)]; rfl)
          clear HS HD
          go_wp2
          go_roundw
          case rel => exact ⟨k + 1, s + 1, by omega, by omega, by go_num, by congr 1; omega, trivial, HD2⟩
          case measure => simp [intOf]; omega
    · have hkI : ¬ (k : Int) < (L.length : Int) := by omega
      have HD2 : Hid (riseF pa 0 L = true) := hid0 (by rw [← HD.out]; exact riseF_end (by omega))
      clear HD
      go_wp2
      go_ret
      exact ⟨by rw [HD2.out]; rfl, rfl⟩
set_option maxRecDepth 10000 in
set_option maxHeartbeats 800000 in
theorem sameI (l : List Int) (a b : Option Addr) (ca cb : Nat) (w : World) (hl : l.length ≤ 17592186044000) (ha : IA w a l) (hb : IA w b l) :
    Calls Tryd.prog 10 #[.slice a l.length ca, .slice b l.length cb] w fun e w' => e = .returned (.bool true) ∧ ∃ n, w' = w.drewN n := by
  have HA := hid0 ha
  have HB := hid0 hb
  clear ha hb
  go_enter Tryd.func10, Tryd.ntmps10
  go_wp2
  go_loopw [5] (fun i wr => ∃ k : Nat, k ≤ l.length ∧ i = .int .i64 (k : Int) ∧ ∃ n, wr = w.drewN n) (fun i _ => l.length - (intOf i).toNat)
  case atStart => exact ⟨0, Nat.zero_le _, rfl, 0, rfl⟩
  case round =>
    obtain ⟨k, hk, rfl, nd, rfl⟩ := hrel
    by_cases hlt : k < l.length
    · obtain ⟨b1, o1, rfl, _, d1⟩ := HA.out.at' k hlt
      obtain ⟨b2, o2, rfl, _, d2⟩ := HB.out.at' k hlt
      have hkI : (k : Int) < (l.length : Int) := by omega
      have hkI0 : (0 : Int) ≤ (k : Int) := by omega
      generalize l[k] = s at *
      have hself : (s == s) = true := by simp
      go_wp2
      go_quiet ((fail))
      go_wp2
      go_roundw
      case rel => exact ⟨k + 1, by omega, by go_num, _, rfl⟩
      case measure => simp [intOf]; omega
    · have hkI : ¬ (k : Int) < (l.length : Int) := by omega
      go_wp2
      go_ret
      exact ⟨rfl, nd, rfl⟩
end Go.Proofs.YtekimkdaoblcgaaDoor
namespace Go.Proofs.YtekimkdaoblcgaaDoor
open Go.RowKit Go.Shelf
/-- A refusal, or none. -/
def errC (A : Nat → Addr) (b : Bool) : Value := if b then .nilIface else .iface 129 (.pointer (some (A 0)))
theorem getD_at {L : List (List Int)} {k : Nat} (h : k < L.length) : L.getD k [] = L[k] := by rw [List.getD_eq_getElem?_getD, List.getElem?_eq_getElem h]; rfl
theorem mul_small {n : Nat} {sy : Int} (h1 : n ≤ 16384) (h2 : 0 ≤ sy) (h3 : sy ≤ 16384) : 0 ≤ (n : Int) * sy ∧ (n : Int) * sy ≤ 268435456 := by
  refine ⟨Int.mul_nonneg (by omega) h2, ?_⟩
  calc (n : Int) * sy ≤ 16384 * 16384 := Int.mul_le_mul (by omega) h3 h2 (by omega)
    _ = 268435456 := by decide
set_option maxRecDepth 10000 in
set_option maxHeartbeats 1600000 in
theorem check_any (A : Nat → Addr) (st sy pa : Int) (N O : List (List Int)) (aN aO : Option Addr) (cN cO : Nat) (w : World) (hN : N.length ≤ 17592186043904) (hNr : ∀ r ∈ N, r.length ≤ 17592186043904) (hOr : ∀ r ∈ O, r.length ≤ 17592186043904) (hpa : pa ≤ 9223372036854775807) (ha : RwA w aN N) (hb : RwA w aO O) (he : Sents w A) :
    Calls Tryd.prog 37 #[.agg #[.int .i64 st, .slice aN N.length cN, .slice aO O.length cO], .int .i64 sy, .int .i64 pa] w fun e w' => e = .returned (errC A (chkF st N O sy pa)) ∧ Below w.heap.size w w' := by
  obtain ⟨w0, hw0⟩ : ∃ w0, w0 = w.alloc (.cells #[.int .i64 st, .slice aN N.length cN, .slice aO O.length cO] 24) := ⟨_, rfl⟩
  have hB0 : Below w.heap.size w w0 := by rw [hw0]; exact (Below.refl _ _).alloc (Nat.le_refl _) _
  have hX0 : w0.heap[w.heap.size]? = some (.cells #[.int .i64 st, .slice aN N.length cN, .slice aO O.length cO] 24 (0, 0)) := by rw [hw0]; exact heap_alloc_new w _
  have HB0 := hid0 hB0
  have HA := hid0 (ha.past hB0)
  have HB := hid0 (hb.past hB0)
  have x0 : w0.cell? ⟨w.heap.size, 0, none⟩ = some (.int .i64 st) := by rw [cell_of_row _ _ _ _ _ _ hX0]; rfl
  have x1 : w0.cell? ⟨w.heap.size, 1, none⟩ = some (.slice aN N.length cN) := by rw [cell_of_row _ _ _ _ _ _ hX0]; rfl
  have x2 : w0.cell? ⟨w.heap.size, 2, none⟩ = some (.slice aO O.length cO) := by rw [cell_of_row _ _ _ _ _ _ hX0]; rfl
  have e0 := (he.below hB0).c0
  have HNr := hid0 hNr
  have HOr := hid0 hOr
  clear ha hb he hB0 hX0 hNr hOr
  have hfold := hw0.symm
  clear hw0
  by_cases h0 : sy < 1
  case pos =>
    have HV : Hid (chkF st N O sy pa = false) := hid0 (by unfold chkF; rw [decide_eq_false (by omega)]; rfl)
    go_enter Tryd.func37, Tryd.ntmps37
    go_wp2
    go_ret
    exact ⟨by rw [HV.out]; rfl, HB0.out⟩
  by_cases h1 : sy > 16384
  case pos =>
    have HV : Hid (chkF st N O sy pa = false) := hid0 (by unfold chkF; rw [decide_eq_false (by omega)]; rfl)
    go_enter Tryd.func37, Tryd.ntmps37
    go_wp2
    go_ret
    exact ⟨by rw [HV.out]; rfl, HB0.out⟩
  by_cases h2 : pa < 0
  case pos =>
    have HV : Hid (chkF st N O sy pa = false) := hid0 (by unfold chkF; rw [decide_eq_false (by omega)]; rfl)
    go_enter Tryd.func37, Tryd.ntmps37
    go_wp2
    go_ret
    exact ⟨by rw [HV.out]; rfl, HB0.out⟩
  by_cases h3 : (N.length : Int) < 1
  case pos =>
    have HV : Hid (chkF st N O sy pa = false) := hid0 (by unfold chkF; rw [decide_eq_false (by omega)]; rfl)
    go_enter Tryd.func37, Tryd.ntmps37
    go_wp2
    go_ret
    exact ⟨by rw [HV.out]; rfl, HB0.out⟩
  by_cases h4 : (N.length : Int) > 16384
  case pos =>
    have HV : Hid (chkF st N O sy pa = false) := hid0 (by unfold chkF; rw [decide_eq_false (by omega)]; rfl)
    go_enter Tryd.func37, Tryd.ntmps37
    go_wp2
    go_ret
    exact ⟨by rw [HV.out]; rfl, HB0.out⟩
  by_cases h5 : (O.length : Int) = (N.length : Int)
  case neg =>
    have HV : Hid (chkF st N O sy pa = false) := hid0 (by unfold chkF; rw [decide_eq_false (by omega)]; rfl)
    go_enter Tryd.func37, Tryd.ntmps37
    go_wp2
    go_ret
    exact ⟨by rw [HV.out]; rfl, HB0.out⟩
  obtain ⟨m0, m1⟩ := mul_small (n := N.length) (sy := sy) (by omega) (by omega) (by omega)
  obtain ⟨q, hq⟩ : ∃ q, q = (N.length : Int) * sy := ⟨_, rfl⟩
  rw [← hq] at m0 m1
  by_cases h6 : q > 4194304
  case pos =>
    have HV : Hid (chkF st N O sy pa = false) := hid0 (by unfold chkF; rw [decide_eq_false (by omega)]; rfl)
    have hq' := hq.symm
    clear hq
    go_enter Tryd.func37, Tryd.ntmps37
    go_wp2
    go_ret
    exact ⟨by rw [HV.out]; rfl, HB0.out⟩
  have HC : Hid (chkF st N O sy pa = (oneOf N.length st && (List.range N.length).all fun j => rowF N.length sy pa (N.getD j []) (O.getD j []))) := hid0 (by unfold chkF; rw [decide_eq_true (by omega), Bool.true_and])
  have hq' := hq.symm
  clear hq
  have HON := hid0 (isOneOf_any N.length st w0)
  cases h7 : oneOf N.length st with
  | false =>
    rw [h7] at HON
    have HV : Hid (chkF st N O sy pa = false) := hid0 (by rw [HC.out, h7]; rfl)
    clear HC h7
    go_enter Tryd.func37, Tryd.ntmps37
    go_wp2_with (go_at_call 57; refine HON.out.mono ?_; rintro e w1 ⟨rfl, hw1⟩; have hw1' := hw1.symm; subst hw1'; clear hw1)
    go_ret
    exact ⟨by rw [HV.out]; rfl, HB0.out⟩
  | true =>
    rw [h7] at HON
    rw [h7, Bool.true_and] at HC
    clear h7
    go_enter Tryd.func37, Tryd.ntmps37
    go_wp2_with (go_at_call 57; refine HON.out.mono ?_; rintro e w1 ⟨rfl, hw1⟩; have hw1' := hw1.symm; subst hw1'; clear hw1)
    go_loopw [50] (fun i wr => ∃ k : Nat, k ≤ N.length ∧ i = .int .i64 (k : Int) ∧ wr = w0 ∧ Hid ((List.range k).all (fun j => rowF N.length sy pa (N.getD j []) (O.getD j [])) = true)) (fun i _ => N.length - (intOf i).toNat)
    case atStart => exact ⟨0, Nat.zero_le _, rfl, rfl, hid0 rfl⟩
    case round =>
      obtain ⟨k, hk, rfl, hwr, HD⟩ := hrel
      subst hwr
      by_cases hlt : k < N.length
      · have hlo : k < O.length := by omega
        obtain ⟨b, off, rfl, _, a1, c1, d1, i1⟩ := HA.out.at' k hlt
        obtain ⟨b2, off2, rfl, _, a2, c2, d2, i2⟩ := HB.out.at' k hlo
        have HAll := hid0 (allOf_any N.length N[k] a1 c1 wr (HNr.out _ (List.getElem_mem hlt)) i1)
        have HRis := hid0 (rises_any pa O[k] a2 c2 wr (HOr.out _ (List.getElem_mem hlo)) hpa i2)
        have HRow : Hid (rowF N.length sy pa (N.getD k []) (O.getD k []) = (decide ((N[k].length : Int) = sy) && N[k].all (oneOf N.length) && riseF pa 0 O[k])) := hid0 (by rw [getD_at hlt, getD_at hlo]; rfl)
        have hkI : (k : Int) < (N.length : Int) := by omega
        have hkI0 : (0 : Int) ≤ (k : Int) := by omega
        have hkO : (k : Int) < (O.length : Int) := by omega
        clear i1 i2
        generalize N[k] = r at *
        generalize O[k] = o at *
        by_cases g1 : (r.length : Int) = sy
        case neg =>
          have HV : Hid (chkF st N O sy pa = false) := hid0 (by rw [HC.out]; exact range_bad hlt (by rw [HRow.out, decide_eq_false g1]; rfl))
          clear HC HD HRow
          go_wp2
          go_ret
          exact ⟨by rw [HV.out]; rfl, HB0.out⟩
        cases g2 : r.all (oneOf N.length) with
        | false =>
          rw [g2] at HAll
          have HV : Hid (chkF st N O sy pa = false) := hid0 (by rw [HC.out]; exact range_bad hlt (by rw [HRow.out, g2, Bool.and_false]; rfl))
          clear HC HD HRow g2
          go_wp2_with (go_at_call 58; refine HAll.out.mono ?_; rintro e w1 ⟨rfl, hw1⟩; have hw1' := hw1.symm; subst hw1'; clear hw1)
          go_ret
          exact ⟨by rw [HV.out]; rfl, HB0.out⟩
        | true =>
          rw [g2] at HAll
          cases g3 : riseF pa 0 o with
          | false =>
            rw [g3] at HRis
            have HV : Hid (chkF st N O sy pa = false) := hid0 (by rw [HC.out]; exact range_bad hlt (by rw [HRow.out, g3, Bool.and_false]))
            clear HC HD HRow g2 g3
            go_wp2_with (first
              | (go_at_call 58; refine HAll.out.mono ?_; rintro e w1 ⟨rfl, hw1⟩; have hw1' := hw1.symm; subst hw1'; clear hw1)
              | (go_at_call 59; refine HRis.out.mono ?_; rintro e w1 ⟨rfl, hw1⟩; have hw1' := hw1.symm; subst hw1'; clear hw1))
            go_ret
            exact ⟨by rw [HV.out]; rfl, HB0.out⟩
          | true =>
            rw [g3] at HRis
            have HD2 : Hid ((List.range (k + 1)).all (fun j => rowF N.length sy pa (N.getD j []) (O.getD j [])) = true) := hid0 (range_snoc HD.out (by rw [HRow.out, g2, g3, decide_eq_true g1]; rfl))
            clear HD HRow g2 g3
            go_wp2_with (first
              | (go_at_call 58; refine HAll.out.mono ?_; rintro e w1 ⟨rfl, hw1⟩; have hw1' := hw1.symm; subst hw1'; clear hw1)
              | (go_at_call 59; refine HRis.out.mono ?_; rintro e w1 ⟨rfl, hw1⟩; have hw1' := hw1.symm; subst hw1'; clear hw1))
            go_roundw
            case rel => exact ⟨k + 1, by omega, by go_num, trivial, HD2⟩
            case measure => simp [intOf]; omega
      · have hkI : ¬ (k : Int) < (N.length : Int) := by omega
        have hkn : k = N.length := by omega
        have HV : Hid (chkF st N O sy pa = true) := hid0 (by rw [HC.out]; have h := HD.out; rw [hkn] at h; exact h)
        clear HC HD hkn
        go_wp2
        go_ret
        exact ⟨by rw [HV.out]; rfl, HB0.out⟩
end Go.Proofs.YtekimkdaoblcgaaDoor
namespace Go.Proofs.YtekimkdaoblcgaaDoor
open Go.RowKit Go.Shelf
theorem wpList_make_one {ops : Array Oper} {rest : List Oper} {o : Oper} {a : Act} {w : World} {Q : Exit → Act → World → Prop} (hg : o.guard = none) (l c : Operand) (hop : o.op = Op.makeSlice 28 l c)
    (base : Nat) (C : Int) (n : Nat) (hl : a.eval l = .int .i64 1) (hc : a.eval c = .int .i64 C) (hC : C = (n : Int)) (h1 : 1 ≤ n) (hn : n ≤ 17592186044416) (hb : base ≤ w.heap.size)
    (hK : ∀ w', OwnI w' base (.slice (some ⟨w.heap.size, 0, none⟩) 1 n) [0] → w.grownBy w' none → wpList Tryd.prog ops Q rest (a.put o.dst (.slice (some ⟨w.heap.size, 0, none⟩) 1 n)) w') :
    wpList Tryd.prog ops Q (o :: rest) a w := by
  obtain ⟨i, hi, hz0, hz1, hz2⟩ := info_parts infoInt
  refine wpList_plain hg fun K hK' => ?_
  subst hC
  have hr := run_make (P := Tryd.prog) w 28 3 i (.int .i64 0) Tryd.underlying28 hi hz0 .i64 .i64 1 n (by omega) (by omega) (by rw [hz2]; omega) (by omega)
  have e1 : (1 : Int).toNat = 1 := rfl
  have e2 : ((n : Int)).toNat = n := Int.toNat_natCast n
  simp only [e1, e2, hz1] at hr
  unfold Oper.wp
  simp [execOp, hop, hl, hc, hr, Result.andThen]
  refine hK' _ _ (hK _ ?_ (World.grownBy_alloc w _ none))
  refine ⟨rfl, .inr ⟨w.heap.size, n, _, rfl, hb, heap_alloc_new w _, h1, by unfold maxLen; omega, ?_, ?_⟩⟩
  · first | exact size_madeCells _ _ | (rw [size_madeCells]; simp)
  · obtain ⟨m, rfl⟩ : ∃ m, n = m + 1 := ⟨n - 1, by omega⟩
    simp only [madeCells, Value.cells, Array.toList_map, Array.toList_range, List.range_succ_eq_map]
    simp
theorem oneOf_call {n : Nat} {z : Int} {b : Bool} (h : oneOf n z = b) (w : World) : Calls Tryd.prog 57 #[.int .i64 z, .int .i64 (n : Int)] w fun e w' => e = .returned (.bool b) ∧ w' = w := by subst h; exact isOneOf_any n z w
theorem OwnI.past {w w' : World} {base : Nat} {v : Value} {L : List Int} (h : OwnI w base v L) (hb : Below w.heap.size w w') : OwnI w' base v L := own_blk h (fun k hk => hb.block k (World.ownsRow.lt h k hk).2)
theorem stepF_none1 {N : List (List Int)} {s : Nat} {z : Int} (h : ¬ (0 ≤ z ∧ z < ((N.getD s []).length : Int))) : stepF N s z = none := by unfold stepF; rw [if_neg h]
theorem stepF_at {N : List (List Int)} {s k : Nat} (hk : k < (N.getD s []).length) : stepF N s (k : Int) = if oneOf N.length (N.getD s [])[k] then some ((N.getD s [])[k]).toNat else none := by
  unfold stepF
  rw [if_pos (by omega), Int.toNat_natCast, List.getD_eq_getElem?_getD (l := N.getD s []), List.getElem?_eq_getElem hk]
  rfl
set_option maxRecDepth 10000 in
set_option maxHeartbeats 1600000 in
theorem run_any (A : Nat → Addr) (st : Int) (N : List (List Int)) (l : List Int) (aN aO aw : Option Addr) (cN nO cO cw : Nat) (w : World) (hNr : ∀ r ∈ N, r.length ≤ 17592186043904) (hl : l.length ≤ 17592186043904) (ha : RwA w aN N) (hb : IA w aw l) (he : Sents w A) :
    Calls Tryd.prog 46 #[.agg #[.int .i64 st, .slice aN N.length cN, .slice aO nO cO], .slice aw l.length cw] w fun e w' => ∃ v, e = .returned (.tuple #[v, errC A (runF N st l).isSome]) ∧ OwnI w' w.heap.size v ((runF N st l).getD []) ∧ Below w.heap.size w w' := by
  obtain ⟨w0, hw0⟩ : ∃ w0, w0 = w.alloc (.cells #[.int .i64 st, .slice aN N.length cN, .slice aO nO cO] 24) := ⟨_, rfl⟩
  have hB0 : Below w.heap.size w w0 := by rw [hw0]; exact (Below.refl _ _).alloc (Nat.le_refl _) _
  have hX0 : w0.heap[w.heap.size]? = some (.cells #[.int .i64 st, .slice aN N.length cN, .slice aO nO cO] 24 (0, 0)) := by rw [hw0]; exact heap_alloc_new w _
  have hs0 : w0.heap.size = w.heap.size + 1 := by rw [hw0]; simp
  have HB0 := hid0 hB0
  have HS0 := hid0 hs0
  have HA := hid0 (ha.past hB0)
  have HI := hid0 (hb.past hB0)
  have HE := hid0 (he.below hB0)
  have x0 : w0.cell? ⟨w.heap.size, 0, none⟩ = some (.int .i64 st) := by rw [cell_of_row _ _ _ _ _ _ hX0]; rfl
  have x1 : w0.cell? ⟨w.heap.size, 1, none⟩ = some (.slice aN N.length cN) := by rw [cell_of_row _ _ _ _ _ _ hX0]; rfl
  have HX1 := hid0 x1
  have e0 := HE.out.c0
  have HNr := hid0 hNr
  clear ha hb he hB0 hX0 hNr hs0
  have hfold := hw0.symm
  clear hw0
  have HON := hid0 (fun W => isOneOf_any N.length st W)
  cases h7 : oneOf N.length st with
  | false =>
    rw [h7] at HON
    have HV : Hid (runF N st l = none) := hid0 (by unfold runF; rw [h7]; rfl)
    clear h7
    go_enter Tryd.func46, Tryd.ntmps46
    go_wp2_with (go_at_call 57; refine (HON.out _).mono ?_; rintro e w1 ⟨rfl, hw1⟩; have hw1' := hw1.symm; subst hw1'; clear hw1)
    go_quiet ((fail))
    go_wp2
    go_returns
    refine ⟨.slice none 0 0, ?_, ?_, ?_⟩
    · rw [HV.out]; rfl
    · rw [HV.out]; exact World.ownsRow_nil _ _ _ _
    · exact below_drew' HB0.out _
  | true =>
    rw [h7] at HON
    obtain ⟨s0, hs0⟩ : ∃ s0 : Nat, st = (s0 : Int) := ⟨st.toNat, by have := (oneOf_iff _ _).1 h7; omega⟩
    subst hs0
    have hs0 : s0 < N.length := by have := (oneOf_iff _ _).1 h7; omega
    have HR0 : Hid (goF N [(s0 : Int)] s0 (l.drop 0) = runF N (s0 : Int) l) := hid0 (by unfold runF; rw [h7]; rfl)
    clear h7
    go_enter Tryd.func46, Tryd.ntmps46
    go_wp2_with (first
      | (go_at_call 57; refine (HON.out _).mono ?_; rintro e w1 ⟨rfl, hw1⟩; have hw1' := hw1.symm; subst hw1'; clear hw1)
      | (at_make; refine wpList_make_one rfl _ _ rfl w0.heap.size _ (l.length + 1) rfl rfl (by go_num) (by omega) (by omega) (Nat.le_refl _) ?_; intro w1 hown1 hgrow1; have HO1 := hid0 hown1; have HG1 := hid0 hgrow1; have f1 : w1.frozen? ⟨w0.heap.size, 0, none⟩ = false := World.ownsRow.frozenAt hown1 0; have c1 : w1.cell? ⟨w0.heap.size, 0, none⟩ = some (.int .i64 0) := (World.ownsRow.cellAt hown1 0 (by decide)).trans rfl; clear hown1 hgrow1)
      | fail)
    have HO2 : Hid (OwnI (w1.setCell ⟨w0.heap.size, 0, none⟩ (.int .i64 (s0 : Int))) w0.heap.size (.slice (some ⟨w0.heap.size, 0, none⟩) 1 (l.length + 1)) [(s0 : Int)]) := hid0 (by have h := (World.ownsRow.stored HO1.out 0 (.int .i64 (s0 : Int))).1; exact h)
    have HB2 : Hid (Below w0.heap.size w0 (w1.setCell ⟨w0.heap.size, 0, none⟩ (.int .i64 (s0 : Int)))) := hid0 (((Below.refl _ w0).grown HG1.out (Nat.le_refl _) (fun k hk => by cases hk)).setCell (p := ⟨w0.heap.size, 0, none⟩) (Nat.le_refl _) _)
    clear HO1 HG1
    go_loopw [6, 7, 29] (fun s v i wr => ∃ (k q : Nat) (acc : List Int), k ≤ l.length ∧ q < N.length ∧ s = .int .i64 (q : Int) ∧ i = .int .i64 (k : Int) ∧ Hid (OwnI wr w0.heap.size v acc) ∧ Hid (acc.length = k + 1) ∧ Hid (goF N acc q (l.drop k) = runF N (s0 : Int) l) ∧ Hid (Below w0.heap.size w0 wr)) (fun _ _ i _ => l.length - (intOf i).toNat)
    case atStart => exact ⟨0, s0, [(s0 : Int)], Nat.zero_le _, hs0, rfl, rfl, HO2, hid0 rfl, HR0, HB2⟩
    case round =>
      clear HO2 HB2 HR0 e0 f1 c1 x0 x1 HON
      obtain ⟨k, q, acc, hk, hq, rfl, rfl, HO, HL, HG, HB⟩ := hrel
      have x1 : wr.cell? ⟨w.heap.size, 1, none⟩ = some (.slice aN N.length cN) := (HB.out.cell (p := ⟨w.heap.size, 1, none⟩) (by have := HS0.out; show w.heap.size < w0.heap.size; omega)).trans HX1.out
      have e0 := (HE.out.below HB.out).c0
      by_cases hlt : k < l.length
      · obtain ⟨b, off, rfl, _, d1⟩ := (HI.out.past HB.out).at' k hlt
        obtain ⟨b2, off2, rfl, _, a2, c2, d2, i2⟩ := (HA.out.past HB.out).at' q hq
        have HI2 := hid0 i2
        clear i2
        have hkI : (k : Int) < (l.length : Int) := by omega
        have hkI0 : (0 : Int) ≤ (k : Int) := by omega
        have hqI : (q : Int) < (N.length : Int) := by omega
        have hqI0 : (0 : Int) ≤ (q : Int) := by omega
        have HGD := hid0 (goF_drop (N := N) (acc := acc) (s := q) hlt)
        have hgd := getD_at hq
        have hrl := HNr.out _ (List.getElem_mem hq)
        generalize l[k] = z at *
        by_cases g1 : 0 ≤ z ∧ z < (N[q].length : Int)
        case neg =>
          have HV : Hid (runF N (s0 : Int) l = none) := hid0 (by rw [← HG.out, HGD.out, stepF_none1 (by rw [hgd]; exact g1)])
          have HZ := hid0 ((oneOf_not _ _).2 g1)
          clear HG HGD HO HI2 hgd
          generalize N[q] = r at *
          go_wp2
          go_quiet ((go_at_call 57; exact (oneOf_call HZ.out _).mono (fun _ _ h => ⟨h.1, _, h.2⟩)))
          go_wp2
          go_quiet ((fail))
          go_wp2
          go_returns
          refine ⟨.slice none 0 0, ?_, ?_, ?_⟩
          · rw [HV.out]; rfl
          · rw [HV.out]; exact World.ownsRow_nil _ _ _ _
          · exact Below.later HB0.out (below_drew' (below_drew' HB.out _) _)
        obtain ⟨j, rfl⟩ : ∃ j : Nat, z = (j : Int) := ⟨z.toNat, by omega⟩
        have hj : j < N[q].length := by omega
        have HZ := hid0 ((oneOf_iff _ _).2 g1)
        have HST := hid0 (stepF_at (N := N) (s := q) (k := j) (by rw [hgd]; exact hj))
        have hgj : (N.getD q [])[j]'(by rw [hgd]; exact hj) = N[q][j] := by simp only [hgd]
        rw [hgj] at HST
        clear hgj hgd
        generalize N[q] = r at *
        obtain ⟨b3, off3, rfl, _, d3⟩ := HI2.out.at' j hj
        have hjI : (j : Int) < (r.length : Int) := by omega
        have hjI0 : (0 : Int) ≤ (j : Int) := by omega
        generalize r[j] = t at *
        cases g2 : oneOf N.length t with
        | false =>
          have HT := hid0 g2
          rw [g2] at HST
          have HV : Hid (runF N (s0 : Int) l = none) := hid0 (by rw [← HG.out, HGD.out, HST.out]; rfl)
          clear HG HGD HO HI2 HST g2
          go_wp2
          go_quiet ((go_at_call 57; first | exact (oneOf_call (by first | exact HT.out | exact HZ.out) _).mono (fun _ _ h => ⟨h.1, _, h.2⟩)))
          go_wp2
          go_quiet ((fail))
          go_wp2
          go_returns
          refine ⟨.slice none 0 0, ?_, ?_, ?_⟩
          · rw [HV.out]; rfl
          · rw [HV.out]; exact World.ownsRow_nil _ _ _ _
          · exact Below.later HB0.out (below_drew' (below_drew' HB.out _) _)
        | true =>
          have HT := hid0 g2
          rw [g2] at HST
          have ht := (oneOf_iff _ _).1 g2
          obtain ⟨p, rfl⟩ : ∃ p : Nat, t = (p : Int) := ⟨t.toNat, by omega⟩
          have hp : p < N.length := by omega
          have HG2 : Hid (goF N (acc ++ [(p : Int)]) p (l.drop (k + 1)) = runF N (s0 : Int) l) := hid0 (by rw [← HG.out, HGD.out, HST.out]; rfl)
          have HO' : Hid (wr.ownsRow w0.heap.size 3 1 u7 (k + 1) (acc.map (Value.int .i64))) := hid0 (by have h := HO.out; unfold OwnI at h; rw [HL.out] at h; exact h)
          clear HG HGD HST g2 ht HI2
          obtain ⟨i0, hi, hz0, hz1, hz2⟩ := info_parts infoInt
          go_wp2
          go_quiet ((go_at_call 57; first | exact (oneOf_call (by first | exact HT.out | exact HZ.out) _).mono (fun _ _ h => ⟨h.1, _, h.2⟩)))
          have hsz := HB.out.size
          go_wp2_with (at_builtin; refine wpList_append_own _ rfl _ _ 28 rfl w0.heap.size 3 i0 (.int .i64 0) 1 8 Tryd.underlying28 hi hz0 hz1 hz2 rfl (by decide) _ (k + 1) (acc.map (Value.int .i64)) rfl (World.ownsRow.alloc (show World.ownsRow (World.drewN wr _) _ _ _ _ _ _ from HO'.out) _) ⟨wr.heap.size, 0, none⟩ 1 1 [.int .i64 (p : Int)] rfl rfl (cell_one_new _ _ _) (by simp [Value.oneCell']) (by unfold maxLen; omega) (by omega) (by simp; omega) ?_; intro v2 w4 hown' hgrow _; have HH := hid0 (ownI_snoc (w := w0) (base := w0.heap.size) (L := acc) (c := (p : Int)) (n := k + 1) HL.out.symm (show OwnI (World.drewN wr _) _ _ _ from HO.out) hown' hgrow (below_drew' HB.out _) (Nat.le_refl _)); clear hown' hgrow)
          have HO4 := hid0 HH.out.1
          have HB4 := hid0 HH.out.2
          have HL4 : Hid ((acc ++ [(p : Int)]).length = k + 1 + 1) := hid0 (by rw [List.length_append, HL.out]; rfl)
          clear HH HO HO' HB HL
          go_roundw
          case rel => exact ⟨k + 1, p, _, by omega, hp, rfl, by go_num, HO4, HL4, HG2, HB4⟩
          case measure => simp [intOf]; omega
      · have hkI : ¬ (k : Int) < (l.length : Int) := by omega
        have HV : Hid (runF N (s0 : Int) l = some acc) := hid0 (by rw [← HG.out, List.drop_of_length_le (by omega), goF])
        clear HG
        go_wp2
        go_returns
        refine ⟨u7, ?_, ?_, ?_⟩
        · rw [HV.out]; rfl
        · rw [HV.out]; exact owns_lower HO.out (by have := HS0.out; omega)
        · exact Below.later HB0.out HB.out
end Go.Proofs.YtekimkdaoblcgaaDoor
namespace Go.Proofs.YtekimkdaoblcgaaDoor
open Go.RowKit Go.Shelf
/-- The number of a refusal, or none. -/
def numC (b : Bool) : Int := if b then 0 else 1
set_option maxRecDepth 10000 in
set_option maxHeartbeats 1600000 in
theorem refCheck_any (st sy pa : Int) (N O : List (List Int)) (aN aO : Option Addr) (cN cO : Nat) (w : World) (hN : N.length ≤ 17592186043904) (hNr : ∀ r ∈ N, r.length ≤ 17592186043904) (hOr : ∀ r ∈ O, r.length ≤ 17592186043904) (ha : RwA w aN N) (hb : RwA w aO O) :
    Calls Tryd.prog 50 #[.agg #[.int .i64 st, .slice aN N.length cN, .slice aO O.length cO], .int .i64 sy, .int .i64 pa] w fun e w' => e = .returned (.int .i64 (numC (chkF st N O sy pa))) ∧ Below w.heap.size w w' := by
  obtain ⟨w0, hw0⟩ : ∃ w0, w0 = w.alloc (.cells #[.int .i64 st, .slice aN N.length cN, .slice aO O.length cO] 24) := ⟨_, rfl⟩
  have hB0 : Below w.heap.size w w0 := by rw [hw0]; exact (Below.refl _ _).alloc (Nat.le_refl _) _
  have hX0 : w0.heap[w.heap.size]? = some (.cells #[.int .i64 st, .slice aN N.length cN, .slice aO O.length cO] 24 (0, 0)) := by rw [hw0]; exact heap_alloc_new w _
  have HB0 := hid0 hB0
  have HA := hid0 (ha.past hB0)
  have HB := hid0 (hb.past hB0)
  have x0 : w0.cell? ⟨w.heap.size, 0, none⟩ = some (.int .i64 st) := by rw [cell_of_row _ _ _ _ _ _ hX0]; rfl
  have x1 : w0.cell? ⟨w.heap.size, 1, none⟩ = some (.slice aN N.length cN) := by rw [cell_of_row _ _ _ _ _ _ hX0]; rfl
  have x2 : w0.cell? ⟨w.heap.size, 2, none⟩ = some (.slice aO O.length cO) := by rw [cell_of_row _ _ _ _ _ _ hX0]; rfl
  have HNr := hid0 hNr
  have HOr := hid0 hOr
  clear ha hb hB0 hX0 hNr hOr
  have hfold := hw0.symm
  clear hw0
  by_cases h0 : sy < 1
  case pos =>
    have HV : Hid (chkF st N O sy pa = false) := hid0 (by unfold chkF; rw [decide_eq_false (by omega)]; rfl)
    go_enter Tryd.func50, Tryd.ntmps50
    go_wp2
    go_ret
    exact ⟨by rw [HV.out]; rfl, HB0.out⟩
  by_cases h1 : sy > 16384
  case pos =>
    have HV : Hid (chkF st N O sy pa = false) := hid0 (by unfold chkF; rw [decide_eq_false (by omega)]; rfl)
    go_enter Tryd.func50, Tryd.ntmps50
    go_wp2
    go_ret
    exact ⟨by rw [HV.out]; rfl, HB0.out⟩
  by_cases h2 : pa < 0
  case pos =>
    have HV : Hid (chkF st N O sy pa = false) := hid0 (by unfold chkF; rw [decide_eq_false (by omega)]; rfl)
    go_enter Tryd.func50, Tryd.ntmps50
    go_wp2
    go_ret
    exact ⟨by rw [HV.out]; rfl, HB0.out⟩
  by_cases h3 : (N.length : Int) < 1
  case pos =>
    have HV : Hid (chkF st N O sy pa = false) := hid0 (by unfold chkF; rw [decide_eq_false (by omega)]; rfl)
    go_enter Tryd.func50, Tryd.ntmps50
    go_wp2
    go_ret
    exact ⟨by rw [HV.out]; rfl, HB0.out⟩
  by_cases h4 : (N.length : Int) > 16384
  case pos =>
    have HV : Hid (chkF st N O sy pa = false) := hid0 (by unfold chkF; rw [decide_eq_false (by omega)]; rfl)
    go_enter Tryd.func50, Tryd.ntmps50
    go_wp2
    go_ret
    exact ⟨by rw [HV.out]; rfl, HB0.out⟩
  by_cases h5 : (O.length : Int) = (N.length : Int)
  case neg =>
    have HV : Hid (chkF st N O sy pa = false) := hid0 (by unfold chkF; rw [decide_eq_false (by omega)]; rfl)
    go_enter Tryd.func50, Tryd.ntmps50
    go_wp2
    go_ret
    exact ⟨by rw [HV.out]; rfl, HB0.out⟩
  obtain ⟨m0, m1⟩ := mul_small (n := N.length) (sy := sy) (by omega) (by omega) (by omega)
  obtain ⟨q, hq⟩ : ∃ q, q = (N.length : Int) * sy := ⟨_, rfl⟩
  rw [← hq] at m0 m1
  by_cases h6 : q > 4194304
  case pos =>
    have HV : Hid (chkF st N O sy pa = false) := hid0 (by unfold chkF; rw [decide_eq_false (by omega)]; rfl)
    have hq' := hq.symm
    clear hq
    go_enter Tryd.func50, Tryd.ntmps50
    go_wp2
    go_ret
    exact ⟨by rw [HV.out]; rfl, HB0.out⟩
  have HC : Hid (chkF st N O sy pa = (oneOf N.length st && (List.range N.length).all fun j => rowF N.length sy pa (N.getD j []) (O.getD j []))) := hid0 (by unfold chkF; rw [decide_eq_true (by omega), Bool.true_and])
  have hq' := hq.symm
  clear hq
  by_cases g : st < 0
  case pos =>
    have HV : Hid (chkF st N O sy pa = false) := hid0 (by rw [HC.out, (oneOf_not N.length st).2 (by omega)]; rfl)
    clear HC
    go_enter Tryd.func50, Tryd.ntmps50
    go_wp2
    go_ret
    exact ⟨by rw [HV.out]; rfl, HB0.out⟩
  have g0 := g
  clear g
  by_cases g : st ≥ (N.length : Int)
  case pos =>
    have HV : Hid (chkF st N O sy pa = false) := hid0 (by rw [HC.out, (oneOf_not N.length st).2 (by omega)]; rfl)
    clear HC
    go_enter Tryd.func50, Tryd.ntmps50
    go_wp2
    go_ret
    exact ⟨by rw [HV.out]; rfl, HB0.out⟩
  have g1 := g
  clear g
  rw [(oneOf_iff N.length st).2 (by omega), Bool.true_and] at HC
  go_enter Tryd.func50, Tryd.ntmps50
  go_wp2
  go_loopw [8] (fun i wr => ∃ k : Nat, k ≤ N.length ∧ i = .int .i64 (k : Int) ∧ wr = w0 ∧ Hid ((List.range k).all (fun j => rowF N.length sy pa (N.getD j []) (O.getD j [])) = true)) (fun i _ => N.length - (intOf i).toNat)
  case atStart => exact ⟨0, Nat.zero_le _, rfl, rfl, hid0 rfl⟩
  case round =>
    obtain ⟨k, hk, rfl, hwr, HD⟩ := hrel
    subst hwr
    by_cases hlt : k < N.length
    · have hlo : k < O.length := by omega
      obtain ⟨b, off, rfl, _, a1, c1, d1, i1⟩ := HA.out.at' k hlt
      obtain ⟨b2, off2, rfl, _, a2, c2, d2, i2⟩ := HB.out.at' k hlo
      have HI := hid0 i1
      have HRis := hid0 (refRises_any pa O[k] a2 c2 wr (HOr.out _ (List.getElem_mem hlo)) i2)
      have HRow : Hid (rowF N.length sy pa (N.getD k []) (O.getD k []) = (decide ((N[k].length : Int) = sy) && N[k].all (oneOf N.length) && riseF pa 0 O[k])) := hid0 (by rw [getD_at hlt, getD_at hlo]; rfl)
      have hrl := HNr.out _ (List.getElem_mem hlt)
      have hkI : (k : Int) < (N.length : Int) := by omega
      have hkI0 : (0 : Int) ≤ (k : Int) := by omega
      have hkO : (k : Int) < (O.length : Int) := by omega
      clear i1 i2
      generalize N[k] = r at *
      generalize O[k] = o at *
      by_cases g2 : (r.length : Int) = sy
      case neg =>
        have HV : Hid (chkF st N O sy pa = false) := hid0 (by rw [HC.out]; exact range_bad hlt (by rw [HRow.out, decide_eq_false g2]; rfl))
        clear HC HD HRow
        go_wp2
        go_ret
        exact ⟨by rw [HV.out]; rfl, HB0.out⟩
      go_wp2
      go_loopw [9] (fun i w2 => ∃ j : Nat, j ≤ r.length ∧ i = .int .i64 (j : Int) ∧ w2 = wr ∧ Hid ((r.drop j).all (oneOf N.length) = r.all (oneOf N.length))) (fun i _ => r.length - (intOf i).toNat)
      case atStart => exact ⟨0, Nat.zero_le _, rfl, rfl, hid0 rfl⟩
      case round =>
        obtain ⟨j, hj, rfl, hw2, HE⟩ := hrel
        have hw2' := hw2.symm
        subst hw2'
        clear hw2
        by_cases hjl : j < r.length
        · obtain ⟨b3, off3, rfl, _, d3⟩ := HI.out.at' j hjl
          have hjI : (j : Int) < sy := by omega
          have hjL : (j : Int) < (r.length : Int) := by omega
          have hjI0 : (0 : Int) ≤ (j : Int) := by omega
          have HS := hid0 (all_drop (n := N.length) hjl)
          generalize r[j] = s at *
          by_cases q1 : s < 0
          case pos =>
            have HV : Hid (chkF st N O sy pa = false) := hid0 (by rw [HC.out]; exact range_bad hlt (by rw [HRow.out, ← HE.out, HS.out, (oneOf_not N.length s).2 (by omega), Bool.false_and, Bool.and_false]; rfl))
            clear HC HD HRow HE HS
            go_wp2
            go_ret
            exact ⟨by rw [HV.out]; rfl, HB0.out⟩
          by_cases q2 : s ≥ (N.length : Int)
          case pos =>
            have HV : Hid (chkF st N O sy pa = false) := hid0 (by rw [HC.out]; exact range_bad hlt (by rw [HRow.out, ← HE.out, HS.out, (oneOf_not N.length s).2 (by omega), Bool.false_and, Bool.and_false]; rfl))
            clear HC HD HRow HE HS
            go_wp2
            go_ret
            exact ⟨by rw [HV.out]; rfl, HB0.out⟩
          have HE2 : Hid ((r.drop (j + 1)).all (oneOf N.length) = r.all (oneOf N.length)) := hid0 (by rw [← HE.out, HS.out, (oneOf_iff N.length s).2 (by omega), Bool.true_and])
          clear HE HS
          go_wp2
          go_roundw
          case rel => exact ⟨j + 1, by omega, by go_num, trivial, HE2⟩
          case measure => simp [intOf]; omega
        · have hjI : ¬ (j : Int) < sy := by omega
          have HE2 : Hid (r.all (oneOf N.length) = true) := hid0 (by rw [← HE.out]; exact all_end (by omega))
          clear HE
          cases g3 : riseF pa 0 o with
          | false =>
            rw [g3] at HRis
            have HV : Hid (chkF st N O sy pa = false) := hid0 (by rw [HC.out]; exact range_bad hlt (by rw [HRow.out, g3, Bool.and_false]))
            clear HC HD HRow g3
            go_wp2_with (go_at_call 69; refine HRis.out.mono ?_; rintro e w1 ⟨rfl, hw1⟩; have hw1' := hw1.symm; subst hw1'; clear hw1)
            go_ret
            exact ⟨by rw [HV.out]; rfl, HB0.out⟩
          | true =>
            rw [g3] at HRis
            have HD2 : Hid ((List.range (k + 1)).all (fun j => rowF N.length sy pa (N.getD j []) (O.getD j [])) = true) := hid0 (range_snoc HD.out (by rw [HRow.out, HE2.out, g3, decide_eq_true g2]; rfl))
            clear HD HRow g3
            go_wp2_with (go_at_call 69; refine HRis.out.mono ?_; rintro e w1 ⟨rfl, hw1⟩; have hw1' := hw1.symm; subst hw1'; clear hw1)
            go_roundw
            case rel => exact ⟨k + 1, by omega, by go_num, trivial, HD2⟩
            case measure => simp [intOf]; omega
    · have hkI : ¬ (k : Int) < (N.length : Int) := by omega
      have hkn : k = N.length := by omega
      have HV : Hid (chkF st N O sy pa = true) := hid0 (by rw [HC.out]; have h := HD.out; rw [hkn] at h; exact h)
      clear HC HD hkn
      go_wp2
      go_ret
      exact ⟨by rw [HV.out]; rfl, HB0.out⟩
end Go.Proofs.YtekimkdaoblcgaaDoor
namespace Go.Proofs.YtekimkdaoblcgaaDoor
open Go.RowKit Go.Shelf
theorem own_one (w : World) (lo : Nat) (z : Int) (h : lo ≤ w.heap.size) : OwnI (w.alloc (.cells #[.int .i64 z] 3)) lo (.slice (some ⟨w.heap.size, 0, none⟩) 1 1) [z] :=
  ⟨rfl, .inr ⟨w.heap.size, 1, #[.int .i64 z], rfl, h, heap_alloc_new w _, Nat.le_refl _, by decide, rfl, rfl⟩⟩
set_option maxRecDepth 10000 in
set_option maxHeartbeats 1600000 in
theorem refRun_any (st : Int) (N : List (List Int)) (l : List Int) (aN aO aw : Option Addr) (cN nO cO cw : Nat) (w : World) (hNr : ∀ r ∈ N, r.length ≤ 17592186043904) (hl : l.length ≤ 17592186043904) (ha : RwA w aN N) (hb : IA w aw l) :
    Calls Tryd.prog 81 #[.agg #[.int .i64 st, .slice aN N.length cN, .slice aO nO cO], .slice aw l.length cw] w fun e w' => ∃ v, e = .returned (.tuple #[v, .int .i64 (numC (runF N st l).isSome)]) ∧ OwnI w' w.heap.size v ((runF N st l).getD []) ∧ Below w.heap.size w w' := by
  obtain ⟨w0, hw0⟩ : ∃ w0, w0 = w.alloc (.cells #[.int .i64 st, .slice aN N.length cN, .slice aO nO cO] 24) := ⟨_, rfl⟩
  have hB0 : Below w.heap.size w w0 := by rw [hw0]; exact (Below.refl _ _).alloc (Nat.le_refl _) _
  have hX0 : w0.heap[w.heap.size]? = some (.cells #[.int .i64 st, .slice aN N.length cN, .slice aO nO cO] 24 (0, 0)) := by rw [hw0]; exact heap_alloc_new w _
  have hs0 : w0.heap.size = w.heap.size + 1 := by rw [hw0]; simp
  have HB0 := hid0 hB0
  have HS0 := hid0 hs0
  have HA := hid0 (ha.past hB0)
  have HI := hid0 (hb.past hB0)
  have x0 : w0.cell? ⟨w.heap.size, 0, none⟩ = some (.int .i64 st) := by rw [cell_of_row _ _ _ _ _ _ hX0]; rfl
  have x1 : w0.cell? ⟨w.heap.size, 1, none⟩ = some (.slice aN N.length cN) := by rw [cell_of_row _ _ _ _ _ _ hX0]; rfl
  have HX1 := hid0 x1
  have HNr := hid0 hNr
  clear ha hb hB0 hX0 hNr hs0
  have hfold := hw0.symm
  clear hw0
  by_cases g : st < 0
  case pos =>
    have HV : Hid (runF N st l = none) := hid0 (by unfold runF; rw [(oneOf_not N.length st).2 (by omega)]; rfl)
    go_enter Tryd.func81, Tryd.ntmps81
    go_wp2
    go_returns
    refine ⟨.slice none 0 0, ?_, ?_, ?_⟩
    · rw [HV.out]; rfl
    · rw [HV.out]; exact World.ownsRow_nil _ _ _ _
    · exact HB0.out
  have g0 := g
  clear g
  by_cases g : st ≥ (N.length : Int)
  case pos =>
    have HV : Hid (runF N st l = none) := hid0 (by unfold runF; rw [(oneOf_not N.length st).2 (by omega)]; rfl)
    go_enter Tryd.func81, Tryd.ntmps81
    go_wp2
    go_returns
    refine ⟨.slice none 0 0, ?_, ?_, ?_⟩
    · rw [HV.out]; rfl
    · rw [HV.out]; exact World.ownsRow_nil _ _ _ _
    · exact HB0.out
  have g1 := g
  clear g
  obtain ⟨s0, hs0⟩ : ∃ s0 : Nat, st = (s0 : Int) := ⟨st.toNat, by omega⟩
  subst hs0
  have hs0 : s0 < N.length := by omega
  have HR0 : Hid (goF N [(s0 : Int)] s0 (l.drop 0) = runF N (s0 : Int) l) := hid0 (by unfold runF; rw [(oneOf_iff N.length (s0 : Int)).2 (by omega)]; rfl)
  have HO2 : Hid (OwnI (w0.alloc (.cells #[.int .i64 (s0 : Int)] 3)) w0.heap.size (.slice (some ⟨w0.heap.size, 0, none⟩) 1 1) [(s0 : Int)]) := hid0 (own_one w0 _ _ (Nat.le_refl _))
  have HB2 : Hid (Below w0.heap.size w0 (w0.alloc (.cells #[.int .i64 (s0 : Int)] 3))) := hid0 ((Below.refl _ w0).alloc (Nat.le_refl _) _)
  go_enter Tryd.func81, Tryd.ntmps81
  go_wp2
  go_loopw [6, 7, 8] (fun s v i wr => ∃ (k q : Nat) (acc : List Int), k ≤ l.length ∧ q < N.length ∧ s = .int .i64 (q : Int) ∧ i = .int .i64 (k : Int) ∧ Hid (OwnI wr w0.heap.size v acc) ∧ Hid (acc.length = k + 1) ∧ Hid (goF N acc q (l.drop k) = runF N (s0 : Int) l) ∧ Hid (Below w0.heap.size w0 wr)) (fun _ _ i _ => l.length - (intOf i).toNat)
  case atStart => exact ⟨0, s0, [(s0 : Int)], Nat.zero_le _, hs0, rfl, rfl, HO2, hid0 rfl, HR0, HB2⟩
  case round =>
    clear HO2 HB2 HR0 x0 x1
    obtain ⟨k, q, acc, hk, hq, rfl, rfl, HO, HL, HG, HB⟩ := hrel
    have x1 : wr.cell? ⟨w.heap.size, 1, none⟩ = some (.slice aN N.length cN) := (HB.out.cell (p := ⟨w.heap.size, 1, none⟩) (by have := HS0.out; show w.heap.size < w0.heap.size; omega)).trans HX1.out
    by_cases hlt : k < l.length
    · obtain ⟨b, off, rfl, _, d1⟩ := (HI.out.past HB.out).at' k hlt
      obtain ⟨b2, off2, rfl, _, a2, c2, d2, i2⟩ := (HA.out.past HB.out).at' q hq
      have HI2 := hid0 i2
      clear i2
      have hkI : (k : Int) < (l.length : Int) := by omega
      have hkI0 : (0 : Int) ≤ (k : Int) := by omega
      have hqI : (q : Int) < (N.length : Int) := by omega
      have hqI0 : (0 : Int) ≤ (q : Int) := by omega
      have HGD := hid0 (goF_drop (N := N) (acc := acc) (s := q) hlt)
      have hgd := getD_at hq
      have hrl := HNr.out _ (List.getElem_mem hq)
      generalize l[k] = z at *
      by_cases g2 : z < 0
      case pos =>
        have HV : Hid (runF N (s0 : Int) l = none) := hid0 (by rw [← HG.out, HGD.out, stepF_none1 (by rw [hgd]; omega)])
        have hd : decide (z < 0) = true := decide_eq_true g2
        clear HG HGD HO HI2 hgd
        generalize N[q] = r at *
        go_wp2
        go_quiet ((fail))
        go_wp2
        go_returns
        refine ⟨.slice none 0 0, ?_, ?_, ?_⟩
        · rw [HV.out]; rfl
        · rw [HV.out]; exact World.ownsRow_nil _ _ _ _
        · exact Below.later HB0.out (below_drew' HB.out _)
      have hd0 : decide (z < 0) = false := decide_eq_false g2
      by_cases g3 : z ≥ (N[q].length : Int)
      case pos =>
        have HV : Hid (runF N (s0 : Int) l = none) := hid0 (by rw [← HG.out, HGD.out, stepF_none1 (by rw [hgd]; omega)])
        have hd : decide (z ≥ (N[q].length : Int)) = true := decide_eq_true g3
        clear HG HGD HO HI2 hgd
        generalize N[q] = r at *
        go_wp2
        go_quiet ((fail))
        go_wp2
        go_returns
        refine ⟨.slice none 0 0, ?_, ?_, ?_⟩
        · rw [HV.out]; rfl
        · rw [HV.out]; exact World.ownsRow_nil _ _ _ _
        · exact Below.later HB0.out (below_drew' HB.out _)
      obtain ⟨j, rfl⟩ : ∃ j : Nat, z = (j : Int) := ⟨z.toNat, by omega⟩
      have hj : j < N[q].length := by omega
      have HST := hid0 (stepF_at (N := N) (s := q) (k := j) (by rw [hgd]; exact hj))
      have hgj : (N.getD q [])[j]'(by rw [hgd]; exact hj) = N[q][j] := by simp only [hgd]
      rw [hgj] at HST
      clear hgj hgd
      generalize N[q] = r at *
      obtain ⟨b3, off3, rfl, _, d3⟩ := HI2.out.at' j hj
      have hd1 : decide ((j : Int) ≥ (r.length : Int)) = false := decide_eq_false g3
      have hjI : (j : Int) < (r.length : Int) := by omega
      have hjI0 : (0 : Int) ≤ (j : Int) := by omega
      generalize r[j] = t at *
      by_cases q0 : t < 0
      case pos =>
        have HV : Hid (runF N (s0 : Int) l = none) := hid0 (by rw [← HG.out, HGD.out, HST.out, (oneOf_not N.length t).2 (by omega)]; rfl)
        clear HG HGD HO HI2 HST
        go_wp2
        go_quiet ((fail))
        go_wp2
        go_quiet ((fail))
        go_wp2
        go_returns
        refine ⟨.slice none 0 0, ?_, ?_, ?_⟩
        · rw [HV.out]; rfl
        · rw [HV.out]; exact World.ownsRow_nil _ _ _ _
        · exact Below.later HB0.out (below_drew' HB.out _)
      by_cases q1 : t ≥ (N.length : Int)
      case pos =>
        have HV : Hid (runF N (s0 : Int) l = none) := hid0 (by rw [← HG.out, HGD.out, HST.out, (oneOf_not N.length t).2 (by omega)]; rfl)
        clear HG HGD HO HI2 HST
        go_wp2
        go_quiet ((fail))
        go_wp2
        go_quiet ((fail))
        go_wp2
        go_returns
        refine ⟨.slice none 0 0, ?_, ?_, ?_⟩
        · rw [HV.out]; rfl
        · rw [HV.out]; exact World.ownsRow_nil _ _ _ _
        · exact Below.later HB0.out (below_drew' HB.out _)
      obtain ⟨p, rfl⟩ : ∃ p : Nat, t = (p : Int) := ⟨t.toNat, by omega⟩
      have hp : p < N.length := by omega
      have HG2 : Hid (goF N (acc ++ [(p : Int)]) p (l.drop (k + 1)) = runF N (s0 : Int) l) := hid0 (by rw [← HG.out, HGD.out, HST.out, (oneOf_iff N.length (p : Int)).2 (by omega)]; rfl)
      have HO' : Hid (wr.ownsRow w0.heap.size 3 1 u7 (k + 1) (acc.map (Value.int .i64))) := hid0 (by have h := HO.out; unfold OwnI at h; rw [HL.out] at h; exact h)
      clear HG HGD HST HI2
      obtain ⟨i0, hi, hz0, hz1, hz2⟩ := info_parts infoInt
      have hsz := HB.out.size
      go_wp2
      go_quiet ((fail))
      go_wp2
      go_quiet ((fail))
      go_wp2_with (at_builtin; refine wpList_append_own _ rfl _ _ 28 rfl w0.heap.size 3 i0 (.int .i64 0) 1 8 Tryd.underlying28 hi hz0 hz1 hz2 rfl (by decide) _ (k + 1) (acc.map (Value.int .i64)) rfl (World.ownsRow.alloc (show World.ownsRow (World.drewN wr _) _ _ _ _ _ _ from HO'.out) _) ⟨wr.heap.size, 0, none⟩ 1 1 [.int .i64 (p : Int)] rfl rfl (cell_one_new _ _ _) (by simp [Value.oneCell']) (by unfold maxLen; omega) (by omega) (by simp; omega) ?_; intro v2 w4 hown' hgrow _; have HH := hid0 (ownI_snoc (w := w0) (base := w0.heap.size) (L := acc) (c := (p : Int)) (n := k + 1) HL.out.symm (show OwnI (World.drewN wr _) _ _ _ from HO.out) hown' hgrow (below_drew' HB.out _) (Nat.le_refl _)); clear hown' hgrow)
      have HO4 := hid0 HH.out.1
      have HB4 := hid0 HH.out.2
      have HL4 : Hid ((acc ++ [(p : Int)]).length = k + 1 + 1) := hid0 (by rw [List.length_append, HL.out]; rfl)
      clear HH HO HO' HB HL
      go_roundw
      case rel => exact ⟨k + 1, p, _, by omega, hp, rfl, by go_num, HO4, HL4, HG2, HB4⟩
      case measure => simp [intOf]; omega
    · have hkI : ¬ (k : Int) < (l.length : Int) := by omega
      have HV : Hid (runF N (s0 : Int) l = some acc) := hid0 (by rw [← HG.out, List.drop_of_length_le (by omega), goF])
      clear HG
      go_wp2
      go_returns
      refine ⟨u7, ?_, ?_, ?_⟩
      · rw [HV.out]; rfl
      · rw [HV.out]; exact owns_lower HO.out (by have := HS0.out; omega)
      · exact Below.later HB0.out HB.out
end Go.Proofs.YtekimkdaoblcgaaDoor
namespace Go.Proofs.YtekimkdaoblcgaaDoor
open Go.RowKit Go.Shelf
/-- Lists of numbers in memory, with their room. -/
structure RwC (w : World) (a : Option Addr) (L : List (List Int)) : Prop where
  at' : ∀ k (h : k < L.length), ∃ b off, a = some ⟨b, off, none⟩ ∧ b < w.heap.size ∧ ∃ a1 c1, w.cell? ⟨b, off + k, none⟩ = some (.slice a1 (L[k]).length c1) ∧ IA w a1 L[k] ∧ (L[k]).length ≤ c1
theorem RwC.rwa {w : World} {a : Option Addr} {L : List (List Int)} (h : RwC w a L) : RwA w a L := ⟨fun k hk => by
  obtain ⟨b, off, e, h1, a1, c1, h2, h3, _⟩ := h.at' k hk
  exact ⟨b, off, e, h1, a1, c1, h2, h3⟩⟩
theorem RwC.past {w w' : World} {a : Option Addr} {L : List (List Int)} (h : RwC w a L) (hb : Below w.heap.size w w') : RwC w' a L := ⟨fun k hk => by
  obtain ⟨b, off, rfl, h1, a1, c1, h2, h3, h4⟩ := h.at' k hk
  exact ⟨b, off, rfl, Nat.lt_of_lt_of_le h1 hb.size, a1, c1, (hb.cell (p := ⟨b, off + k, none⟩) h1).trans h2, h3.past hb, h4⟩⟩
/-- Bools in memory. -/
structure BoA (w : World) (a : Option Addr) (L : List Bool) : Prop where
  at' : ∀ k (h : k < L.length), ∃ b off, a = some ⟨b, off, none⟩ ∧ b < w.heap.size ∧ w.cell? ⟨b, off + k, none⟩ = some (.bool L[k])
theorem BoA.past {w w' : World} {a : Option Addr} {L : List Bool} (h : BoA w a L) (hb : Below w.heap.size w w') : BoA w' a L := ⟨fun k hk => by
  obtain ⟨b, off, rfl, h1, h2⟩ := h.at' k hk
  exact ⟨b, off, rfl, Nat.lt_of_lt_of_le h1 hb.size, (hb.cell (p := ⟨b, off + k, none⟩) h1).trans h2⟩⟩
/-- A pairing, as lists. -/
structure Prg where
  sl : Int
  N : List (List Int)
  O : List (List Int)
  sr : Int
  M : List (List Int)
  P : List (List Int)
  B : List Bool
  el : Bool
/-- Where it lies. -/
structure PrL where
  aN : Option Addr
  aO : Option Addr
  aM : Option Addr
  aP : Option Addr
  aB : Option Addr
  cN : Nat
  cO : Nat
  cM : Nat
  cP : Nat
  cB : Nat
def prC (p : Prg) (q : PrL) : Array Value := #[.int .i64 p.sl, .slice q.aN p.N.length q.cN, .slice q.aO p.O.length q.cO, .int .i64 p.sr, .slice q.aM p.M.length q.cM, .slice q.aP p.P.length q.cP, .slice q.aB p.B.length q.cB, .bool p.el]
structure PrA (w : World) (p : Prg) (q : PrL) : Prop where
  n : RwC w q.aN p.N
  o : RwC w q.aO p.O
  m : RwC w q.aM p.M
  p' : RwC w q.aP p.P
  b : BoA w q.aB p.B
theorem PrA.past {w w' : World} {p : Prg} {q : PrL} (h : PrA w p q) (hb : Below w.heap.size w w') : PrA w' p q := ⟨h.n.past hb, h.o.past hb, h.m.past hb, h.p'.past hb, h.b.past hb⟩
structure PrS (p : Prg) : Prop where
  n : p.N.length ≤ 1000000000
  m : p.M.length ≤ 1000000000
  b : p.B.length ≤ 1000000000
  nr : ∀ r ∈ p.N, r.length ≤ 1000000000
  or : ∀ r ∈ p.O, r.length ≤ 1000000000
  mr : ∀ r ∈ p.M, r.length ≤ 1000000000
  pr : ∀ r ∈ p.P, r.length ≤ 1000000000
theorem row8p {W : World} {X : Nat} {t : TypeId} {a0 a1 a2 a3 a4 a5 a6 a7 : Value} (h : W.heap[X]? = some (.cells #[a0, a1, a2, a3, a4, a5, a6, a7] t (0, 0))) : (W.cell? ⟨X, 0, none⟩ = some a0 ∧ W.cell? ⟨X, 1, none⟩ = some a1 ∧ W.cell? ⟨X, 2, none⟩ = some a2 ∧ W.cell? ⟨X, 3, none⟩ = some a3) ∧ W.cell? ⟨X, 4, none⟩ = some a4 ∧ W.cell? ⟨X, 5, none⟩ = some a5 ∧ W.cell? ⟨X, 6, none⟩ = some a6 ∧ W.cell? ⟨X, 7, none⟩ = some a7 := by
  refine ⟨⟨?_, ?_, ?_, ?_⟩, ?_, ?_, ?_, ?_⟩ <;> (rw [cell_of_row _ _ _ _ _ _ h]; rfl)
/-- A pairing that is boxed. -/
theorem box_pr (w : World) (p : Prg) (q : PrL) : ∃ w0, w.alloc (.cells #[.int .i64 p.sl, .slice q.aN p.N.length q.cN, .slice q.aO p.O.length q.cO, .int .i64 p.sr, .slice q.aM p.M.length q.cM, .slice q.aP p.P.length q.cP, .slice q.aB p.B.length q.cB, .bool p.el] 27) = w0 ∧ Below w.heap.size w w0 ∧ w0.heap.size = w.heap.size + 1 ∧
    ∀ V : World, Below w0.heap.size w0 V → (V.cell? ⟨w.heap.size, 0, none⟩ = some (.int .i64 p.sl) ∧ V.cell? ⟨w.heap.size, 1, none⟩ = some (.slice q.aN p.N.length q.cN) ∧ V.cell? ⟨w.heap.size, 2, none⟩ = some (.slice q.aO p.O.length q.cO) ∧ V.cell? ⟨w.heap.size, 3, none⟩ = some (.int .i64 p.sr)) ∧ V.cell? ⟨w.heap.size, 4, none⟩ = some (.slice q.aM p.M.length q.cM) ∧ V.cell? ⟨w.heap.size, 5, none⟩ = some (.slice q.aP p.P.length q.cP) ∧ V.cell? ⟨w.heap.size, 6, none⟩ = some (.slice q.aB p.B.length q.cB) ∧ V.cell? ⟨w.heap.size, 7, none⟩ = some (.bool p.el) := by
  refine ⟨_, rfl, (Below.refl _ _).alloc (Nat.le_refl _) _, by simp, fun V hV => ?_⟩
  exact row8p ((hV.block _ (by simp)).trans (heap_alloc_new w _))
end Go.Proofs.YtekimkdaoblcgaaDoor
namespace Go.Proofs.YtekimkdaoblcgaaDoor
open Go.RowKit Go.Shelf Go.Maps
/-- Where a filter lies. -/
structure FlL where
  X : Nat
  T : Nat
  aT : Option Addr
  cT : Nat
  b1 : Nat
  b2 : Nat
  b3 : Nat
/-- The closure that New makes. -/
def clo (f : FlL) : Value := .func (.func 43) #[] #[.pointer (some ⟨f.b1, 0, none⟩), .pointer (some ⟨f.b2, 0, none⟩), .pointer (some ⟨f.b3, 0, none⟩)]
structure FlA (w : World) (p : Prg) (q : PrL) (sup : Bool) (tr : List Int) (E : List (List Int)) (bef : Int) (f : FlL) : Prop where
  row : w.heap[f.X]? = some (.cells #[.int .i64 p.sl, .slice q.aN p.N.length q.cN, .slice q.aO p.O.length q.cO, .int .i64 p.sr, .slice q.aM p.M.length q.cM, .slice q.aP p.P.length q.cP, .slice q.aB p.B.length q.cB, .bool p.el, .bool sup, .slice f.aT tr.length f.cT, .pointer (some ⟨f.T, 0, none⟩), clo f] 68 (0, 0))
  pr : PrA w p q
  tra : IA w f.aT tr
  tri : ∃ lo hi bk mp, TrieAt w lo hi f.T E bk mp
  k1 : w.cell? ⟨f.b1, 0, none⟩ = some (.int .i64 bef)
  k2 : w.cell? ⟨f.b2, 0, none⟩ = some (.bool p.el)
  k3 : w.cell? ⟨f.b3, 0, none⟩ = some (.slice q.aB p.B.length q.cB)
/-- What it is made of. -/
structure FlS (p : Prg) (tr : List Int) (E : List (List Int)) : Prop where
  ps : PrS p
  rs : tr.Pairwise (· < ·)
  tl : tr.length ≤ 1000000000
  good : Good E
  el : E.length ≤ 2000
section
variable {w w' : World} {p : Prg} {q : PrL} {sup : Bool} {tr : List Int} {E : List (List Int)} {bef : Int} {f : FlL}
theorem FlA.past (h : FlA w p q sup tr E bef f) (hb : Below w.heap.size w w') : FlA w' p q sup tr E bef f where
  row := (hb.block _ (Array.getElem?_eq_some_iff.1 h.row).1).trans h.row
  pr := h.pr.past hb
  tra := h.tra.past hb
  tri := by
    obtain ⟨lo, hi, bk, mp, ht⟩ := h.tri
    exact ⟨lo, hi, bk, mp, Tr.past ht hb⟩
  k1 := (hb.cell (p := ⟨f.b1, 0, none⟩) (World.block_lt_of_cell? _ _ h.k1)).trans h.k1
  k2 := (hb.cell (p := ⟨f.b2, 0, none⟩) (World.block_lt_of_cell? _ _ h.k2)).trans h.k2
  k3 := (hb.cell (p := ⟨f.b3, 0, none⟩) (World.block_lt_of_cell? _ _ h.k3)).trans h.k3
theorem FlA.c8 (h : FlA w p q sup tr E bef f) : w.cell? ⟨f.X, 8, none⟩ = some (.bool sup) := by rw [cell_of_row _ _ _ _ _ _ h.row]; rfl
theorem FlA.c9 (h : FlA w p q sup tr E bef f) : w.cell? ⟨f.X, 9, none⟩ = some (.slice f.aT tr.length f.cT) := by rw [cell_of_row _ _ _ _ _ _ h.row]; rfl
theorem FlA.c10 (h : FlA w p q sup tr E bef f) : w.cell? ⟨f.X, 10, none⟩ = some (.pointer (some ⟨f.T, 0, none⟩)) := by rw [cell_of_row _ _ _ _ _ _ h.row]; rfl
theorem FlA.c11 (h : FlA w p q sup tr E bef f) : w.cell? ⟨f.X, 11, none⟩ = some (clo f) := by rw [cell_of_row _ _ _ _ _ _ h.row]; rfl
theorem FlA.cp (h : FlA w p q sup tr E bef f) : (w.cell? ⟨f.X, 0, none⟩ = some (.int .i64 p.sl) ∧ w.cell? ⟨f.X, 1, none⟩ = some (.slice q.aN p.N.length q.cN) ∧ w.cell? ⟨f.X, 2, none⟩ = some (.slice q.aO p.O.length q.cO) ∧ w.cell? ⟨f.X, 3, none⟩ = some (.int .i64 p.sr)) ∧ w.cell? ⟨f.X, 4, none⟩ = some (.slice q.aM p.M.length q.cM) ∧ w.cell? ⟨f.X, 5, none⟩ = some (.slice q.aP p.P.length q.cP) ∧ w.cell? ⟨f.X, 6, none⟩ = some (.slice q.aB p.B.length q.cB) ∧ w.cell? ⟨f.X, 7, none⟩ = some (.bool p.el) := by
  refine ⟨⟨?_, ?_, ?_, ?_⟩, ?_, ?_, ?_, ?_⟩ <;> (rw [cell_of_row _ _ _ _ _ _ h.row]; rfl)
end
end Go.Proofs.YtekimkdaoblcgaaDoor
namespace Go.Proofs.YtekimkdaoblcgaaDoor
open Go.RowKit Go.Shelf Go.Maps
section
variable {w : World} {p : Prg} {q : PrL} {sup : Bool} {tr : List Int} {E : List (List Int)} {bef : Int} {f : FlL}
set_option maxRecDepth 10000 in
set_option maxHeartbeats 800000 in
theorem inTrail_any (x : Int) (h : FlA w p q sup tr E bef f) (hs : FlS p tr E) :
    Calls Tryd.prog 77 #[.pointer (some ⟨f.X, 0, none⟩), .int .i64 x] w fun e w' => e = .returned (.bool (decide (x ∈ tr))) ∧ ∃ n, w' = w.drewN n := by
  have c9 := h.c9
  have HBs : Hid (Calls Tryd.prog 84 #[.slice f.aT tr.length f.cT, .int .i64 x] w fun e w' => ∃ k : Int, e = .returned (.tuple #[.int .i64 k, .bool (decide (x ∈ tr))]) ∧ ∃ n, w' = w.drewN n) := hid0 (by
    by_cases h0 : 0 < tr.length
    · obtain ⟨b, off, e, _, _⟩ := h.tra.at' 0 h0
      rw [e]
      refine (Any.slices_BinarySearch_int Tryd.lays225 b off tr.length f.cT tr x w (Nat.le_refl _) (by have := hs.tl; omega) (fun j hj => ?_) ?_).mono ?_
      · obtain ⟨b', o', e', h1, h2⟩ := h.tra.at' j hj
        rw [e] at e'
        cases e'
        rw [List.getD_eq_getElem?_getD, List.getElem?_eq_getElem hj]
        exact h2
      · rw [List.take_length]
        exact List.Pairwise.imp (fun h => Int.le_of_lt h) hs.rs
      · rintro e w' ⟨rfl, n, rfl⟩
        have hc : tr.contains x = decide (x ∈ tr) := by rw [Bool.eq_iff_iff]; simp
        rw [List.take_length, hc]
        exact ⟨_, rfl, n, rfl⟩
    · have ht : tr = [] := List.length_eq_zero_iff.1 (by omega)
      subst ht
      refine (Any.slices_BinarySearch_int_empty Tryd.lays225 f.aT f.cT x w).mono ?_
      rintro e w' ⟨rfl, hw⟩
      exact ⟨0, rfl, 0, hw⟩)
  clear h hs
  generalize decide (x ∈ tr) = b at *
  go_enter Tryd.func77, Tryd.ntmps77
  go_wp2_with (go_at_call 84; go_loud ((
    refine HBs.out.mono ?_
    rintro e w1 ⟨k, rfl, n, rfl⟩)))
  go_ret
  exact ⟨rfl, n, rfl⟩
set_option maxRecDepth 10000 in
set_option maxHeartbeats 800000 in
theorem trailed_any (l : List Int) (aw : Option Addr) (cw k : Nat) (h : FlA w p q sup tr E bef f) (hs : FlS p tr E) (hl : l.length ≤ 1000000000) (ha : IA w aw l) (hk : k ≤ l.length) :
    Calls Tryd.prog 68 #[.pointer (some ⟨f.X, 0, none⟩), .slice aw l.length cw, .int .i64 (k : Int)] w fun e w' => e = .returned (.int .i64 (trl tr l k : Int)) ∧ Below w.heap.size w w' := by
  have HF := hid0 h
  have HS := hid0 hs
  have HA := hid0 ha
  clear h hs ha
  go_enter Tryd.func68, Tryd.ntmps68
  go_wp2
  go_loopw [2] (fun x wr => ∃ j : Nat, j ≤ l.length ∧ x = .int .i64 (j : Int) ∧ Hid (trl tr l j = trl tr l k) ∧ Hid (Below w.heap.size w wr)) (fun x _ => l.length - (intOf x).toNat)
  case atStart => exact ⟨k, hk, rfl, hid0 rfl, hid0 (Below.refl _ _)⟩
  case round =>
    obtain ⟨j, hj, rfl, HT, HB⟩ := hrel
    by_cases hlt : j < l.length
    · obtain ⟨b, off, rfl, _, c1⟩ := (HA.out.past HB.out).at' j hlt
      have hjI : (j : Int) < (l.length : Int) := by omega
      have hjI0 : (0 : Int) ≤ (j : Int) := by omega
      have HIt := hid0 (inTrail_any l[j] (HF.out.past HB.out) HS.out)
      have HTi : Hid (l[j] ∈ tr → trl tr l j = trl tr l (j + 1)) := hid0 (fun hx => trl_in hlt hx)
      have HTo : Hid (l[j] ∉ tr → trl tr l j = j) := hid0 (fun hx => trl_out hlt hx)
      generalize l[j] = x at *
      by_cases hx : x ∈ tr
      · rw [decide_eq_true hx] at HIt
        have HT2 : Hid (trl tr l (j + 1) = trl tr l k) := hid0 (by rw [← HTi.out hx]; exact HT.out)
        have HI2 : Hid (Calls Tryd.prog 77 #[.pointer (some ⟨f.X, 0, none⟩), .int .i64 x] wr fun e w' => e = .returned (.bool true) ∧ Below wr.heap.size wr w') := hid0 (HIt.out.mono (by
          rintro e w1 ⟨rfl, n, rfl⟩
          exact ⟨rfl, below_drew' (Below.refl _ _) n⟩))
        clear hx HTi HTo HT HIt
        go_wp2_with (go_at_call 77; go_loud ((
          refine HI2.out.mono ?_
          rintro e w1 ⟨rfl, hb1⟩
          have HB1 := hid0 (Below.later HB.out hb1)
          clear hb1)))
        go_roundw
        case rel => exact ⟨j + 1, hlt, by go_num, HT2, HB1⟩
        case measure => simp [intOf]; omega
      · rw [decide_eq_false hx] at HIt
        have HT2 : Hid (trl tr l k = j) := hid0 (by rw [← HT.out]; exact HTo.out hx)
        have HI2 : Hid (Calls Tryd.prog 77 #[.pointer (some ⟨f.X, 0, none⟩), .int .i64 x] wr fun e w' => e = .returned (.bool false) ∧ Below wr.heap.size wr w') := hid0 (HIt.out.mono (by
          rintro e w1 ⟨rfl, n, rfl⟩
          exact ⟨rfl, below_drew' (Below.refl _ _) n⟩))
        clear hx HTi HTo HT HIt
        go_wp2_with (go_at_call 77; go_loud ((
          refine HI2.out.mono ?_
          rintro e w1 ⟨rfl, hb1⟩
          have HB1 := hid0 (Below.later HB.out hb1)
          clear hb1)))
        go_ret
        exact ⟨by rw [HT2.out]; rfl, HB1.out⟩
    · have hjI : ¬ (j : Int) < (l.length : Int) := by omega
      have HT2 : Hid (trl tr l k = j) := hid0 (by rw [← HT.out]; exact trl_end (by omega))
      clear HT
      go_wp2
      go_ret
      exact ⟨by rw [HT2.out]; rfl, HB.out⟩
end
end Go.Proofs.YtekimkdaoblcgaaDoor
namespace Go.Proofs.YtekimkdaoblcgaaDoor
open Go.RowKit Go.Maps Go.ChangeShapes Go.Shelf
theorem law2 : Keyed Tryd.prog 110 := Keyed.of_law (deep_law_laid (m := 5) (by kernel_rfl) (by decide) (of_decide_eq_true (by kernel_rfl)) (by kernel_rfl) (by kernel_rfl))
theorem keyType2 : Tryd.prog.keyType 110 = true := by kernel_rfl
theorem cells2 : Tryd.prog.cellsOf 110 = 2 := by kernel_rfl
theorem cellsI1 : Tryd.prog.cellsOf 3 = 1 := by kernel_rfl
theorem types2 : ∃ m, Tryd.prog.types.size = m + 1 := ⟨Tryd.prog.types.size - 1, by kernel_rfl⟩
structure inN (x : Nat) : Prop where
  le : x ≤ 1000000000000
theorem wfN {x : Nat} (h : inN x) : (Lit.int .i64 (x : Int)).wf = true := by have h := h.le; simp [Lit.wf, IntKind.min, IntKind.max, IntKind.bits, IntKind.signed]; omega
theorem key2_some {x y : Nat} (hx : inN x) (hy : inN y) : ∃ l, keyOf Tryd.prog 110 (.agg #[.int .i64 (x : Int), .int .i64 (y : Int)]) = some l := by
  obtain ⟨m, hm⟩ := types2
  have one : ∀ z : Nat, inN z → Tryd.prog.keyLits (m + 1) 3 [.int .i64 (z : Int)] = some [.int .i64 (z : Int)] := fun z hz => by
    unfold Program.keyLits
    simp only [Tryd.underlying3]
    rw [if_pos ⟨trivial, wfN hz⟩]
  have hk : ∃ ls, Tryd.prog.keyLits (m + 1 + 1) 110 [.int .i64 (x : Int), .int .i64 (y : Int)] = some ls := by
    unfold Program.keyLits
    simp only [Tryd.underlying110]
    rw [if_pos (by rw [cells2]; rfl)]
    refine ⟨[.int .i64 (x : Int), .int .i64 (y : Int)], ?_⟩
    rw [cellsI1]
    have h0 : Tryd.prog.keyLits (m + 1) 3 ((([Value.int .i64 (x : Int), .int .i64 (y : Int)]).drop (0 * 1)).take 1) = some [.int .i64 (x : Int)] := one x hx
    have h1 : Tryd.prog.keyLits (m + 1) 3 ((([Value.int .i64 (x : Int), .int .i64 (y : Int)]).drop (1 * 1)).take 1) = some [.int .i64 (y : Int)] := one y hy
    have hr : List.range 2 = [0, 1] := rfl
    rw [hr]
    simp only [List.mapM_cons, List.mapM_nil, h0, h1]
    rfl
  obtain ⟨ls, hls⟩ := hk
  refine ⟨.string (keyBytes ls), ?_⟩
  unfold keyOf
  simp only [Tryd.underlying110]
  rw [if_pos (by simp [keyType2, Value.formed, Tryd.underlying110, cells2]), hm]
  simp only [Value.cells, hls, Option.map_some]
noncomputable def key2 (x y : Nat) : Lit := (keyOf Tryd.prog 110 (.agg #[.int .i64 (x : Int), .int .i64 (y : Int)])).getD (.bool false)
theorem key2_of {x y : Nat} (hx : inN x) (hy : inN y) : keyOf Tryd.prog 110 (.agg #[.int .i64 (x : Int), .int .i64 (y : Int)]) = some (key2 x y) := by
  obtain ⟨l, hl⟩ := key2_some hx hy
  rw [key2, hl]; rfl
theorem key2_inj {x y u v : Nat} (hx : inN x) (hy : inN y) (hu : inN u) (hv : inN v) (h : key2 x y = key2 u v) : x = u ∧ y = v := by
  have h1 := key2_of hx hy
  have h2 := key2_of hu hv
  rw [h] at h1
  have := law2.inj h1 h2
  simp only [Value.agg.injEq, Array.mk.injEq, List.cons.injEq, Value.int.injEq, true_and, and_true] at this
  omega
set_option maxRecDepth 100000 in
theorem key2_lit {x y : Nat} (hx : inN x) (hy : inN y) : WideAt.IsKeyLit (key2 x y) := law2.key (key2_of hx hy)
/-- The map in block B knows nothing but what f says; it has q entries at most. -/
def Kn2 (w : World) (B q : Nat) (f : Nat → Nat → Int) : Prop :=
  ∃ (n : Nat) (D : DataW Unit), w.ownsMap Tryd.prog 110 (plainElem Tryd.prog 3) B n D ∧ n ≤ q ∧ ∀ x y, inN x → inN y → Maps.has D (key2 x y) = true → D.atKey (key2 x y) (.lit (.int .i64 0)) = .lit (.int .i64 (f x y))
theorem Kn2.made (w : World) (f : Nat → Nat → Int) : Kn2 (w.alloc (.map #[] 0)) w.heap.size 0 f :=
  ⟨0, .map [], World.ownsMap_made w _ _ _, Nat.le_refl _, fun x y _ _ h => by cases h⟩
theorem Kn2.lt {w : World} {B q : Nat} {f : Nat → Nat → Int} (h : Kn2 w B q f) : B < w.heap.size := by
  obtain ⟨n, D, h1, _⟩ := h
  exact h1.lt
theorem Kn2.block {w w' : World} {B q : Nat} {f : Nat → Nat → Int} (h : Kn2 w B q f) (hb : w'.heap[B]? = w.heap[B]?) : Kn2 w' B q f := by
  obtain ⟨n, D, ⟨es, clock, h1, h2⟩, h3⟩ := h
  exact ⟨n, D, ⟨es, clock, hb.trans h1, h2⟩, h3⟩
/-- What a look says: what f says, or that it is not there. -/
theorem Kn2.look {w : World} {B q x y : Nat} {f : Nat → Nat → Int} (h : Kn2 w B q f) (hx : inN x) (hy : inN y) :
    (Instr.lookup 109 (.map (some B)) (.agg #[.int .i64 (x : Int), .int .i64 (y : Int)]) true).run Tryd.prog w = .ok (.tuple #[.int .i64 (f x y), .bool true]) w ∨ ∃ z, (Instr.lookup 109 (.map (some B)) (.agg #[.int .i64 (x : Int), .int .i64 (y : Int)]) true).run Tryd.prog w = .ok (.tuple #[.int .i64 z, .bool false]) w := by
  obtain ⟨n, D, h1, _, hs⟩ := h
  obtain ⟨v, ps, hrun, hv⟩ := h1.look_ok (t := 109) law2 Tryd.underlying109 (Tryd.zeroValue3 w) (plainElem_int Tryd.underlying3 (by decide)) (key2_of hx hy)
  obtain ⟨c, rfl, hcc, _⟩ := plainElem_int_inv Tryd.underlying3 hv
  cases e : Maps.has D (key2 x y) with
  | false => rw [e] at hrun; exact .inr ⟨c, hrun⟩
  | true =>
    rw [e] at hrun
    have e1 := congrArg Prod.fst hcc
    have e2 := hs x y hx hy e
    simp only [e2] at e1
    injection e1 with e1
    injection e1 with _ e1
    rw [← e1] at hrun
    exact .inl hrun
theorem kn_put {D : DataW Unit} {K : Nat → Nat → Lit} {x y : Nat} {f : Nat → Nat → Int} (hlit : WideAt.IsKeyLit (K x y)) (hinj : ∀ u v, inN u → inN v → K u v = K x y → u = x ∧ v = y) (hD : Maps.IsMap D) (h : ∀ u v, inN u → inN v → Maps.has D (K u v) = true → D.atKey (K u v) (.lit (.int .i64 0)) = .lit (.int .i64 (f u v))) :
    ∀ u v, inN u → inN v → Maps.has (D.put (K x y) (.lit (.int .i64 (f x y)))) (K u v) = true → (D.put (K x y) (.lit (.int .i64 (f x y)))).atKey (K u v) (.lit (.int .i64 0)) = .lit (.int .i64 (f u v)) := by
  intro u v hu hv hh
  by_cases e : u = x ∧ v = y
  · obtain ⟨e1, e2⟩ := e
    rw [e1, e2]
    exact Maps.atKey_put_same hD hlit _ _
  · have hne : K u v ≠ K x y := fun q => e (hinj u v hu hv q)
    rw [Maps.has_put_other hne] at hh
    rw [Maps.atKey_put_other hne]
    exact h u v hu hv hh
set_option maxRecDepth 100000 in
theorem key2_lit' (x y : Nat) (hx : inN x) (hy : inN y) (k : Lit) (hk : k = key2 x y) : WideAt.IsKeyLit k := by
  subst hk
  exact law2.key (key2_of hx hy)
set_option maxRecDepth 100000 in
theorem Kn2.put {w : World} {B q x y : Nat} {f : Nat → Nat → Int} (h : Kn2 w B q f) (hx : inN x) (hy : inN y) (hq : q ≤ 1000000000) (hf : (Lit.int .i64 (f x y)).wf = true) :
    ∃ w', (Instr.mapUpdate 109 (.map (some B)) (.agg #[.int .i64 (x : Int), .int .i64 (y : Int)]) (.int .i64 (f x y))).run Tryd.prog w = .ok () w' ∧ Kn2 w' B (q + 1) f ∧ w.grownBy w' (some B) := by
  obtain ⟨n, D, h1, hn, hs⟩ := h
  obtain ⟨w', hrun, h2, h3⟩ := h1.update (t := 109) law2 Tryd.underlying109 (by unfold maxLen; omega) (key2_of hx hy) (plainElem_int Tryd.underlying3 hf)
  have hl : WideAt.IsKeyLit (key2 x y) := law2.key (key2_of hx hy)
  have hI : ∀ u v, inN u → inN v → key2 u v = key2 x y → u = x ∧ v = y := fun u v hu hv q => key2_inj hu hv hx hy q
  have hp := kn_put (K := key2) (x := x) (y := y) (f := f) (D := D) hl hI (World.ownsMap.isMap h1) hs
  exact ⟨w', hrun, ⟨n + 1, _, h2, Nat.succ_le_succ hn, hp⟩, h3⟩
end Go.Proofs.YtekimkdaoblcgaaDoor
