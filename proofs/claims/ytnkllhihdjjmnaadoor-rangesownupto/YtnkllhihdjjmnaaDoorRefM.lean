/-
  The document's own way with ranges: put in order one by one, joined, turned round.
-/
import Derived.Test.YtnkllhihdjjmnaaDoorRgM
namespace Go.Proofs.YtnkllhihdjjmnaaDoor
def Ris (l : List (Int × Int)) : Prop := l.Pairwise (fun x y => x.1 ≤ y.1)
def putL : List (Int × Int) → Int × Int → List (Int × Int)
  | [], x => [x]
  | r :: l, x => if x.1 < r.1 then x :: r :: l else r :: putL l x
theorem putL_perm : ∀ (l : List (Int × Int)) (x : Int × Int), (putL l x).Perm (x :: l)
  | [], _ => List.Perm.refl _
  | r :: l, x => by
    unfold putL
    split
    · exact List.Perm.refl _
    · exact ((putL_perm l x).cons r).trans (List.Perm.swap x r l)
theorem putL_ris : ∀ {l : List (Int × Int)} (x : Int × Int), Ris l → Ris (putL l x)
  | [], x, _ => List.pairwise_singleton _ _
  | r :: l, x, h => by
    have h1 := List.pairwise_cons.1 h
    unfold putL
    split
    · refine List.pairwise_cons.2 ⟨fun y hy => ?_, h⟩
      rcases List.mem_cons.1 hy with rfl | hy
      · omega
      · have := h1.1 y hy; omega
    · refine List.pairwise_cons.2 ⟨fun y hy => ?_, putL_ris x h1.2⟩
      rcases List.mem_cons.1 ((putL_perm l x).mem_iff.1 hy) with rfl | hy
      · omega
      · exact h1.1 y hy
theorem putL_len (l : List (Int × Int)) (x : Int × Int) : (putL l x).length = l.length + 1 := by rw [(putL_perm l x).length_eq, List.length_cons]
theorem ris_snoc {l : List (Int × Int)} {x : Int × Int} (h : Ris l) (hx : ∀ y ∈ l, y.1 ≤ x.1) : Ris (l ++ [x]) := by
  refine List.pairwise_append.2 ⟨h, List.pairwise_singleton _ _, fun a ha b hb => ?_⟩
  obtain rfl : b = x := by simpa using hb
  exact hx a ha
theorem ris_last {l : List (Int × Int)} {y : Int × Int} (h : Ris (l ++ [y])) : ∀ z ∈ l ++ [y], z.1 ≤ y.1 := fun z hz => by
  rcases List.mem_append.1 hz with hz | hz
  · exact (List.pairwise_append.1 h).2.2 z hz y (by simp)
  · obtain rfl : z = y := by simpa using hz
    exact Int.le_refl _
theorem pts_perm {l m : List (Int × Int)} (h : l.Perm m) (p : Int) : pts l p = pts m p := by
  rw [Bool.eq_iff_iff]
  simp only [pts, List.any_eq_true]
  exact ⟨fun ⟨x, hx, hh⟩ => ⟨x, h.mem_iff.1 hx, hh⟩, fun ⟨x, hx, hh⟩ => ⟨x, h.mem_iff.2 hx, hh⟩⟩
theorem may_perm {l m : List (Int × Int)} (h : l.Perm m) (hm : mayL m = true) : mayL l = true := List.all_eq_true.2 fun x hx => List.all_eq_true.1 hm x (h.mem_iff.1 hx)
/-- How the joining stands behind some ranges of a rising list. -/
structure Joined (dn out : List (Int × Int)) : Prop where
  norm : NormF 0 out
  same : ∀ p, pts out p = pts dn p
theorem norm_lastle : ∀ {l : List (Int × Int)} {a lo hi : Int}, NormF a (l ++ [(lo, hi)]) → ∀ r ∈ l, r.2 + 2 ≤ lo
  | s :: l, a, lo, hi, ⟨g1, g2, g3, g4⟩, r, hr => by
    rcases List.mem_cons.1 hr with rfl | hr
    · have h : pts (l ++ [(lo, hi)]) lo = true := by
        have := norm_mem g4 (lo, hi) (by simp)
        rw [pts_append, pts_cons, (hasR_iff (lo, hi) lo).2 ⟨Int.le_refl _, this.2.1⟩]
        simp
      exact (NormF.ge g4 h).1
    · exact norm_lastle g4 r hr
theorem norm_stretch : ∀ {l : List (Int × Int)} {a lo hi hi' : Int}, NormF a (l ++ [(lo, hi)]) → hi ≤ hi' → hi' ≤ 1114111 → NormF a (l ++ [(lo, hi')])
  | [], _, _, _, _, ⟨g1, g2, _, _⟩, h1, h2 => ⟨g1, Int.le_trans g2 h1, h2, trivial⟩
  | _ :: _, _, _, _, _, ⟨g1, g2, g3, g4⟩, h1, h2 => ⟨g1, g2, g3, norm_stretch g4 h1 h2⟩
theorem Joined.start : Joined [] [] := ⟨trivial, fun _ => rfl⟩
theorem Joined.first {dn : List (Int × Int)} {x : Int × Int} (h : Joined dn []) (hx : mayR x = true) : Joined (dn ++ [x]) [x] := by
  have hm := (mayR_iff x).1 hx
  refine ⟨⟨hm.1, hm.2.2, hm.2.1, trivial⟩, fun p => ?_⟩
  rw [pts_append, ← h.same p, pts_nil, Bool.false_or]
theorem Joined.apart {dn l : List (Int × Int)} {lo hi : Int} {x : Int × Int} (h : Joined dn (l ++ [(lo, hi)])) (hx : mayR x = true) (hl : ¬ x.1 ≤ hi + 1) : Joined (dn ++ [x]) (l ++ [(lo, hi)] ++ [x]) := by
  have hm := (mayR_iff x).1 hx
  refine ⟨norm_snoc h.norm hm.1 (fun r hr => ?_) hm.2.2 hm.2.1, fun p => ?_⟩
  · have h2 := norm_mem h.norm (lo, hi) (by simp)
    simp only at h2
    rcases List.mem_append.1 hr with hr | hr
    · have := norm_lastle h.norm r hr; omega
    · obtain rfl : r = (lo, hi) := by simpa using hr
      simp only
      omega
  · rw [pts_append, pts_append dn, h.same p]
theorem Joined.within {dn l : List (Int × Int)} {lo hi : Int} {x : Int × Int} (h : Joined dn (l ++ [(lo, hi)])) (h0 : lo ≤ x.1) (hl : ¬ hi < x.2) : Joined (dn ++ [x]) (l ++ [(lo, hi)]) := by
  refine ⟨h.norm, fun p => ?_⟩
  rw [pts_append dn, ← h.same p, pts_cons, pts_nil, Bool.or_false]
  cases e : hasR x p with
  | false => rw [Bool.or_false]
  | true =>
    have h1 := (hasR_iff x p).1 e
    rw [Bool.or_true, pts_append, pts_cons, (hasR_iff (lo, hi) p).2 ⟨by simp only; omega, by simp only; omega⟩]
    simp
theorem Joined.longer {dn l : List (Int × Int)} {lo hi : Int} {x : Int × Int} (h : Joined dn (l ++ [(lo, hi)])) (hx : mayR x = true) (h0 : lo ≤ x.1) (h1 : x.1 ≤ hi + 1) (h2 : hi < x.2) : Joined (dn ++ [x]) (l ++ [(lo, x.2)]) := by
  have hm := (mayR_iff x).1 hx
  refine ⟨norm_stretch h.norm (by omega) hm.2.1, fun p => ?_⟩
  have h3 := norm_mem h.norm (lo, hi) (by simp)
  simp only at h3
  have e : hasR (lo, x.2) p = (hasR (lo, hi) p || hasR x p) := by
    rw [Bool.eq_iff_iff, Bool.or_eq_true, hasR_iff, hasR_iff, hasR_iff]
    simp only
    omega
  rw [pts_append dn, ← h.same p, pts_append, pts_append, pts_cons, pts_cons, pts_cons, pts_nil, e]
  simp only [Bool.or_false, Bool.or_assoc]
/-- How the turning round stands behind some ranges of a normal list. -/
structure Turned (dn : List (Int × Int)) (at' : Int) (out : List (Int × Int)) : Prop where
  lo : 0 ≤ at'
  hi : at' ≤ 1114112
  norm : NormF 0 out
  end' : ∀ r ∈ out, r.2 + 2 ≤ at'
  past : ∀ r ∈ dn, r.2 < at'
  same : ∀ p, pts out p = (decide (0 ≤ p) && (decide (p < at') && !pts dn p))
theorem Turned.start : Turned [] 0 [] := ⟨Int.le_refl _, by omega, trivial, fun r hr => (by cases hr), fun r hr => (by cases hr), fun p => by
  simp only [pts_nil, Bool.not_false, Bool.and_true]
  by_cases h : 0 ≤ p
  · rw [decide_eq_true h, decide_eq_false (by omega)]; rfl
  · rw [decide_eq_false h]; rfl⟩
theorem pts_none {l : List (Int × Int)} {p : Int} (h : ∀ r ∈ l, r.2 < p) : pts l p = false := by
  cases e : pts l p with
  | false => rfl
  | true =>
    have : ∃ r ∈ l, hasR r p = true := by simpa [pts] using e
    obtain ⟨r, hr, hh⟩ := this
    have h1 := h r hr
    have h2 := (hasR_iff r p).1 hh
    omega
theorem Turned.step {dn out : List (Int × Int)} {at' : Int} {x : Int × Int} (h : Turned dn at' out) (h1 : at' ≤ x.1) (h2 : x.1 ≤ x.2) (h3 : x.2 ≤ 1114111) :
    Turned (dn ++ [x]) (x.2 + 1) (if at' < x.1 then out ++ [(at', x.1 - 1)] else out) := by
  have hlo := h.lo
  refine ⟨by omega, by omega, ?_, fun r hr => ?_, fun r hr => ?_, fun p => ?_⟩
  · split
    · exact norm_snoc h.norm h.lo h.end' (by omega) (by omega)
    · exact h.norm
  · split at hr
    · rcases List.mem_append.1 hr with hr | hr
      · have := h.end' r hr; omega
      · obtain rfl : r = (at', x.1 - 1) := by simpa using hr
        simp only
        omega
    · have := h.end' r hr; omega
  · rcases List.mem_append.1 hr with hr | hr
    · have := h.past r hr; omega
    · obtain rfl : r = x := by simpa using hr
      omega
  · have hsame := h.same p
    have hout : pts (if at' < x.1 then out ++ [(at', x.1 - 1)] else out) p = (pts out p || (decide (at' ≤ p) && decide (p < x.1))) := by
      split
      · rw [pts_append, pts_cons, pts_nil, Bool.or_false]
        congr 1
        unfold hasR
        simp only
        congr 1
        exact decide_eq_decide.2 (by omega)
      · have : (decide (at' ≤ p) && decide (p < x.1)) = false := by
          rw [Bool.and_eq_false_iff, decide_eq_false_iff_not, decide_eq_false_iff_not]
          omega
        rw [this, Bool.or_false]
    rw [hout, hsame, pts_append, pts_cons, pts_nil, Bool.or_false]
    by_cases c1 : p < at'
    · have e1 : hasR x p = false := by
        cases e : hasR x p with
        | false => rfl
        | true => have := (hasR_iff x p).1 e; omega
      rw [e1, Bool.or_false, decide_eq_true c1, decide_eq_true (show p < x.2 + 1 by omega), decide_eq_false (show ¬ at' ≤ p by omega)]
      simp
    · have e0 : pts dn p = false := pts_none (fun r hr => by have := h.past r hr; omega)
      rw [e0, decide_eq_false c1, decide_eq_true (show at' ≤ p by omega), decide_eq_true (show 0 ≤ p by omega)]
      by_cases c2 : p < x.1
      · have e1 : hasR x p = false := by
          cases e : hasR x p with
          | false => rfl
          | true => have := (hasR_iff x p).1 e; omega
        rw [e1, decide_eq_true c2, decide_eq_true (show p < x.2 + 1 by omega)]
        rfl
      · rw [decide_eq_false c2]
        by_cases c3 : p ≤ x.2
        · rw [(hasR_iff x p).2 ⟨by omega, c3⟩]
          simp
        · rw [decide_eq_false (show ¬ p < x.2 + 1 by omega)]
          rfl
theorem Turned.done {dn out : List (Int × Int)} {at' : Int} (h : Turned dn at' out) : NormF 0 (if at' ≤ 1114111 then out ++ [(at', 1114111)] else out) ∧ ∀ p, pts (if at' ≤ 1114111 then out ++ [(at', 1114111)] else out) p = ((decide (0 ≤ p) && decide (p ≤ 1114111)) && !pts dn p) := by
  have hlo := h.lo
  have hhi := h.hi
  refine ⟨?_, fun p => ?_⟩
  · split
    · exact norm_snoc h.norm h.lo h.end' (by omega) (Int.le_refl _)
    · exact h.norm
  · have hout : pts (if at' ≤ 1114111 then out ++ [(at', 1114111)] else out) p = (pts out p || (decide (at' ≤ p) && decide (p ≤ 1114111))) := by
      split
      · rw [pts_append, pts_cons, pts_nil, Bool.or_false]
        rfl
      · have : (decide (at' ≤ p) && decide (p ≤ 1114111)) = false := by
          rw [Bool.and_eq_false_iff, decide_eq_false_iff_not, decide_eq_false_iff_not]
          omega
        rw [this, Bool.or_false]
    rw [hout, h.same p]
    by_cases c1 : p < at'
    · rw [decide_eq_true c1, decide_eq_false (show ¬ at' ≤ p by omega), decide_eq_true (show p ≤ 1114111 by omega)]
      simp
    · have e0 : pts dn p = false := pts_none (fun r hr => by have := h.past r hr; omega)
      rw [e0, decide_eq_false c1, decide_eq_true (show at' ≤ p by omega), decide_eq_true (show 0 ≤ p by omega)]
      simp
end Go.Proofs.YtnkllhihdjjmnaaDoor
