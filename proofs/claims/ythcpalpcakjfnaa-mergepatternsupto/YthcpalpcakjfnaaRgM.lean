/-
  Sets of numbers as lists of ranges: plain arithmetic.
-/
import Derived.WalkKit
namespace Go.Proofs.Ythcpalpcakjfnaa
def hasR (r : Int × Int) (p : Int) : Bool := decide (r.1 ≤ p) && decide (p ≤ r.2)
def pts (l : List (Int × Int)) (p : Int) : Bool := l.any (fun r => hasR r p)
def mayR (r : Int × Int) : Bool := decide (0 ≤ r.1) && (decide (r.2 ≤ 1114111) && decide (r.1 ≤ r.2))
def mayL (l : List (Int × Int)) : Bool := l.all mayR
/-- Rising and parted, from a number on. -/
def NormF : Int → List (Int × Int) → Prop
  | _, [] => True
  | lo, r :: l => lo ≤ r.1 ∧ r.1 ≤ r.2 ∧ r.2 ≤ 1114111 ∧ NormF (r.2 + 2) l
theorem pts_nil (p : Int) : pts [] p = false := rfl
theorem pts_cons (r : Int × Int) (l : List (Int × Int)) (p : Int) : pts (r :: l) p = (hasR r p || pts l p) := by simp [pts]
theorem pts_append (l m : List (Int × Int)) (p : Int) : pts (l ++ m) p = (pts l p || pts m p) := by simp [pts]
theorem hasR_iff (r : Int × Int) (p : Int) : hasR r p = true ↔ r.1 ≤ p ∧ p ≤ r.2 := by simp [hasR]
theorem mayR_iff (r : Int × Int) : mayR r = true ↔ 0 ≤ r.1 ∧ r.2 ≤ 1114111 ∧ r.1 ≤ r.2 := by simp [mayR]
theorem NormF.mono {a b : Int} (h : a ≤ b) : ∀ {l : List (Int × Int)}, NormF b l → NormF a l
  | [], _ => trivial
  | _ :: _, ⟨h1, h2⟩ => ⟨Int.le_trans h h1, h2⟩
theorem NormF.ge : ∀ {a : Int} {l : List (Int × Int)} {p : Int}, NormF a l → pts l p = true → a ≤ p ∧ p ≤ 1114111
  | _, [], _, _, hp => by simp [pts] at hp
  | a, r :: l, p, ⟨h1, h2, h3, h4⟩, hp => by
    rw [pts_cons, Bool.or_eq_true, hasR_iff] at hp
    rcases hp with hp | hp
    · omega
    · have := NormF.ge h4 hp; omega
theorem norm_head {a : Int} {r : Int × Int} {l : List (Int × Int)} (h : NormF a (r :: l)) : pts (r :: l) r.1 = true := by
  rw [pts_cons, (hasR_iff r r.1).2 ⟨Int.le_refl _, h.2.1⟩, Bool.true_or]
theorem norm_le {a b : Int} {r s : Int × Int} {l m : List (Int × Int)} (hl : NormF a (r :: l)) (hm : NormF b (s :: m)) (h : ∀ p, pts (r :: l) p = pts (s :: m) p) : s.1 ≤ r.1 := by
  have := norm_head hl
  rw [h] at this
  exact (NormF.ge (a := s.1) (show NormF s.1 (s :: m) from ⟨Int.le_refl _, hm.2⟩) this).1
theorem norm_le2 {a : Int} {r s : Int × Int} {l m : List (Int × Int)} (hl : NormF a (r :: l)) (h1 : r.1 = s.1) (h : ∀ p, pts (r :: l) p = pts (s :: m) p) : s.2 ≤ r.2 := by
  refine Int.not_lt.1 fun hlt => ?_
  have h2 : pts (s :: m) (r.2 + 1) = true := by
    have := hl.2.1
    rw [pts_cons, (hasR_iff s _).2 ⟨by omega, by omega⟩, Bool.true_or]
  rw [← h, pts_cons, Bool.or_eq_true, hasR_iff] at h2
  rcases h2 with h2 | h2
  · omega
  · have := NormF.ge hl.2.2.2 h2; omega
theorem norm_tail {a : Int} {r : Int × Int} {l m : List (Int × Int)} (hl : NormF a (r :: l)) (h : ∀ p, pts (r :: l) p = pts (r :: m) p) (p : Int) (hp : pts l p = true) : pts m p = true := by
  have h1 := NormF.ge hl.2.2.2 hp
  have h2 : pts (r :: l) p = true := by rw [pts_cons, hp, Bool.or_true]
  rw [h, pts_cons, Bool.or_eq_true, hasR_iff] at h2
  rcases h2 with h2 | h2
  · omega
  · exact h2
/-- There is one normal list of a set. -/
theorem norm_uniq : ∀ {l m : List (Int × Int)} {a b : Int}, NormF a l → NormF b m → (∀ p, pts l p = pts m p) → l = m
  | [], [], _, _, _, _, _ => rfl
  | [], s :: m, _, _, _, hm, h => by have := norm_head hm; rw [← h] at this; simp [pts] at this
  | r :: l, [], _, _, hl, _, h => by have := norm_head hl; rw [h] at this; simp [pts] at this
  | r :: l, s :: m, a, b, hl, hm, h => by
    have e1 : r.1 = s.1 := Int.le_antisymm (norm_le hm hl (fun p => (h p).symm)) (norm_le hl hm h)
    have e2 : r.2 = s.2 := Int.le_antisymm (norm_le2 hm e1.symm (fun p => (h p).symm)) (norm_le2 hl e1 h)
    obtain rfl : r = s := Prod.ext e1 e2
    rw [norm_uniq hl.2.2.2 hm.2.2.2 (fun p => by
      cases e : pts l p with
      | true => exact (norm_tail hl h p e).symm
      | false =>
        cases e' : pts m p with
        | true => have := norm_tail hm (fun p => (h p).symm) p e'; rw [e] at this; cases this
        | false => rfl)]
theorem norm_snoc : ∀ {l : List (Int × Int)} {a lo hi : Int}, NormF a l → a ≤ lo → (∀ r ∈ l, r.2 + 2 ≤ lo) → lo ≤ hi → hi ≤ 1114111 → NormF a (l ++ [(lo, hi)])
  | [], _, _, _, _, h1, _, h2, h3 => ⟨h1, h2, h3, trivial⟩
  | r :: l, a, lo, hi, ⟨g1, g2, g3, g4⟩, _, h2, h3, h4 => ⟨g1, g2, g3, norm_snoc g4 (h2 r (by simp)) (fun s hs => h2 s (by simp [hs])) h3 h4⟩
theorem norm_may : ∀ {l : List (Int × Int)} {a : Int}, 0 ≤ a → NormF a l → mayL l = true
  | [], _, _, _ => rfl
  | r :: l, a, ha, ⟨g1, g2, g3, g4⟩ => by
    have := norm_may (a := r.2 + 2) (by omega) g4
    unfold mayL at *
    rw [List.all_cons, this, Bool.and_true, mayR_iff]
    omega
theorem norm_mem : ∀ {l : List (Int × Int)} {a : Int}, NormF a l → ∀ r ∈ l, a ≤ r.1 ∧ r.1 ≤ r.2 ∧ r.2 ≤ 1114111
  | r :: l, a, ⟨g1, g2, g3, g4⟩, s, hs => by
    rcases List.mem_cons.1 hs with rfl | hs
    · exact ⟨g1, g2, g3⟩
    · have := norm_mem g4 s hs; omega
/-- How a walk over the edges stands behind the edges at c. -/
structure WInv (W : Int → Bool) (c : Int) (found : List (Int × Int)) (low : Int) (ins : Bool) : Prop where
  lo : -1 ≤ c
  hi : c ≤ 1114112
  norm : NormF 0 found
  isIn : ins = W c
  inT : ins = true → 0 ≤ low ∧ low ≤ c ∧ (∀ r ∈ found, r.2 + 2 ≤ low) ∧ ∀ p, p ≤ c → W p = (pts found p || decide (low ≤ p))
  inF : ins = false → (∀ r ∈ found, r.2 + 1 ≤ c) ∧ ∀ p, p ≤ c → W p = pts found p
theorem WInv.start {W : Int → Bool} (h : ∀ p, p ≤ -1 → W p = false) (low : Int) : WInv W (-1) [] low false :=
  ⟨Int.le_refl _, by omega, trivial, (h _ (Int.le_refl _)).symm, fun h => (by cases h), fun _ => ⟨fun r hr => (by cases hr), fun p hp => h p hp⟩⟩
def foundNext (found : List (Int × Int)) (low : Int) (ins now : Bool) (c' : Int) : List (Int × Int) := if ins && !now then found ++ [(low, c' - 1)] else found
def lowNext (low : Int) (ins now : Bool) (c' : Int) : Int := if now && !ins then c' else low
theorem WInv.step {W : Int → Bool} {c c' low : Int} {found : List (Int × Int)} {ins : Bool} (h : WInv W c found low ins) (hc : c < c') (hc' : c' ≤ 1114112) (hbet : ∀ p, c ≤ p → p < c' → W p = W c) :
    WInv W c' (foundNext found low ins (W c') c') (lowNext low ins (W c') c') (W c') := by
  have hlo := h.lo
  cases ins with
  | false =>
    obtain ⟨hF1, hF2⟩ := h.inF rfl
    have hWc := h.isIn
    have hbelow : ∀ p, p < c' → W p = pts found p := fun p hp => by
      by_cases hpc : p ≤ c
      · exact hF2 p hpc
      · rw [hbet p (by omega) hp, ← hWc]
        cases e : pts found p with
        | false => rfl
        | true =>
          exfalso
          have : ∃ r ∈ found, hasR r p = true := by simpa [pts] using e
          obtain ⟨r, hr, hh⟩ := this
          have := hF1 r hr
          have := (hasR_iff r p).1 hh
          omega
    have hnot : pts found c' = false := by
      cases e : pts found c' with
      | false => rfl
      | true =>
        exfalso
        have : ∃ r ∈ found, hasR r c' = true := by simpa [pts] using e
        obtain ⟨r, hr, hh⟩ := this
        have := hF1 r hr
        have := (hasR_iff r c').1 hh
        omega
    cases hn : W c' with
    | true =>
      refine ⟨by omega, hc', ?_, hn.symm, fun _ => ?_, fun h => by cases h⟩
      · simpa [foundNext] using h.norm
      · refine ⟨by simp [lowNext]; omega, by simp [lowNext], fun r hr => ?_, fun p hp => ?_⟩
        · simp [foundNext] at hr; have := hF1 r hr; simp [lowNext]; omega
        · simp only [foundNext, lowNext, Bool.false_and, Bool.not_false, Bool.and_true, if_true, Bool.false_eq_true, if_false]
          by_cases hpc : p < c'
          · rw [hbelow p hpc, show decide (c' ≤ p) = false by simp; omega, Bool.or_false]
          · obtain rfl : p = c' := by omega
            rw [hn]; simp
    | false =>
      refine ⟨by omega, hc', ?_, hn.symm, fun h => (by cases h), fun _ => ⟨fun r hr => ?_, fun p hp => ?_⟩⟩
      · simpa [foundNext] using h.norm
      · simp [foundNext] at hr; have := hF1 r hr; omega
      · simp only [foundNext, Bool.false_and, Bool.false_eq_true, if_false]
        by_cases hpc : p < c'
        · exact hbelow p hpc
        · obtain rfl : p = c' := by omega
          rw [hn, hnot]
  | true =>
    obtain ⟨h0, h1, h2, h3⟩ := h.inT rfl
    have hWc := h.isIn
    have hbelow : ∀ p, p < c' → W p = (pts found p || decide (low ≤ p)) := fun p hp => by
      by_cases hpc : p ≤ c
      · exact h3 p hpc
      · rw [hbet p (by omega) hp, ← hWc, show decide (low ≤ p) = true by simp; omega, Bool.or_true]
    cases hn : W c' with
    | true =>
      refine ⟨by omega, hc', ?_, hn.symm, fun _ => ?_, fun h => by cases h⟩
      · simpa [foundNext] using h.norm
      · refine ⟨by simpa [lowNext] using h0, by simp [lowNext]; omega, fun r hr => ?_, fun p hp => ?_⟩
        · simp [foundNext] at hr; have := h2 r hr; simpa [lowNext] using this
        · simp only [foundNext, lowNext, Bool.not_true, Bool.and_false, Bool.false_eq_true, if_false]
          by_cases hpc : p < c'
          · exact hbelow p hpc
          · obtain rfl : p = c' := by omega
            rw [hn, show decide (low ≤ p) = true by simp; omega, Bool.or_true]
    | false =>
      refine ⟨by omega, hc', ?_, hn.symm, fun h => (by cases h), fun _ => ⟨fun r hr => ?_, fun p hp => ?_⟩⟩
      · simp only [foundNext, Bool.not_false, Bool.and_self, if_true]
        exact norm_snoc h.norm h0 h2 (by omega) (by omega)
      · simp [foundNext] at hr
        rcases hr with hr | rfl
        · have := h2 r hr; omega
        · simp
      · simp only [foundNext, Bool.not_false, Bool.and_self, if_true]
        rw [pts_append, pts_cons, pts_nil, Bool.or_false]
        by_cases hpc : p < c'
        · rw [hbelow p hpc]
          congr 1
          rw [hasR, show decide (p ≤ (low, c' - 1).2) = true by simp; omega, Bool.and_true]
        · obtain rfl : p = c' := by omega
          have e1 : hasR (low, p - 1) p = false := by
            cases e : hasR (low, p - 1) p with
            | false => rfl
            | true => have := (hasR_iff _ _).1 e; simp at this; omega
          have e2 : pts found p = false := by
            cases e : pts found p with
            | false => rfl
            | true =>
              exfalso
              have : ∃ r ∈ found, hasR r p = true := by simpa [pts] using e
              obtain ⟨r, hr, hh⟩ := this
              have := h2 r hr
              have := (hasR_iff r p).1 hh
              omega
          rw [hn, e1, e2, Bool.or_false]
theorem WInv.done {W : Int → Bool} {c low : Int} {found : List (Int × Int)} {ins : Bool} (h : WInv W c found low ins) (hend : ∀ p, c ≤ p → W p = false) : NormF 0 found ∧ ∀ p, pts found p = W p := by
  obtain rfl : ins = false := by rw [h.isIn]; exact hend c (Int.le_refl _)
  obtain ⟨h1, h2⟩ := h.inF rfl
  refine ⟨h.norm, fun p => ?_⟩
  by_cases hp : p ≤ c
  · exact (h2 p hp).symm
  · rw [hend p (by omega)]
    cases e : pts found p with
    | false => rfl
    | true =>
      exfalso
      have : ∃ r ∈ found, hasR r p = true := by simpa [pts] using e
      obtain ⟨r, hr, hh⟩ := this
      have := h1 r hr
      have := (hasR_iff r p).1 hh
      omega
/-- The edges of a list. -/
def edgesOf (l : List (Int × Int)) : List (Int × Int) := l.flatMap fun r => [(r.1, 1), (r.2 + 1, -1)]
def sumTo (E : List (Int × Int)) (c : Int) : Int := (E.map fun e => if e.1 ≤ c then e.2 else 0).sum
def sumAll (E : List (Int × Int)) : Int := (E.map (·.2)).sum
def opn (l : List (Int × Int)) (c : Int) : Int := ((l.countP fun r => hasR r c : Nat) : Int)
theorem perm_sum : ∀ {l m : List Int}, l.Perm m → l.sum = m.sum := by
  intro l m h
  induction h with
  | nil => rfl
  | cons x _ ih => simp [ih]
  | swap x y l => simp; omega
  | trans _ _ h1 h2 => exact h1.trans h2
theorem sumTo_perm {E E' : List (Int × Int)} (h : E.Perm E') (c : Int) : sumTo E c = sumTo E' c := perm_sum (h.map _)
theorem edges_length (l : List (Int × Int)) : (edgesOf l).length = 2 * l.length := by
  induction l with
  | nil => rfl
  | cons r l ih => simp only [edgesOf, List.flatMap_cons, List.length_append, List.length_cons, List.length_nil] at *; omega
theorem edges_sum {l : List (Int × Int)} (h : mayL l = true) (c : Int) : sumTo (edgesOf l) c = opn l c := by
  induction l with
  | nil => rfl
  | cons r l ih =>
    unfold mayL at h
    rw [List.all_cons, Bool.and_eq_true, mayR_iff] at h
    have ih' := ih h.2
    unfold sumTo opn edgesOf at *
    rw [List.flatMap_cons, List.map_append, List.sum_append, ih', List.countP_cons]
    simp only [List.map_cons, List.map_nil, List.sum_cons, List.sum_nil]
    by_cases h1 : r.1 ≤ c
    · by_cases h2 : c ≤ r.2
      · rw [if_pos h1, if_neg (by omega), if_pos ((hasR_iff r c).2 ⟨h1, h2⟩)]; omega
      · rw [if_pos h1, if_pos (by omega), if_neg (by rw [hasR_iff]; omega)]; omega
    · rw [if_neg h1, if_neg (by omega), if_neg (by rw [hasR_iff]; omega)]; omega
theorem opn_pts (l : List (Int × Int)) (c : Int) : pts l c = decide (0 < opn l c) := by
  induction l with
  | nil => rfl
  | cons r l ih =>
    rw [pts_cons, ih]
    unfold opn
    rw [List.countP_cons]
    cases hasR r c <;> simp <;> omega
theorem edges_at {l : List (Int × Int)} (h : mayL l = true) : ∀ e ∈ edgesOf l, 0 ≤ e.1 ∧ e.1 ≤ 1114112 ∧ (e.2 = 1 ∨ e.2 = -1) := by
  intro e he
  simp only [edgesOf, List.mem_flatMap, List.mem_cons, List.not_mem_nil, or_false] at he
  obtain ⟨r, hr, he⟩ := he
  have := (mayR_iff r).1 (List.all_eq_true.1 h r hr)
  rcases he with rfl | rfl
  · exact ⟨by simp; omega, by simp; omega, .inl rfl⟩
  · exact ⟨by simp; omega, by simp; omega, .inr rfl⟩
theorem sumTo_all {E : List (Int × Int)} {c : Int} (h : ∀ e ∈ E, e.1 ≤ c) : sumTo E c = sumAll E := by
  unfold sumTo sumAll
  rw [List.map_congr_left fun e he => if_pos (h e he)]
theorem sumTo_none {E : List (Int × Int)} {c : Int} (h : ∀ e ∈ E, c < e.1) : sumTo E c = 0 := by
  unfold sumTo
  rw [List.map_congr_left (g := fun _ => (0 : Int)) fun e he => if_neg (by have := h e he; omega)]
  clear h
  induction E with
  | nil => rfl
  | cons e E ih => simp [ih]
theorem sumTo_append (E F : List (Int × Int)) (c : Int) : sumTo (E ++ F) c = sumTo E c + sumTo F c := by unfold sumTo; rw [List.map_append, List.sum_append]
theorem sumAll_append (E F : List (Int × Int)) : sumAll (E ++ F) = sumAll E + sumAll F := by unfold sumAll; rw [List.map_append, List.sum_append]
/-- One side of the walk behind the edges at c: the edges ahead, and how many are open. -/
structure SideAt (l : List (Int × Int)) (c : Int) (rest : List (Int × Int)) (open' : Int) : Prop where
  may : mayL l = true
  past : ∃ pre, (pre ++ rest).Perm (edgesOf l) ∧ (∀ e ∈ pre, e.1 ≤ c) ∧ open' = sumAll pre
  ahead : ∀ e ∈ rest, c < e.1
  rising : rest.Pairwise (fun x y => x.1 ≤ y.1)
theorem SideAt.opn {l rest : List (Int × Int)} {c o : Int} (h : SideAt l c rest o) (p : Int) (hc : c ≤ p) (hp : ∀ e ∈ rest, p < e.1) : opn l p = o := by
  obtain ⟨pre, hperm, hpre, rfl⟩ := h.past
  rw [← edges_sum h.may, ← sumTo_perm hperm, sumTo_append, sumTo_none hp, Int.add_zero, sumTo_all (fun e he => Int.le_trans (hpre e he) hc)]
theorem SideAt.pts {l rest : List (Int × Int)} {c o : Int} (h : SideAt l c rest o) (p : Int) (hc : c ≤ p) (hp : ∀ e ∈ rest, p < e.1) : pts l p = decide (0 < o) := by
  rw [opn_pts, h.opn p hc hp]
theorem SideAt.mem {l rest : List (Int × Int)} {c o : Int} (h : SideAt l c rest o) : ∀ e ∈ rest, 0 ≤ e.1 ∧ e.1 ≤ 1114112 ∧ (e.2 = 1 ∨ e.2 = -1) := by
  obtain ⟨pre, hperm, _⟩ := h.past
  exact fun e he => edges_at h.may e (hperm.mem_iff.1 (List.mem_append_right _ he))
theorem SideAt.start {l E : List (Int × Int)} (hm : mayL l = true) (hp : E.Perm (edgesOf l)) (hs : E.Pairwise (fun x y => x.1 ≤ y.1)) : SideAt l (-1) E 0 :=
  ⟨hm, ⟨[], by simpa using hp, fun e he => (by cases he), rfl⟩, fun e he => (by have := edges_at hm e (hp.mem_iff.1 he); omega), hs⟩
/-- Edges passed at one point. -/
theorem SideAt.pass {l pas rest : List (Int × Int)} {c c' o : Int} (h : SideAt l c (pas ++ rest) o) (hc : c < c') (hpas : ∀ e ∈ pas, e.1 = c') (hrest : ∀ e, rest.head? = some e → c' < e.1) : SideAt l c' rest (o + sumAll pas) := by
  obtain ⟨pre, hperm, hpre, rfl⟩ := h.past
  have hr : rest.Pairwise (fun x y => x.1 ≤ y.1) := (List.pairwise_append.1 h.rising).2.1
  refine ⟨h.may, ⟨pre ++ pas, by simpa using hperm, fun e he => ?_, (sumAll_append _ _).symm⟩, ?_, hr⟩
  · rcases List.mem_append.1 he with he | he
    · have := hpre e he; omega
    · have := hpas e he; omega
  · cases rest with
    | nil => intro e he; cases he
    | cons x rest =>
      have hx := hrest x rfl
      intro e he
      rcases List.mem_cons.1 he with rfl | he
      · exact hx
      · have := (List.pairwise_cons.1 hr).1 e he; omega
theorem may_pts {l : List (Int × Int)} (h : mayL l = true) {p : Int} (hp : pts l p = true) : 0 ≤ p ∧ p ≤ 1114111 := by
  have : ∃ r ∈ l, hasR r p = true := by simpa [pts] using hp
  obtain ⟨r, hr, hh⟩ := this
  have h1 := (mayR_iff r).1 (List.all_eq_true.1 h r hr)
  have h2 := (hasR_iff r p).1 hh
  omega
/-- No edge ahead: no number behind is held. -/
theorem SideAt.over {l : List (Int × Int)} {c o : Int} (h : SideAt l c [] o) (p : Int) (hc : c ≤ p) : Go.Proofs.Ythcpalpcakjfnaa.pts l p = false := by
  cases e : Go.Proofs.Ythcpalpcakjfnaa.pts l p with
  | false => rfl
  | true =>
    exfalso
    have hb := may_pts h.may e
    have h1 := h.pts p hc (fun e he => by cases he)
    have h2 := h.pts 1114112 (by omega) (fun e he => by cases he)
    rw [e] at h1
    rw [← h1] at h2
    have := may_pts h.may h2
    omega
/-- How many numbers below n. -/
def card (f : Int → Bool) : Nat → Int
  | 0 => 0
  | n + 1 => card f n + (if f (n : Int) then 1 else 0)
theorem card_congr {f g : Int → Bool} : ∀ {n : Nat}, (∀ p : Int, 0 ≤ p → p < n → f p = g p) → card f n = card g n
  | 0, _ => rfl
  | n + 1, h => by rw [card, card, card_congr (n := n) (fun p h0 hp => h p h0 (by omega)), h n (by omega) (by omega)]
theorem card_or (f g : Int → Bool) : ∀ n : Nat, card f n + card g n = card (fun p => f p || g p) n + card (fun p => f p && g p) n
  | 0 => rfl
  | n + 1 => by have := card_or f g n; simp only [card]; rcases Bool.eq_false_or_eq_true (f n) with h1 | h1 <;> rcases Bool.eq_false_or_eq_true (g n) with h2 | h2 <;> simp [h1, h2] <;> omega
theorem card_false : ∀ n : Nat, card (fun _ => false) n = 0
  | 0 => rfl
  | n + 1 => by rw [card, card_false n]; rfl
theorem card_true : ∀ n : Nat, card (fun _ => true) n = n
  | 0 => rfl
  | n + 1 => by rw [card, card_true n]; simp
theorem card_not (f : Int → Bool) (n : Nat) : card f n + card (fun p => !f p) n = n := by
  rw [card_or, card_congr (f := fun p => f p || !f p) (g := fun _ => true) (fun p _ _ => by simp), card_congr (f := fun p => f p && !f p) (g := fun _ => false) (fun p _ _ => by simp), card_true, card_false, Int.add_zero]
theorem card_range (lo hi : Int) (h0 : 0 ≤ lo) : ∀ n : Nat, card (hasR (lo, hi)) n = if hi < n then (if lo ≤ hi then hi - lo + 1 else 0) else (if lo ≤ n then n - lo else 0)
  | 0 => by simp only [card]; split <;> split <;> omega
  | n + 1 => by
    have ih := card_range lo hi h0 n
    have e : (if hasR (lo, hi) (n : Int) = true then (1 : Int) else 0) = if lo ≤ n ∧ (n : Int) ≤ hi then 1 else 0 := by
      by_cases h : lo ≤ (n : Int) ∧ (n : Int) ≤ hi
      · rw [if_pos h, if_pos ((hasR_iff (lo, hi) n).2 h)]
      · rw [if_neg h, if_neg (fun h' => h ((hasR_iff (lo, hi) n).1 h'))]
    rw [card, ih, e]
    (repeat' split) <;> omega
/-- The sum of the lengths. -/
def lens (l : List (Int × Int)) : Int := (l.map fun r => r.2 - r.1 + 1).sum
theorem lens_card : ∀ {l : List (Int × Int)} {a : Int}, 0 ≤ a → NormF a l → lens l = card (pts l) 1114112
  | [], _, _, _ => by rw [show lens [] = 0 from rfl, card_congr (f := pts []) (g := fun _ => false) (fun p _ _ => rfl), card_false]
  | r :: l, a, ha, ⟨g1, g2, g3, g4⟩ => by
    have ih := lens_card (a := r.2 + 2) (by omega) g4
    have h := card_or (hasR r) (pts l) 1114112
    rw [card_congr (f := fun p => hasR r p && pts l p) (g := fun _ => false) (fun p _ _ => by
      cases e : hasR r p with
      | false => rfl
      | true =>
        cases e' : pts l p with
        | false => rfl
        | true => have := NormF.ge g4 e'; have := (hasR_iff r p).1 e; omega), card_false, Int.add_zero] at h
    have e : lens (r :: l) = (r.2 - r.1 + 1) + lens l := by simp [lens]
    have h1 := card_range r.1 r.2 (by omega) 1114112
    rw [if_pos (by omega), if_pos g2] at h1
    rw [e, ih, card_congr (f := pts (r :: l)) (g := fun p => hasR r p || pts l p) (fun p _ _ => pts_cons r l p), ← h, ← h1]
end Go.Proofs.Ythcpalpcakjfnaa
