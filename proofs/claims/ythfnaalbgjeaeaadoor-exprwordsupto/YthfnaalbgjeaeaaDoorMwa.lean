/-
  RgM, RgW, EhBW, ExM, ExW, Eh1W, ExSW, ExAW, ExBW, ExDW, ExTk, ExE0W, ExE1W, ExE2W.
-/
import Derived.WalkKit
import Derived.Test.YthfnaalbgjeaeaaDoorProg
import Derived.WalkSpells
import Derived.WalkLawsBesides
import Derived.Handy
import Derived.Maps.AppendAt
import Derived.Deep.QuietTactic
import Derived.BigQuiet
import Derived.Shelf.Abstract
import Derived.Lib.SlicesS
import Derived.Lib.AppendZeros
import Derived.Deep.DeepAppendRoom
import Derived.Deep.RegionHeld3
import Derived.RegionDies
import Derived.StillTailTactics
namespace Go.Proofs.YthfnaalbgjeaeaaDoor
def hasR (r : Int × Int) (p : Int) : Bool := decide (r.1 ≤ p) && decide (p ≤ r.2)
def pts (l : List (Int × Int)) (p : Int) : Bool := l.any (fun r => hasR r p)
def mayR (r : Int × Int) : Bool := decide (0 ≤ r.1) && (decide (r.2 ≤ 1114111) && decide (r.1 ≤ r.2))
def mayL (l : List (Int × Int)) : Bool := l.all mayR
/-- Rising and parted, from a number on. -/
def NormF : Int → List (Int × Int) → Prop
  | _, [] => True
  | lo, r :: l => lo ≤ r.1 ∧ r.1 ≤ r.2 ∧ r.2 ≤ 1114111 ∧ NormF (r.2 + 2) l
theorem pts_nil (p : Int) : pts [] p = false := rfl
theorem pts_cons (r : Int × Int) (l : List (Int × Int)) (p : Int) : pts (r :: l) p = (hasR r p || pts l p) := by simp [pts]
theorem pts_append (l m : List (Int × Int)) (p : Int) : pts (l ++ m) p = (pts l p || pts m p) := by simp [pts]
theorem hasR_iff (r : Int × Int) (p : Int) : hasR r p = true ↔ r.1 ≤ p ∧ p ≤ r.2 := by simp [hasR]
theorem mayR_iff (r : Int × Int) : mayR r = true ↔ 0 ≤ r.1 ∧ r.2 ≤ 1114111 ∧ r.1 ≤ r.2 := by simp [mayR]
theorem NormF.mono {a b : Int} (h : a ≤ b) : ∀ {l : List (Int × Int)}, NormF b l → NormF a l
  | [], _ => trivial
  | _ :: _, ⟨h1, h2⟩ => ⟨Int.le_trans h h1, h2⟩
theorem NormF.ge : ∀ {a : Int} {l : List (Int × Int)} {p : Int}, NormF a l → pts l p = true → a ≤ p ∧ p ≤ 1114111
  | _, [], _, _, hp => by simp [pts] at hp
  | a, r :: l, p, ⟨h1, h2, h3, h4⟩, hp => by
    rw [pts_cons, Bool.or_eq_true, hasR_iff] at hp
    rcases hp with hp | hp
    · omega
    · have := NormF.ge h4 hp; omega
theorem norm_head {a : Int} {r : Int × Int} {l : List (Int × Int)} (h : NormF a (r :: l)) : pts (r :: l) r.1 = true := by
  rw [pts_cons, (hasR_iff r r.1).2 ⟨Int.le_refl _, h.2.1⟩, Bool.true_or]
theorem norm_le {a b : Int} {r s : Int × Int} {l m : List (Int × Int)} (hl : NormF a (r :: l)) (hm : NormF b (s :: m)) (h : ∀ p, pts (r :: l) p = pts (s :: m) p) : s.1 ≤ r.1 := by
  have := norm_head hl
  rw [h] at this
  exact (NormF.ge (a := s.1) (show NormF s.1 (s :: m) from ⟨Int.le_refl _, hm.2⟩) this).1
theorem norm_le2 {a : Int} {r s : Int × Int} {l m : List (Int × Int)} (hl : NormF a (r :: l)) (h1 : r.1 = s.1) (h : ∀ p, pts (r :: l) p = pts (s :: m) p) : s.2 ≤ r.2 := by
  refine Int.not_lt.1 fun hlt => ?_
  have h2 : pts (s :: m) (r.2 + 1) = true := by
    have := hl.2.1
    rw [pts_cons, (hasR_iff s _).2 ⟨by omega, by omega⟩, Bool.true_or]
  rw [← h, pts_cons, Bool.or_eq_true, hasR_iff] at h2
  rcases h2 with h2 | h2
  · omega
  · have := NormF.ge hl.2.2.2 h2; omega
theorem norm_tail {a : Int} {r : Int × Int} {l m : List (Int × Int)} (hl : NormF a (r :: l)) (h : ∀ p, pts (r :: l) p = pts (r :: m) p) (p : Int) (hp : pts l p = true) : pts m p = true := by
  have h1 := NormF.ge hl.2.2.2 hp
  have h2 : pts (r :: l) p = true := by rw [pts_cons, hp, Bool.or_true]
  rw [h, pts_cons, Bool.or_eq_true, hasR_iff] at h2
  rcases h2 with h2 | h2
  · omega
  · exact h2
/-- There is one normal list of a set. -/
theorem norm_uniq : ∀ {l m : List (Int × Int)} {a b : Int}, NormF a l → NormF b m → (∀ p, pts l p = pts m p) → l = m
  | [], [], _, _, _, _, _ => rfl
  | [], s :: m, _, _, _, hm, h => by have := norm_head hm; rw [← h] at this; simp [pts] at this
  | r :: l, [], _, _, hl, _, h => by have := norm_head hl; rw [h] at this; simp [pts] at this
  | r :: l, s :: m, a, b, hl, hm, h => by
    have e1 : r.1 = s.1 := Int.le_antisymm (norm_le hm hl (fun p => (h p).symm)) (norm_le hl hm h)
    have e2 : r.2 = s.2 := Int.le_antisymm (norm_le2 hm e1.symm (fun p => (h p).symm)) (norm_le2 hl e1 h)
    obtain rfl : r = s := Prod.ext e1 e2
    rw [norm_uniq hl.2.2.2 hm.2.2.2 (fun p => by
      cases e : pts l p with
      | true => exact (norm_tail hl h p e).symm
      | false =>
        cases e' : pts m p with
        | true => have := norm_tail hm (fun p => (h p).symm) p e'; rw [e] at this; cases this
        | false => rfl)]
theorem norm_snoc : ∀ {l : List (Int × Int)} {a lo hi : Int}, NormF a l → a ≤ lo → (∀ r ∈ l, r.2 + 2 ≤ lo) → lo ≤ hi → hi ≤ 1114111 → NormF a (l ++ [(lo, hi)])
  | [], _, _, _, _, h1, _, h2, h3 => ⟨h1, h2, h3, trivial⟩
  | r :: l, a, lo, hi, ⟨g1, g2, g3, g4⟩, _, h2, h3, h4 => ⟨g1, g2, g3, norm_snoc g4 (h2 r (by simp)) (fun s hs => h2 s (by simp [hs])) h3 h4⟩
theorem norm_may : ∀ {l : List (Int × Int)} {a : Int}, 0 ≤ a → NormF a l → mayL l = true
  | [], _, _, _ => rfl
  | r :: l, a, ha, ⟨g1, g2, g3, g4⟩ => by
    have := norm_may (a := r.2 + 2) (by omega) g4
    unfold mayL at *
    rw [List.all_cons, this, Bool.and_true, mayR_iff]
    omega
theorem norm_mem : ∀ {l : List (Int × Int)} {a : Int}, NormF a l → ∀ r ∈ l, a ≤ r.1 ∧ r.1 ≤ r.2 ∧ r.2 ≤ 1114111
  | r :: l, a, ⟨g1, g2, g3, g4⟩, s, hs => by
    rcases List.mem_cons.1 hs with rfl | hs
    · exact ⟨g1, g2, g3⟩
    · have := norm_mem g4 s hs; omega
/-- How a walk over the edges stands behind the edges at c. -/
structure WInv (W : Int → Bool) (c : Int) (found : List (Int × Int)) (low : Int) (ins : Bool) : Prop where
  lo : -1 ≤ c
  hi : c ≤ 1114112
  norm : NormF 0 found
  isIn : ins = W c
  inT : ins = true → 0 ≤ low ∧ low ≤ c ∧ (∀ r ∈ found, r.2 + 2 ≤ low) ∧ ∀ p, p ≤ c → W p = (pts found p || decide (low ≤ p))
  inF : ins = false → (∀ r ∈ found, r.2 + 1 ≤ c) ∧ ∀ p, p ≤ c → W p = pts found p
theorem WInv.start {W : Int → Bool} (h : ∀ p, p ≤ -1 → W p = false) (low : Int) : WInv W (-1) [] low false :=
  ⟨Int.le_refl _, by omega, trivial, (h _ (Int.le_refl _)).symm, fun h => (by cases h), fun _ => ⟨fun r hr => (by cases hr), fun p hp => h p hp⟩⟩
def foundNext (found : List (Int × Int)) (low : Int) (ins now : Bool) (c' : Int) : List (Int × Int) := if ins && !now then found ++ [(low, c' - 1)] else found
def lowNext (low : Int) (ins now : Bool) (c' : Int) : Int := if now && !ins then c' else low
theorem WInv.step {W : Int → Bool} {c c' low : Int} {found : List (Int × Int)} {ins : Bool} (h : WInv W c found low ins) (hc : c < c') (hc' : c' ≤ 1114112) (hbet : ∀ p, c ≤ p → p < c' → W p = W c) :
    WInv W c' (foundNext found low ins (W c') c') (lowNext low ins (W c') c') (W c') := by
  have hlo := h.lo
  cases ins with
  | false =>
    obtain ⟨hF1, hF2⟩ := h.inF rfl
    have hWc := h.isIn
    have hbelow : ∀ p, p < c' → W p = pts found p := fun p hp => by
      by_cases hpc : p ≤ c
      · exact hF2 p hpc
      · rw [hbet p (by omega) hp, ← hWc]
        cases e : pts found p with
        | false => rfl
        | true =>
          exfalso
          have : ∃ r ∈ found, hasR r p = true := by simpa [pts] using e
          obtain ⟨r, hr, hh⟩ := this
          have := hF1 r hr
          have := (hasR_iff r p).1 hh
          omega
    have hnot : pts found c' = false := by
      cases e : pts found c' with
      | false => rfl
      | true =>
        exfalso
        have : ∃ r ∈ found, hasR r c' = true := by simpa [pts] using e
        obtain ⟨r, hr, hh⟩ := this
        have := hF1 r hr
        have := (hasR_iff r c').1 hh
        omega
    cases hn : W c' with
    | true =>
      refine ⟨by omega, hc', ?_, hn.symm, fun _ => ?_, fun h => by cases h⟩
      · simpa [foundNext] using h.norm
      · refine ⟨by simp [lowNext]; omega, by simp [lowNext], fun r hr => ?_, fun p hp => ?_⟩
        · simp [foundNext] at hr; have := hF1 r hr; simp [lowNext]; omega
        · simp only [foundNext, lowNext, Bool.false_and, Bool.not_false, Bool.and_true, if_true, Bool.false_eq_true, if_false]
          by_cases hpc : p < c'
          · rw [hbelow p hpc, show decide (c' ≤ p) = false by simp; omega, Bool.or_false]
          · obtain rfl : p = c' := by omega
            rw [hn]; simp
    | false =>
      refine ⟨by omega, hc', ?_, hn.symm, fun h => (by cases h), fun _ => ⟨fun r hr => ?_, fun p hp => ?_⟩⟩
      · simpa [foundNext] using h.norm
      · simp [foundNext] at hr; have := hF1 r hr; omega
      · simp only [foundNext, Bool.false_and, Bool.false_eq_true, if_false]
        by_cases hpc : p < c'
        · exact hbelow p hpc
        · obtain rfl : p = c' := by omega
          rw [hn, hnot]
  | true =>
    obtain ⟨h0, h1, h2, h3⟩ := h.inT rfl
    have hWc := h.isIn
    have hbelow : ∀ p, p < c' → W p = (pts found p || decide (low ≤ p)) := fun p hp => by
      by_cases hpc : p ≤ c
      · exact h3 p hpc
      · rw [hbet p (by omega) hp, ← hWc, show decide (low ≤ p) = true by simp; omega, Bool.or_true]
    cases hn : W c' with
    | true =>
      refine ⟨by omega, hc', ?_, hn.symm, fun _ => ?_, fun h => by cases h⟩
      · simpa [foundNext] using h.norm
      · refine ⟨by simpa [lowNext] using h0, by simp [lowNext]; omega, fun r hr => ?_, fun p hp => ?_⟩
        · simp [foundNext] at hr; have := h2 r hr; simpa [lowNext] using this
        · simp only [foundNext, lowNext, Bool.not_true, Bool.and_false, Bool.false_eq_true, if_false]
          by_cases hpc : p < c'
          · exact hbelow p hpc
          · obtain rfl : p = c' := by omega
            rw [hn, show decide (low ≤ p) = true by simp; omega, Bool.or_true]
    | false =>
      refine ⟨by omega, hc', ?_, hn.symm, fun h => (by cases h), fun _ => ⟨fun r hr => ?_, fun p hp => ?_⟩⟩
      · simp only [foundNext, Bool.not_false, Bool.and_self, if_true]
        exact norm_snoc h.norm h0 h2 (by omega) (by omega)
      · simp [foundNext] at hr
        rcases hr with hr | rfl
        · have := h2 r hr; omega
        · simp
      · simp only [foundNext, Bool.not_false, Bool.and_self, if_true]
        rw [pts_append, pts_cons, pts_nil, Bool.or_false]
        by_cases hpc : p < c'
        · rw [hbelow p hpc]
          congr 1
          rw [hasR, show decide (p ≤ (low, c' - 1).2) = true by simp; omega, Bool.and_true]
        · obtain rfl : p = c' := by omega
          have e1 : hasR (low, p - 1) p = false := by
            cases e : hasR (low, p - 1) p with
            | false => rfl
            | true => have := (hasR_iff _ _).1 e; simp at this; omega
          have e2 : pts found p = false := by
            cases e : pts found p with
            | false => rfl
            | true =>
              exfalso
              have : ∃ r ∈ found, hasR r p = true := by simpa [pts] using e
              obtain ⟨r, hr, hh⟩ := this
              have := h2 r hr
              have := (hasR_iff r p).1 hh
              omega
          rw [hn, e1, e2, Bool.or_false]
theorem WInv.done {W : Int → Bool} {c low : Int} {found : List (Int × Int)} {ins : Bool} (h : WInv W c found low ins) (hend : ∀ p, c ≤ p → W p = false) : NormF 0 found ∧ ∀ p, pts found p = W p := by
  obtain rfl : ins = false := by rw [h.isIn]; exact hend c (Int.le_refl _)
  obtain ⟨h1, h2⟩ := h.inF rfl
  refine ⟨h.norm, fun p => ?_⟩
  by_cases hp : p ≤ c
  · exact (h2 p hp).symm
  · rw [hend p (by omega)]
    cases e : pts found p with
    | false => rfl
    | true =>
      exfalso
      have : ∃ r ∈ found, hasR r p = true := by simpa [pts] using e
      obtain ⟨r, hr, hh⟩ := this
      have := h1 r hr
      have := (hasR_iff r p).1 hh
      omega
/-- The edges of a list. -/
def edgesOf (l : List (Int × Int)) : List (Int × Int) := l.flatMap fun r => [(r.1, 1), (r.2 + 1, -1)]
def sumTo (E : List (Int × Int)) (c : Int) : Int := (E.map fun e => if e.1 ≤ c then e.2 else 0).sum
def sumAll (E : List (Int × Int)) : Int := (E.map (·.2)).sum
def opn (l : List (Int × Int)) (c : Int) : Int := ((l.countP fun r => hasR r c : Nat) : Int)
theorem perm_sum : ∀ {l m : List Int}, l.Perm m → l.sum = m.sum := by
  intro l m h
  induction h with
  | nil => rfl
  | cons x _ ih => simp [ih]
  | swap x y l => simp; omega
  | trans _ _ h1 h2 => exact h1.trans h2
theorem sumTo_perm {E E' : List (Int × Int)} (h : E.Perm E') (c : Int) : sumTo E c = sumTo E' c := perm_sum (h.map _)
theorem edges_length (l : List (Int × Int)) : (edgesOf l).length = 2 * l.length := by
  induction l with
  | nil => rfl
  | cons r l ih => simp only [edgesOf, List.flatMap_cons, List.length_append, List.length_cons, List.length_nil] at *; omega
theorem edges_sum {l : List (Int × Int)} (h : mayL l = true) (c : Int) : sumTo (edgesOf l) c = opn l c := by
  induction l with
  | nil => rfl
  | cons r l ih =>
    unfold mayL at h
    rw [List.all_cons, Bool.and_eq_true, mayR_iff] at h
    have ih' := ih h.2
    unfold sumTo opn edgesOf at *
    rw [List.flatMap_cons, List.map_append, List.sum_append, ih', List.countP_cons]
    simp only [List.map_cons, List.map_nil, List.sum_cons, List.sum_nil]
    by_cases h1 : r.1 ≤ c
    · by_cases h2 : c ≤ r.2
      · rw [if_pos h1, if_neg (by omega), if_pos ((hasR_iff r c).2 ⟨h1, h2⟩)]; omega
      · rw [if_pos h1, if_pos (by omega), if_neg (by rw [hasR_iff]; omega)]; omega
    · rw [if_neg h1, if_neg (by omega), if_neg (by rw [hasR_iff]; omega)]; omega
theorem opn_pts (l : List (Int × Int)) (c : Int) : pts l c = decide (0 < opn l c) := by
  induction l with
  | nil => rfl
  | cons r l ih =>
    rw [pts_cons, ih]
    unfold opn
    rw [List.countP_cons]
    cases hasR r c <;> simp <;> omega
theorem edges_at {l : List (Int × Int)} (h : mayL l = true) : ∀ e ∈ edgesOf l, 0 ≤ e.1 ∧ e.1 ≤ 1114112 ∧ (e.2 = 1 ∨ e.2 = -1) := by
  intro e he
  simp only [edgesOf, List.mem_flatMap, List.mem_cons, List.not_mem_nil, or_false] at he
  obtain ⟨r, hr, he⟩ := he
  have := (mayR_iff r).1 (List.all_eq_true.1 h r hr)
  rcases he with rfl | rfl
  · exact ⟨by simp; omega, by simp; omega, .inl rfl⟩
  · exact ⟨by simp; omega, by simp; omega, .inr rfl⟩
theorem sumTo_all {E : List (Int × Int)} {c : Int} (h : ∀ e ∈ E, e.1 ≤ c) : sumTo E c = sumAll E := by
  unfold sumTo sumAll
  rw [List.map_congr_left fun e he => if_pos (h e he)]
theorem sumTo_none {E : List (Int × Int)} {c : Int} (h : ∀ e ∈ E, c < e.1) : sumTo E c = 0 := by
  unfold sumTo
  rw [List.map_congr_left (g := fun _ => (0 : Int)) fun e he => if_neg (by have := h e he; omega)]
  clear h
  induction E with
  | nil => rfl
  | cons e E ih => simp [ih]
theorem sumTo_append (E F : List (Int × Int)) (c : Int) : sumTo (E ++ F) c = sumTo E c + sumTo F c := by unfold sumTo; rw [List.map_append, List.sum_append]
theorem sumAll_append (E F : List (Int × Int)) : sumAll (E ++ F) = sumAll E + sumAll F := by unfold sumAll; rw [List.map_append, List.sum_append]
/-- One side of the walk behind the edges at c: the edges ahead, and how many are open. -/
structure SideAt (l : List (Int × Int)) (c : Int) (rest : List (Int × Int)) (open' : Int) : Prop where
  may : mayL l = true
  past : ∃ pre, (pre ++ rest).Perm (edgesOf l) ∧ (∀ e ∈ pre, e.1 ≤ c) ∧ open' = sumAll pre
  ahead : ∀ e ∈ rest, c < e.1
  rising : rest.Pairwise (fun x y => x.1 ≤ y.1)
theorem SideAt.opn {l rest : List (Int × Int)} {c o : Int} (h : SideAt l c rest o) (p : Int) (hc : c ≤ p) (hp : ∀ e ∈ rest, p < e.1) : opn l p = o := by
  obtain ⟨pre, hperm, hpre, rfl⟩ := h.past
  rw [← edges_sum h.may, ← sumTo_perm hperm, sumTo_append, sumTo_none hp, Int.add_zero, sumTo_all (fun e he => Int.le_trans (hpre e he) hc)]
theorem SideAt.pts {l rest : List (Int × Int)} {c o : Int} (h : SideAt l c rest o) (p : Int) (hc : c ≤ p) (hp : ∀ e ∈ rest, p < e.1) : pts l p = decide (0 < o) := by
  rw [opn_pts, h.opn p hc hp]
theorem SideAt.mem {l rest : List (Int × Int)} {c o : Int} (h : SideAt l c rest o) : ∀ e ∈ rest, 0 ≤ e.1 ∧ e.1 ≤ 1114112 ∧ (e.2 = 1 ∨ e.2 = -1) := by
  obtain ⟨pre, hperm, _⟩ := h.past
  exact fun e he => edges_at h.may e (hperm.mem_iff.1 (List.mem_append_right _ he))
theorem SideAt.start {l E : List (Int × Int)} (hm : mayL l = true) (hp : E.Perm (edgesOf l)) (hs : E.Pairwise (fun x y => x.1 ≤ y.1)) : SideAt l (-1) E 0 :=
  ⟨hm, ⟨[], by simpa using hp, fun e he => (by cases he), rfl⟩, fun e he => (by have := edges_at hm e (hp.mem_iff.1 he); omega), hs⟩
/-- Edges passed at one point. -/
theorem SideAt.pass {l pas rest : List (Int × Int)} {c c' o : Int} (h : SideAt l c (pas ++ rest) o) (hc : c < c') (hpas : ∀ e ∈ pas, e.1 = c') (hrest : ∀ e, rest.head? = some e → c' < e.1) : SideAt l c' rest (o + sumAll pas) := by
  obtain ⟨pre, hperm, hpre, rfl⟩ := h.past
  have hr : rest.Pairwise (fun x y => x.1 ≤ y.1) := (List.pairwise_append.1 h.rising).2.1
  refine ⟨h.may, ⟨pre ++ pas, by simpa using hperm, fun e he => ?_, (sumAll_append _ _).symm⟩, ?_, hr⟩
  · rcases List.mem_append.1 he with he | he
    · have := hpre e he; omega
    · have := hpas e he; omega
  · cases rest with
    | nil => intro e he; cases he
    | cons x rest =>
      have hx := hrest x rfl
      intro e he
      rcases List.mem_cons.1 he with rfl | he
      · exact hx
      · have := (List.pairwise_cons.1 hr).1 e he; omega
theorem may_pts {l : List (Int × Int)} (h : mayL l = true) {p : Int} (hp : pts l p = true) : 0 ≤ p ∧ p ≤ 1114111 := by
  have : ∃ r ∈ l, hasR r p = true := by simpa [pts] using hp
  obtain ⟨r, hr, hh⟩ := this
  have h1 := (mayR_iff r).1 (List.all_eq_true.1 h r hr)
  have h2 := (hasR_iff r p).1 hh
  omega
/-- No edge ahead: no number behind is held. -/
theorem SideAt.over {l : List (Int × Int)} {c o : Int} (h : SideAt l c [] o) (p : Int) (hc : c ≤ p) : Go.Proofs.YthfnaalbgjeaeaaDoor.pts l p = false := by
  cases e : Go.Proofs.YthfnaalbgjeaeaaDoor.pts l p with
  | false => rfl
  | true =>
    exfalso
    have hb := may_pts h.may e
    have h1 := h.pts p hc (fun e he => by cases he)
    have h2 := h.pts 1114112 (by omega) (fun e he => by cases he)
    rw [e] at h1
    rw [← h1] at h2
    have := may_pts h.may h2
    omega
/-- How many numbers below n. -/
def card (f : Int → Bool) : Nat → Int
  | 0 => 0
  | n + 1 => card f n + (if f (n : Int) then 1 else 0)
theorem card_congr {f g : Int → Bool} : ∀ {n : Nat}, (∀ p : Int, 0 ≤ p → p < n → f p = g p) → card f n = card g n
  | 0, _ => rfl
  | n + 1, h => by rw [card, card, card_congr (n := n) (fun p h0 hp => h p h0 (by omega)), h n (by omega) (by omega)]
theorem card_or (f g : Int → Bool) : ∀ n : Nat, card f n + card g n = card (fun p => f p || g p) n + card (fun p => f p && g p) n
  | 0 => rfl
  | n + 1 => by have := card_or f g n; simp only [card]; rcases Bool.eq_false_or_eq_true (f n) with h1 | h1 <;> rcases Bool.eq_false_or_eq_true (g n) with h2 | h2 <;> simp [h1, h2] <;> omega
theorem card_false : ∀ n : Nat, card (fun _ => false) n = 0
  | 0 => rfl
  | n + 1 => by rw [card, card_false n]; rfl
theorem card_true : ∀ n : Nat, card (fun _ => true) n = n
  | 0 => rfl
  | n + 1 => by rw [card, card_true n]; simp
theorem card_not (f : Int → Bool) (n : Nat) : card f n + card (fun p => !f p) n = n := by
  rw [card_or, card_congr (f := fun p => f p || !f p) (g := fun _ => true) (fun p _ _ => by simp), card_congr (f := fun p => f p && !f p) (g := fun _ => false) (fun p _ _ => by simp), card_true, card_false, Int.add_zero]
theorem card_range (lo hi : Int) (h0 : 0 ≤ lo) : ∀ n : Nat, card (hasR (lo, hi)) n = if hi < n then (if lo ≤ hi then hi - lo + 1 else 0) else (if lo ≤ n then n - lo else 0)
  | 0 => by simp only [card]; split <;> split <;> omega
  | n + 1 => by
    have ih := card_range lo hi h0 n
    have e : (if hasR (lo, hi) (n : Int) = true then (1 : Int) else 0) = if lo ≤ n ∧ (n : Int) ≤ hi then 1 else 0 := by
      by_cases h : lo ≤ (n : Int) ∧ (n : Int) ≤ hi
      · rw [if_pos h, if_pos ((hasR_iff (lo, hi) n).2 h)]
      · rw [if_neg h, if_neg (fun h' => h ((hasR_iff (lo, hi) n).1 h'))]
    rw [card, ih, e]
    (repeat' split) <;> omega
/-- The sum of the lengths. -/
def lens (l : List (Int × Int)) : Int := (l.map fun r => r.2 - r.1 + 1).sum
theorem lens_card : ∀ {l : List (Int × Int)} {a : Int}, 0 ≤ a → NormF a l → lens l = card (pts l) 1114112
  | [], _, _, _ => by rw [show lens [] = 0 from rfl, card_congr (f := pts []) (g := fun _ => false) (fun p _ _ => rfl), card_false]
  | r :: l, a, ha, ⟨g1, g2, g3, g4⟩ => by
    have ih := lens_card (a := r.2 + 2) (by omega) g4
    have h := card_or (hasR r) (pts l) 1114112
    rw [card_congr (f := fun p => hasR r p && pts l p) (g := fun _ => false) (fun p _ _ => by
      cases e : hasR r p with
      | false => rfl
      | true =>
        cases e' : pts l p with
        | false => rfl
        | true => have := NormF.ge g4 e'; have := (hasR_iff r p).1 e; omega), card_false, Int.add_zero] at h
    have e : lens (r :: l) = (r.2 - r.1 + 1) + lens l := by simp [lens]
    have h1 := card_range r.1 r.2 (by omega) 1114112
    rw [if_pos (by omega), if_pos g2] at h1
    rw [e, ih, card_congr (f := pts (r :: l)) (g := fun p => hasR r p || pts l p) (fun p _ _ => pts_cons r l p), ← h, ← h1]
end Go.Proofs.YthfnaalbgjeaeaaDoor
namespace Go.Proofs.YthfnaalbgjeaeaaDoor
open Go.RowKit
theorem hidE {p : Prop} (h : p) : Hid p := h
def cellsR (l : List (Int × Int)) : List Value := l.flatMap fun r => [.int .i64 r.1, .int .i64 r.2]
theorem cellsR_length (l : List (Int × Int)) : (cellsR l).length = l.length * 2 := by
  induction l with
  | nil => rfl
  | cons u l ih => rw [cellsR, List.flatMap_cons, List.length_append, List.length_cons]; rw [cellsR] at ih; rw [ih]; simp; omega
theorem cellsR_append (l m : List (Int × Int)) : cellsR (l ++ m) = cellsR l ++ cellsR m := by simp [cellsR]
theorem cellsR_at (l : List (Int × Int)) : ∀ (k : Nat) (h : k < l.length), (cellsR l)[k * 2]? = some (.int .i64 l[k].1) ∧ (cellsR l)[k * 2 + 1]? = some (.int .i64 l[k].2) := by
  induction l with
  | nil => intro k h; simp at h
  | cons u l ih =>
    intro k h
    have e : cellsR (u :: l) = .int .i64 u.1 :: .int .i64 u.2 :: cellsR l := rfl
    cases k with
    | zero => rw [e]; simp
    | succ k =>
      have := ih k (by simpa using h)
      rw [e, show (k + 1) * 2 = k * 2 + 1 + 1 by omega, show k * 2 + 1 + 1 + 1 = (k * 2 + 1) + 1 + 1 by omega]
      simpa using this
/-- Pairs of numbers in memory, each where it is asked. -/
structure RA (w : World) (a : Option Addr) (l : List (Int × Int)) : Prop where
  at' : ∀ k (h : k < l.length), ∃ b off, a = some ⟨b, off, none⟩ ∧ w.cell? ⟨b, off + k * 2, none⟩ = some (.int .i64 l[k].1) ∧ w.cell? ⟨b, off + k * 2 + 1, none⟩ = some (.int .i64 l[k].2)
theorem RA.later {w w' : World} {a : Option Addr} {l : List (Int × Int)} (h : RA w a l) (hb : Below w.heap.size w w') : RA w' a l := ⟨fun k hk => by
  obtain ⟨b, off, rfl, h1, h2⟩ := h.at' k hk
  exact ⟨b, off, rfl, (hb.cell (p := ⟨b, off + k * 2, none⟩) (World.block_lt_of_cell? w _ h1)).trans h1, (hb.cell (p := ⟨b, off + k * 2 + 1, none⟩) (World.block_lt_of_cell? w _ h2)).trans h2⟩⟩
theorem RA.nil (w : World) (a : Option Addr) : RA w a [] := ⟨fun _ h => absurd h (Nat.not_lt_zero _)⟩
/-- A slice of ranges of the call's own. -/
def OwnR (w : World) (base : Nat) (v : Value) (l : List (Int × Int)) : Prop := w.ownsRow base 45 2 v l.length (cellsR l)
theorem infoRange : (Tryd.prog.info? 45).map (fun i => (i.zero, i.size, i.bytes)) = some (some (.agg #[.int .i64 0, .int .i64 0]), 2, 16) := by kernel_rfl
theorem OwnR.nil (w : World) (base : Nat) : OwnR w base (.slice none 0 0) [] := World.ownsRow_nil _ _ _ _
theorem OwnR.later {w w' : World} {base : Nat} {v : Value} {l : List (Int × Int)} (h : OwnR w base v l) (hb : Below w.heap.size w w') : OwnR w' base v l := by
  obtain ⟨h1, h2⟩ := h
  refine ⟨h1, ?_⟩
  rcases h2 with h2 | ⟨g, cap, cur, hv, hg, hh, r⟩
  · exact .inl h2
  · exact .inr ⟨g, cap, cur, hv, hg, (hb.block g (Array.getElem?_eq_some_iff.1 hh).1).trans hh, r⟩
theorem OwnR.ra {w : World} {base : Nat} {v : Value} {l : List (Int × Int)} (h : OwnR w base v l) : ∃ a cap, v = .slice a l.length cap ∧ RA w a l := by
  have h0 := h
  rcases h.2 with ⟨rfl, hn⟩ | ⟨g, cap, cur, rfl, _⟩
  · have : l = [] := List.length_eq_zero_iff.1 hn
    subst this
    exact ⟨none, 0, rfl, RA.nil _ _⟩
  · refine ⟨_, cap, rfl, ⟨fun k hk => ⟨g, 0, rfl, ?_⟩⟩⟩
    obtain ⟨a, b⟩ := cellsR_at l k hk
    rw [Nat.zero_add, World.ownsRow.cellAt h0 _ (by omega), World.ownsRow.cellAt h0 _ (by omega)]
    exact ⟨a, b⟩
theorem ownR_snoc {w wr w1 : World} {base : Nat} {v v' : Value} {l m : List (Int × Int)} {r : Int × Int} {o : Obj} {n : Nat} (hn : n = l.length) (hown : OwnR wr base v l)
    (hown' : w1.ownsRow base 45 2 v' (n + 1) (cellsR l ++ [.int .i64 r.1, .int .i64 r.2])) (hgrow : (wr.alloc o).grownBy w1 v.ownBlock) (hm : m = l ++ [r]) (hbel : Below base w wr) (hb : base ≤ w.heap.size) :
    OwnR w1 base v' m ∧ Below base w w1 := by
  subst hm hn
  have hsz := hbel.size
  refine ⟨?_, (hbel.alloc (by omega) o).grown hgrow (by simp; omega) (fun k hk => (World.ownsRow.lt hown k hk).1)⟩
  have e2 : cellsR (l ++ [r]) = cellsR l ++ [.int .i64 r.1, .int .i64 r.2] := by rw [cellsR_append]; rfl
  unfold OwnR
  rw [List.length_append, e2]
  exact hown'
theorem cell2_new (w : World) (a b : Value) (t : TypeId) : ∀ j u, [a, b][j]? = some u → (w.alloc (.cells #[a, b] t)).cell? ((⟨w.heap.size, 0, none⟩ : Addr).add j) = some u := by
  intro j u h
  rw [Addr.add_lit, cell_of_row _ w.heap.size _ _ _ _ (heap_alloc_new w _), Nat.zero_add]
  simpa using h
theorem mayL_take (l : List (Int × Int)) (k : Nat) (h : k < l.length) : mayL (l.take (k + 1)) = (mayL (l.take k) && mayR l[k]) := by
  unfold mayL
  rw [List.take_succ_eq_append_getElem h, List.all_append]
  simp
theorem mayL_false (l : List (Int × Int)) (k : Nat) (h : k < l.length) (hr : mayR l[k] = false) : mayL l = false := by
  cases e : mayL l with
  | false => rfl
  | true => rw [List.all_eq_true.1 e _ (List.getElem_mem h)] at hr; cases hr
/-- What a choice is worth, as a function value's own contract. -/
def Chooses (g : Nat) (f : Bool → Bool → Bool) : Prop := (∀ args w, (callFunc g args).run Tryd.prog w = .ok (.enter g args) w) ∧ ∀ (x y : Bool) (w : World), Calls Tryd.prog g #[.bool x, .bool y] w fun e w' => e = .returned (.bool (f x y)) ∧ w' = w
set_option maxRecDepth 10000 in
set_option maxHeartbeats 400000 in
theorem sameR_eq (l : List (Int × Int)) (a b : Option Addr) (ca cb : Nat) (w : World) (hl : l.length ≤ 140737488355328) (ha : RA w a l) (hb : RA w b l) :
    Calls Tryd.prog 21 #[.slice a l.length ca, .slice b l.length cb] w fun e w' => e = .returned (.bool true) ∧ ∃ q, w' = w.drewN q := by
  have HA := hidE ha
  have HB := hidE hb
  clear ha hb
  go_enter Tryd.func21, Tryd.ntmps21
  go_wp2
  go_loopw [5] (fun i wr => ∃ k q : Nat, k ≤ l.length ∧ i = .int .i64 (k : Int) ∧ wr = w.drewN q) (fun i _ => l.length - (intOf i).toNat)
  case atStart => exact ⟨0, 0, Nat.zero_le _, rfl, rfl⟩
  case round =>
    obtain ⟨k, q, hk, rfl, rfl⟩ := hrel
    by_cases hlt : k < l.length
    · obtain ⟨b1, o1, rfl, c0, c1⟩ := HA.out.at' k hlt
      obtain ⟨b2, o2, rfl, d0, d1⟩ := HB.out.at' k hlt
      generalize l[k] = u at *
      clear HA HB
      go_wp2
      go_quiet ((fail))
      go_wp2
      go_roundw
      case rel => exact ⟨k + 1, _, hlt, by go_num, rfl⟩
      case measure => simp [intOf]; omega
    · have hk2 : ¬ (k : Int) < (l.length : Int) := by omega
      clear HA HB
      go_wp2
      go_ret
      exact ⟨rfl, q, rfl⟩
end Go.Proofs.YthfnaalbgjeaeaaDoor
namespace Go.Proofs.YthfnaalbgjeaeaaDoor
open Go.RowKit Go.Shelf
theorem hid0 {p : Prop} (h : p) : Hid p := h
/-- w' is w, but for new blocks and the blocks of S. -/
structure Only (w w' : World) (S : Nat → Prop) : Prop where
  os : w'.os = w.os
  tape : w'.tape = w.tape
  output : w'.output = w.output
  size : w.heap.size ≤ w'.heap.size
  block : ∀ k, k < w.heap.size → ¬ S k → w'.heap[k]? = w.heap[k]?
theorem Only.refl (w : World) (S : Nat → Prop) : Only w w S := ⟨rfl, rfl, rfl, Nat.le_refl _, fun _ _ _ => rfl⟩
theorem Only.trans {a b c : World} {S T : Nat → Prop} (h : Only a b S) (k : Only b c T) (hT : ∀ i, T i → S i ∨ a.heap.size ≤ i) : Only a c S :=
  ⟨k.os.trans h.os, k.tape.trans h.tape, k.output.trans h.output, Nat.le_trans h.size k.size, fun i hi hS =>
    (k.block i (Nat.lt_of_lt_of_le hi h.size) (fun ht => (hT i ht).elim hS (fun h => absurd hi (Nat.not_lt.2 h)))).trans (h.block i hi hS)⟩
theorem Only.drewN (w : World) (n : Nat) (S : Nat → Prop) : Only w (w.drewN n) S := ⟨rfl, rfl, rfl, Nat.le_refl _, fun _ _ _ => rfl⟩
theorem Only.alloc (w : World) (o : Obj) (S : Nat → Prop) : Only w (w.alloc o) S := ⟨rfl, rfl, rfl, by simp, fun k hk _ => Below.heap_alloc w o k hk⟩
theorem Only.setCell (w : World) (b off : Nat) (u : Value) : Only w (w.setCell ⟨b, off, none⟩ u) (fun k => k = b) := ⟨rfl, rfl, rfl, by simp [World.setCell], fun k _ h => Below.heap_setCell w _ u k h⟩
theorem Only.mono {w w' : World} {S T : Nat → Prop} (h : Only w w' S) (hs : ∀ i, S i → T i) : Only w w' T := ⟨h.os, h.tape, h.output, h.size, fun i hi ht => h.block i hi (fun s => ht (hs i s))⟩
theorem Only.below {w w' : World} {S : Nat → Prop} {B : Nat} (h : Only w w' S) (hB : B ≤ w.heap.size) (hs : ∀ i, S i → B ≤ i) : Below B w w' :=
  ⟨h.os, h.tape, h.output, h.size, fun i hi => h.block i (by omega) (fun s => by have := hs i s; omega)⟩
theorem Only.ofBelow {w w' : World} {B : Nat} (h : Below B w w') (S : Nat → Prop) (hs : ∀ i, B ≤ i → i < w.heap.size → S i) : Only w w' S :=
  ⟨h.os, h.tape, h.output, h.size, fun i hi hn => h.block i (Nat.lt_of_not_le fun hb => hn (hs i hb hi))⟩
theorem Only.cell {w w' : World} {S : Nat → Prop} (h : Only w w' S) {p : Addr} (hp : p.block < w.heap.size) (hn : ¬ S p.block) : w'.cell? p = w.cell? p := World.cell?_of_block (w := w) (h.block p.block hp hn)
/-- Strings in memory, each where it is asked. -/
structure SA (w : World) (a : Option Addr) (L : List ByteArray) : Prop where
  at' : ∀ k (h : k < L.length), ∃ b off, a = some ⟨b, off, none⟩ ∧ b < w.heap.size ∧ w.cell? ⟨b, off + k, none⟩ = some (.string L[k])
def cellsS (L : List ByteArray) : List Value := L.map .string
def OwnS (w : World) (base : Nat) (v : Value) (L : List ByteArray) : Prop := w.ownsRow base 9 1 v L.length (cellsS L)
theorem infoStr : (Tryd.prog.info? 9).map (fun i => (i.zero, i.size, i.bytes)) = some (some (.string ⟨#[]⟩), 1, 16) := by kernel_rfl
theorem info_parts {t : TypeId} {z : Value} {n b : Nat} (h : (Tryd.prog.info? t).map (fun i => (i.zero, i.size, i.bytes)) = some (some z, n, b)) : ∃ i, Tryd.prog.info? t = some i ∧ i.zero = some z ∧ i.size = n ∧ i.bytes = b := by
  cases hq : Tryd.prog.info? t with
  | none => rw [hq] at h; cases h
  | some i =>
    rw [hq] at h
    simp only [Option.map_some, Option.some.injEq, Prod.mk.injEq] at h
    exact ⟨i, rfl, h.1, h.2.1, h.2.2⟩
theorem OwnS.sa {w : World} {base : Nat} {v : Value} {L : List ByteArray} (h : OwnS w base v L) : ∃ a cap, v = .slice a L.length cap ∧ SA w a L ∧ (∀ p, a = some p → base ≤ p.block) ∧ L.length ≤ cap := by
  have h0 := h
  rcases h.2 with ⟨rfl, hn⟩ | ⟨g, cap, cur, rfl, hg, hr, hc, _⟩
  · exact ⟨none, 0, by rw [hn], ⟨fun k hk => by omega⟩, ⟨(fun p hp => by simp at hp), by omega⟩⟩
  · refine ⟨_, cap, rfl, ⟨fun k hk => ⟨g, 0, rfl, (World.ownsRow.lt h0 g rfl).2, ?_⟩⟩, fun p hp => by cases hp; exact hg, hc⟩
    have := World.ownsRow.cellAt h0 k (by omega)
    rw [Nat.zero_add, this]
    simp [cellsS, hk]
theorem cell_one_new (w : World) (v : Value) (t : TypeId) : ∀ j u, [v][j]? = some u → (w.alloc (.cells #[v] t)).cell? ((⟨w.heap.size, 0, none⟩ : Addr).add j) = some u := by
  intro j u h
  rw [Addr.add_lit, cell_of_row _ w.heap.size _ _ _ _ (heap_alloc_new w _), Nat.zero_add]
  simpa using h
theorem SA.below {w w' : World} {a : Option Addr} {L : List ByteArray} (h : SA w a L) (hb : Below w.heap.size w w') : SA w' a L := ⟨fun k hk => by
  obtain ⟨b, off, rfl, h1, h2⟩ := h.at' k hk
  exact ⟨b, off, rfl, Nat.lt_of_lt_of_le h1 hb.size, (hb.cell (p := ⟨b, off + k, none⟩) h1).trans h2⟩⟩
theorem Below.later {w a b : World} (h : Below w.heap.size w a) (k : Below a.heap.size a b) : Below w.heap.size w b :=
  ⟨k.os.trans h.os, k.tape.trans h.tape, k.output.trans h.output, Nat.le_trans h.size k.size, fun i hi => (k.block i (Nat.lt_of_lt_of_le hi h.size)).trans (h.block i hi)⟩
theorem str_beq (a b : ByteArray) (h : ¬ a = b) : (a.toList == b.toList) = false := by
  rw [Bool.eq_false_iff]
  intro he
  rw [beq_iff_eq, ByteArray.toList_eq, ByteArray.toList_eq] at he
  exact h (ByteArray.ext (Array.toList_inj.1 he))
/-- cur is wk as far as the blocks from lo on go that wk has. -/
structure Agree (wk cur : World) (lo : Nat) : Prop where
  size : wk.heap.size ≤ cur.heap.size
  block : ∀ k, lo ≤ k → k < wk.heap.size → cur.heap[k]? = wk.heap[k]?
theorem Agree.refl (w : World) (lo : Nat) : Agree w w lo := ⟨Nat.le_refl _, fun _ _ _ => rfl⟩
theorem Agree.only {wk cur cur' : World} {lo : Nat} {S : Nat → Prop} (h : Agree wk cur lo) (ho : Only cur cur' S) (hs : ∀ k, S k → k < lo ∨ wk.heap.size ≤ k) : Agree wk cur' lo :=
  ⟨Nat.le_trans h.size ho.size, fun k h1 h2 => (ho.block k (Nat.lt_of_lt_of_le h2 h.size) (fun s => by have := hs k s; omega)).trans (h.block k h1 h2)⟩
theorem Agree.below {wk cur cur' : World} {lo : Nat} (h : Agree wk cur lo) (hb : Below cur.heap.size cur cur') : Agree wk cur' lo :=
  ⟨Nat.le_trans h.size hb.size, fun k h1 h2 => (hb.block k (Nat.lt_of_lt_of_le h2 h.size)).trans (h.block k h1 h2)⟩
theorem own_agree {wk cur : World} {lo t s n : Nat} {v : Value} {xs : List Value} (h : wk.ownsRow lo t s v n xs) (ha : Agree wk cur lo) : cur.ownsRow lo t s v n xs := by
  refine ⟨h.1, ?_⟩
  rcases h.2 with h2 | ⟨g, cap, cur0, hv, hg, hr, r⟩
  · exact .inl h2
  · exact .inr ⟨g, cap, cur0, hv, hg, (ha.block g hg (Array.getElem?_eq_some_iff.1 hr).1).trans hr, r⟩
theorem owns_lower {w : World} {base base' : Nat} {e : TypeId} {size : Nat} {v : Value} {n : Nat} {xs : List Value} (h : w.ownsRow base e size v n xs) (hb : base' ≤ base) : w.ownsRow base' e size v n xs :=
  ⟨h.1, h.2.imp id (fun ⟨g, cap, cur, h1, h2, h3⟩ => ⟨g, cap, cur, h1, Nat.le_trans hb h2, h3⟩)⟩
theorem own_form {w : World} {base : Nat} {e : TypeId} {size : Nat} {v : Value} {n : Nat} {xs : List Value} (h : w.ownsRow base e size v n xs) (hn : 0 < n) : ∃ g cap, v = .slice (some ⟨g, 0, none⟩) n cap ∧ base ≤ g ∧ g < w.heap.size ∧ n ≤ cap := by
  have h0 := h
  rcases h.2 with ⟨_, h1⟩ | ⟨g, cap, cur, rfl, hb, hr, hc, _⟩
  · omega
  · exact ⟨g, cap, rfl, hb, (World.ownsRow.lt h0 g rfl).2, hc⟩
theorem SA.front {w : World} {a : Option Addr} {L M : List ByteArray} (h : SA w a (L ++ M)) : SA w a L := ⟨fun k hk => by
  obtain ⟨b, off, e, h1, h2⟩ := h.at' k (by simp; omega)
  rw [List.getElem_append_left hk] at h2
  exact ⟨b, off, e, h1, h2⟩⟩
theorem app_nil (w : World) (ty : TypeId) : (Builtin.append_ #[24, 24] ty #[.slice none 0 0, .slice none 0 0]).run Tryd.prog w = .ok (.slice none 0 0) w := by
  go_simp
theorem wpList_spread {ops : Array Oper} {rest : List Oper} {op : Oper} {a : Act} {w : World} {Q : Exit → Act → World → Prop} (hgd : op.guard = none) (s x : Operand) (ho : op.op = .call { callee := .builtin .append, args := #[s, x], argTypes := #[24, 24] })
    (aN : Option Addr) (L : List ByteArray) (cN base : Nat) (hs : a.eval s = .slice none 0 0) (hx : a.eval x = .slice aN L.length cN) (hnil : aN = none → cN = 0) (ha : SA w aN L) (hl : L.length ≤ 8796093022208) (hb : base ≤ w.heap.size)
    (h : ∀ v' w', OwnS w' base v' L → w.grownBy w' none → wpList Tryd.prog ops Q rest (a.put op.dst v') w') : wpList Tryd.prog ops Q (op :: rest) a w := by
  obtain ⟨i0, hi, hz0, hz1, hz2⟩ := info_parts infoStr
  cases aN with
  | none =>
    have hL : L = [] := by
      cases L with
      | nil => rfl
      | cons y r => obtain ⟨b, off, e, _⟩ := ha.at' 0 (by simp); cases e
    subst hL
    have hc := hnil rfl
    subst hc
    refine wpList_plain hgd fun K hK => ?_
    have hr := app_nil w op.type
    unfold Oper.wp execOp
    simp only [ho, resolve, invoke, builtin, Sem.run_bind, Sem.run_pure, Result.andThen_ok, List.map_toArray, List.map_cons, List.map_nil, hs, hx, List.length_nil, hr]
    exact hK _ _ (h _ _ (World.ownsRow_nil _ _ _ _) ⟨rfl, rfl, rfl, Nat.le_refl _, fun _ _ _ => rfl⟩)
  | some ad =>
    refine wpList_append_own _ hgd s x 24 ho base 9 i0 (.string ⟨#[]⟩) 1 16 Tryd.underlying24 hi hz0 hz1 hz2 rfl (by decide) (.slice none 0 0) 0 [] hs (World.ownsRow_nil _ _ _ _) ad L.length cN (cellsS L) hx (by simp [cellsS]) (fun j u hu => ?_) (fun u hu => by obtain ⟨y, _, rfl⟩ := List.mem_map.1 hu; rfl) (by unfold maxLen; omega) (by omega) hb (fun v' w' h1 h2 _ => h v' w' (by rw [Nat.zero_add] at h1; exact h1) h2)
    have hj : j < L.length := by have := (List.getElem?_eq_some_iff.1 hu).1; simpa [cellsS] using this
    obtain ⟨b, off, e, h1, h2⟩ := ha.at' j hj
    cases e
    rw [Addr.add_mid, h2]
    have : (cellsS L)[j]? = some (.string L[j]) := by simp [cellsS, hj]
    rw [this] at hu
    exact hu
theorem app_nilR (w : World) (ty : TypeId) : (Builtin.append_ #[25, 25] ty #[.slice none 0 0, .slice none 0 0]).run Tryd.prog w = .ok (.slice none 0 0) w := by
  go_simp
theorem wpList_spreadR {ops : Array Oper} {rest : List Oper} {op : Oper} {a : Act} {w : World} {Q : Exit → Act → World → Prop} (hgd : op.guard = none) (s x : Operand) (ho : op.op = .call { callee := .builtin .append, args := #[s, x], argTypes := #[25, 25] })
    (aN : Option Addr) (L : List (Int × Int)) (cN base : Nat) (hs : a.eval s = .slice none 0 0) (hx : a.eval x = .slice aN L.length cN) (hnil : aN = none → cN = 0) (ha : RA w aN L) (hl : L.length ≤ 8796093022208) (hb : base ≤ w.heap.size)
    (h : ∀ v' w', OwnR w' base v' L → w.grownBy w' none → wpList Tryd.prog ops Q rest (a.put op.dst v') w') : wpList Tryd.prog ops Q (op :: rest) a w := by
  obtain ⟨i0, hi, hz0, hz1, hz2⟩ := info_parts infoRange
  cases aN with
  | none =>
    have hL : L = [] := by
      cases L with
      | nil => rfl
      | cons y r => obtain ⟨b, off, e, _⟩ := ha.at' 0 (by simp); cases e
    subst hL
    have hc := hnil rfl
    subst hc
    refine wpList_plain hgd fun K hK => ?_
    have hr := app_nilR w op.type
    unfold Oper.wp execOp
    simp only [ho, resolve, invoke, builtin, Sem.run_bind, Sem.run_pure, Result.andThen_ok, List.map_toArray, List.map_cons, List.map_nil, hs, hx, List.length_nil, hr]
    exact hK _ _ (h _ _ (World.ownsRow_nil _ _ _ _) ⟨rfl, rfl, rfl, Nat.le_refl _, fun _ _ _ => rfl⟩)
  | some ad =>
    refine wpList_append_own _ hgd s x 25 ho base 45 i0 (.agg #[.int .i64 0, .int .i64 0]) 2 16 Tryd.underlying25 hi hz0 hz1 hz2 rfl (by decide) (.slice none 0 0) 0 [] hs (World.ownsRow_nil _ _ _ _) ad L.length cN (cellsR L) hx (cellsR_length L) (fun j u hu => ?_) (fun u hu => by simp only [cellsR, List.mem_flatMap, List.mem_cons, List.not_mem_nil, or_false] at hu; obtain ⟨y, _, rfl | rfl⟩ := hu <;> rfl) (by unfold maxLen; omega) (by omega) hb (fun v' w' h1 h2 _ => h v' w' (by rw [Nat.zero_add] at h1; exact h1) h2)
    have hj : j < L.length * 2 := by have := (List.getElem?_eq_some_iff.1 hu).1; rwa [cellsR_length] at this
    obtain ⟨b, off, e, h1, h2⟩ := ha.at' (j / 2) (by omega)
    cases e
    rw [Addr.add_mid]
    obtain ⟨q0, q1⟩ := cellsR_at L (j / 2) (by omega)
    have h3 : j % 2 = 0 ∨ j % 2 = 1 := by omega
    rcases h3 with h3 | h3
    · have ej : j = j / 2 * 2 := by omega
      rw [ej] at hu
      rw [q0] at hu
      rw [show off + j = off + j / 2 * 2 by omega, h1]
      exact hu
    · have ej : j = j / 2 * 2 + 1 := by omega
      rw [ej] at hu
      rw [q1] at hu
      rw [show off + j = off + j / 2 * 2 + 1 by omega, h2]
      exact hu
theorem RA.below {w w' : World} {a : Option Addr} {l : List (Int × Int)} (h : RA w a l) (hb : Below w.heap.size w w') : RA w' a l := h.later hb
theorem RA.front {w : World} {a : Option Addr} {l m : List (Int × Int)} (h : RA w a (l ++ m)) : RA w a l := ⟨fun k hk => by
  obtain ⟨b, off, e, h1, h2⟩ := h.at' k (by simp; omega)
  rw [List.getElem_append_left hk] at h1 h2
  exact ⟨b, off, e, h1, h2⟩⟩
end Go.Proofs.YthfnaalbgjeaeaaDoor
namespace Go.Proofs.YthfnaalbgjeaeaaDoor
open Go.RowKit Go.Shelf
/-- An expression: its kind, its set (turned, names, points), its parts. -/
inductive Ex where
  | mk (k : Int) (nt : Bool) (N : List ByteArray) (P : List (Int × Int)) (L : List Ex) : Ex
def Ex.kind : Ex → Int | .mk k _ _ _ _ => k
def Ex.nt : Ex → Bool | .mk _ b _ _ _ => b
def Ex.nm : Ex → List ByteArray | .mk _ _ N _ _ => N
def Ex.pt : Ex → List (Int × Int) | .mk _ _ _ P _ => P
def Ex.parts : Ex → List Ex | .mk _ _ _ _ L => L
/-- The faults of Check: 0 too many, 1 wrong, 2 out of form. -/
inductive CR where
  | ok (n s : Nat) : CR
  | bad (f : Nat) : CR
def zeroF (nt : Bool) (N : List ByteArray) (P : List (Int × Int)) : Bool := !nt && N.length == 0 && P.length == 0
/-- Has a node what its kind asks for, and nothing beside? -/
def wholeF (may : List ByteArray → List (Int × Int) → Bool) (k : Int) (nt : Bool) (N : List ByteArray) (P : List (Int × Int)) (n : Nat) : Bool :=
  if k = 1 then n == 0 && zeroF nt N P
  else if k = 2 then n == 0 && may N P
  else if k = 3 ∨ k = 4 then zeroF nt N P
  else if k = 5 ∨ k = 6 ∨ k = 7 then n == 1 && zeroF nt N P
  else false
def hasK (L : List Ex) (k : Int) : Bool := L.any fun e => decide (e.kind = k)
def formF (k : Int) (L : List Ex) : Bool :=
  if k = 3 then decide (2 ≤ L.length) && (!hasK L 3 && !hasK L 1)
  else if k = 4 then decide (2 ≤ L.length) && !hasK L 4
  else true
mutual
def chkE (may : List ByteArray → List (Int × Int) → Bool) : Ex → Nat → Nat → Nat → CR
  | .mk k nt N P L, d, n, s =>
    if n + 1 ≤ 4000 ∧ d ≤ 128 ∧ s + (N.length + P.length) ≤ 65536 then
      if wholeF may k nt N P L.length then
        if formF k L then chkL may L (d + 1) (n + 1) (s + (N.length + P.length)) else .bad 2
      else .bad 1
    else .bad 0
def chkL (may : List ByteArray → List (Int × Int) → Bool) : List Ex → Nat → Nat → Nat → CR
  | [], _, n, s => .ok n s
  | e :: L, d, n, s => match chkE may e d n s with
    | .ok n' s' => chkL may L d n' s'
    | .bad f => .bad f
end
/-- The first so many parts: how many nodes and spans they come to, where all may be. -/
def CR.isOk : CR → Bool | .ok _ _ => true | .bad _ => false
theorem chkL_snoc (may : List ByteArray → List (Int × Int) → Bool) (L : List Ex) (e : Ex) (d : Nat) : ∀ (n s : Nat), chkL may (L ++ [e]) d n s = (match chkL may L d n s with | .ok n' s' => chkE may e d n' s' | .bad f => .bad f) := by
  induction L with
  | nil =>
    intro n s
    simp only [List.nil_append, chkL]
    cases chkE may e d n s <;> rfl
  | cons x L ih =>
    intro n s
    simp only [List.cons_append, chkL]
    cases chkE may x d n s with
    | ok n' s' => exact ih n' s'
    | bad f => rfl
theorem chkL_stop (may : List ByteArray → List (Int × Int) → Bool) (L M : List Ex) (d n s f : Nat) (h : chkL may L d n s = .bad f) : chkL may (L ++ M) d n s = .bad f := by
  induction L generalizing n s with
  | nil => simp [chkL] at h
  | cons x L ih =>
    simp only [List.cons_append, chkL] at h ⊢
    revert h
    cases chkE may x d n s with
    | ok n' s' => exact fun h => ih n' s' h
    | bad g => exact fun h => h
theorem chkE_bound (may : List ByteArray → List (Int × Int) → Bool) (e : Ex) (d n s : Nat) (h : ¬ (n + 1 ≤ 4000)) : chkE may e d n s = .bad 0 := by
  cases e with
  | mk k nt N P L => simp only [chkE]; rw [if_neg (fun c => h c.1)]
mutual
theorem chkE_ok (may : List ByteArray → List (Int × Int) → Bool) : ∀ (e : Ex) (d n s n' s' : Nat), s ≤ 65536 → chkE may e d n s = .ok n' s' → n < n' ∧ n' ≤ 4000 ∧ s ≤ s' ∧ s' ≤ 65536 := fun e d n s n' s' hs h => by
  match e with
  | .mk k nt N P L =>
    simp only [chkE] at h
    split at h
    · rename_i hc
      split at h
      · split at h
        · have := chkL_ok may L (d + 1) (n + 1) (s + (N.length + P.length)) n' s' hc.1 hc.2.2 h
          omega
        · cases h
      · cases h
    · cases h
theorem chkL_ok (may : List ByteArray → List (Int × Int) → Bool) : ∀ (L : List Ex) (d n s n' s' : Nat), n ≤ 4000 → s ≤ 65536 → chkL may L d n s = .ok n' s' → n ≤ n' ∧ n' ≤ 4000 ∧ s ≤ s' ∧ s' ≤ 65536 := fun L d n s n' s' hn hs h => by
  match L with
  | [] => simp only [chkL, CR.ok.injEq] at h; omega
  | e :: L =>
    simp only [chkL] at h
    cases he : chkE may e d n s with
    | ok a b =>
      rw [he] at h
      have h1 := chkE_ok may e d n s a b hs he
      have h2 := chkL_ok may L d a b n' s' h1.2.1 h1.2.2.2 h
      omega
    | bad f => rw [he] at h; cases h
end
end Go.Proofs.YthfnaalbgjeaeaaDoor
namespace Go.Proofs.YthfnaalbgjeaeaaDoor
open Go.RowKit Go.Shelf
/-- An expression as a value. -/
structure EV where
  k : Value
  t : Value
  n : Value
  p : Value
  r : Value
def EV.v (x : EV) : Value := .agg #[x.k, x.t, x.n, x.p, x.r]
/-- Five cells that hold an expression. -/
structure Five (w : World) (g o : Nat) (x : EV) : Prop where
  k : w.cell? ⟨g, o, none⟩ = some x.k
  t : w.cell? ⟨g, o + 1, none⟩ = some x.t
  n : w.cell? ⟨g, o + 2, none⟩ = some x.n
  p : w.cell? ⟨g, o + 3, none⟩ = some x.p
  r : w.cell? ⟨g, o + 4, none⟩ = some x.r
/-- Two worlds that agree on the blocks that Q says. -/
structure Keeps (Q : Nat → Prop) (w w' : World) : Prop where
  size : w.heap.size ≤ w'.heap.size
  cell : ∀ g o, Q g → g < w.heap.size → w'.cell? ⟨g, o, none⟩ = w.cell? ⟨g, o, none⟩
theorem Keeps.ofBelow {B : Nat} {w w' : World} (h : Below B w w') : Keeps (fun g => g < B) w w' := ⟨h.size, fun g o hg _ => h.cell (p := ⟨g, o, none⟩) hg⟩
theorem Five.keeps {Q : Nat → Prop} {w w' : World} {g o : Nat} {x : EV} (h : Five w g o x) (hq : Q g) (hk : Keeps Q w w') : Five w' g o x :=
  have l := World.block_lt_of_cell? w _ h.k
  ⟨(hk.cell g _ hq l).trans h.k, (hk.cell g _ hq l).trans h.t, (hk.cell g _ hq l).trans h.n, (hk.cell g _ hq l).trans h.p, (hk.cell g _ hq l).trans h.r⟩
/-- Texts in memory, in blocks that Q says. -/
structure SQ (w : World) (Q : Nat → Prop) (a : Option Addr) (L : List ByteArray) : Prop where
  at' : ∀ k (h : k < L.length), ∃ b off, a = some ⟨b, off, none⟩ ∧ Q b ∧ b < w.heap.size ∧ w.cell? ⟨b, off + k, none⟩ = some (.string L[k])
structure RQ (w : World) (Q : Nat → Prop) (a : Option Addr) (l : List (Int × Int)) : Prop where
  at' : ∀ k (h : k < l.length), ∃ b off, a = some ⟨b, off, none⟩ ∧ Q b ∧ w.cell? ⟨b, off + k * 2, none⟩ = some (.int .i64 l[k].1) ∧ w.cell? ⟨b, off + k * 2 + 1, none⟩ = some (.int .i64 l[k].2)
theorem SQ.sa {w : World} {Q : Nat → Prop} {a : Option Addr} {L : List ByteArray} (h : SQ w Q a L) : SA w a L := ⟨fun k hk => by
  obtain ⟨b, off, e, _, h1, h2⟩ := h.at' k hk
  exact ⟨b, off, e, h1, h2⟩⟩
theorem RQ.ra {w : World} {Q : Nat → Prop} {a : Option Addr} {l : List (Int × Int)} (h : RQ w Q a l) : RA w a l := ⟨fun k hk => by
  obtain ⟨b, off, e, _, h1, h2⟩ := h.at' k hk
  exact ⟨b, off, e, h1, h2⟩⟩
theorem SQ.keeps {w w' : World} {Q : Nat → Prop} {a : Option Addr} {L : List ByteArray} (h : SQ w Q a L) (hk : Keeps Q w w') : SQ w' Q a L := ⟨fun k hl => by
  obtain ⟨b, off, e, hq, h1, h2⟩ := h.at' k hl
  exact ⟨b, off, e, hq, Nat.lt_of_lt_of_le h1 hk.size, (hk.cell b _ hq h1).trans h2⟩⟩
theorem RQ.keeps {w w' : World} {Q : Nat → Prop} {a : Option Addr} {l : List (Int × Int)} (h : RQ w Q a l) (hk : Keeps Q w w') : RQ w' Q a l := ⟨fun k hl => by
  obtain ⟨b, off, e, hq, h1, h2⟩ := h.at' k hl
  exact ⟨b, off, e, hq, (hk.cell b _ hq (World.block_lt_of_cell? w _ h1)).trans h1, (hk.cell b _ hq (World.block_lt_of_cell? w _ h2)).trans h2⟩⟩
theorem SQ.nil (w : World) (Q : Nat → Prop) (a : Option Addr) : SQ w Q a [] := ⟨fun _ h => absurd h (Nat.not_lt_zero _)⟩
theorem RQ.nil (w : World) (Q : Nat → Prop) (a : Option Addr) : RQ w Q a [] := ⟨fun _ h => absurd h (Nat.not_lt_zero _)⟩
/-- An expression in memory, in blocks that Q says; lists of a thousand million at most. -/
inductive ExIs (w : World) (Q : Nat → Prop) : Ex → EV → Prop
  | mk (k : Int) (nt : Bool) (N : List ByteArray) (P : List (Int × Int)) (L : List Ex) (a : Option Addr) (ca : Nat) (b : Option Addr) (cb : Nat) (c : Option Addr) (cc : Nat) (vs : Nat → EV)
    (hN : SQ w Q a N) (hP : RQ w Q b P) (lN : N.length ≤ 1000000000) (lP : P.length ≤ 1000000000) (lL : L.length ≤ 1000000000)
    (hL : ∀ i, i < L.length → ∃ g off, c = some ⟨g, off, none⟩ ∧ Q g ∧ Five w g (off + i * 5) (vs i))
    (hR : ∀ i (h : i < L.length), ExIs w Q L[i] (vs i)) :
    ExIs w Q (.mk k nt N P L) ⟨.int .i64 k, .bool nt, .slice a N.length ca, .slice b P.length cb, .slice c L.length cc⟩
theorem ExIs.keeps {w w' : World} {Q : Nat → Prop} (hk : Keeps Q w w') {e : Ex} {x : EV} (h : ExIs w Q e x) : ExIs w' Q e x := by
  induction h with
  | mk k nt N P L a ca b cb c cc vs hN hP lN lP lL hL hR ih =>
    exact .mk k nt N P L a ca b cb c cc vs (hN.keeps hk) (hP.keeps hk) lN lP lL (fun i hi => by
      obtain ⟨g, off, e, hq, h5⟩ := hL i hi
      exact ⟨g, off, e, hq, h5.keeps hq hk⟩) ih
theorem ExIs.mono {w : World} {Q Q' : Nat → Prop} (hk : ∀ g, g < w.heap.size → Q g → Q' g) {e : Ex} {x : EV} (h : ExIs w Q e x) : ExIs w Q' e x := by
  induction h with
  | mk k nt N P L a ca b cb c cc vs hN hP lN lP lL hL hR ih =>
    exact .mk k nt N P L a ca b cb c cc vs ⟨fun k hk' => by
        obtain ⟨b, off, e, hq, h1, h2⟩ := hN.at' k hk'
        exact ⟨b, off, e, hk b h1 hq, h1, h2⟩⟩ ⟨fun k hk' => by
        obtain ⟨b, off, e, hq, h1, h2⟩ := hP.at' k hk'
        exact ⟨b, off, e, hk b (World.block_lt_of_cell? w _ h1) hq, h1, h2⟩⟩ lN lP lL (fun i hi => by
      obtain ⟨g, off, e, hq, h5⟩ := hL i hi
      exact ⟨g, off, e, hk g (World.block_lt_of_cell? w _ h5.k) hq, h5⟩) ih
/-- Whatever was laid is kept where nothing below the heap's size has turned. -/
theorem ExIs.past {w w' : World} {Q : Nat → Prop} (hb : Below w.heap.size w w') {e : Ex} {x : EV} (h : ExIs w Q e x) : ExIs w' Q e x :=
  h.keeps ⟨hb.size, fun g o _ hl => hb.cell (p := ⟨g, o, none⟩) hl⟩
theorem ExIs.shape {w : World} {Q : Nat → Prop} {k : Int} {nt : Bool} {N : List ByteArray} {P : List (Int × Int)} {L : List Ex} {x : EV} (h : ExIs w Q (.mk k nt N P L) x) : ∃ a ca b cb c cc, x = ⟨.int .i64 k, .bool nt, .slice a N.length ca, .slice b P.length cb, .slice c L.length cc⟩ ∧ SQ w Q a N ∧ RQ w Q b P ∧ N.length ≤ 1000000000 ∧ P.length ≤ 1000000000 ∧ L.length ≤ 1000000000 ∧
    ∃ vs : Nat → EV, (∀ i, i < L.length → ∃ g off, c = some ⟨g, off, none⟩ ∧ Q g ∧ Five w g (off + i * 5) (vs i)) ∧ ∀ i (h : i < L.length), ExIs w Q L[i] (vs i) := by
  cases h with
  | mk _ _ _ _ _ a ca b cb c cc vs hN hP lN lP lL hL hR => exact ⟨a, ca, b, cb, c, cc, rfl, hN, hP, lN, lP, lL, vs, hL, hR⟩
end Go.Proofs.YthfnaalbgjeaeaaDoor
namespace Go.Proofs.YthfnaalbgjeaeaaDoor
open Go.RowKit Go.Shelf
/-- Is a text among these? -/
def nmF (L : List ByteArray) (c : ByteArray) : Bool := L.any (fun s => decide (s = c))
/-- Does one of the ranges hold the point? -/
def ptF (R : List (Int × Int)) (p : Int) : Bool := R.any (fun r => decide (r.1 ≤ p) && decide (p ≤ r.2))
/-- Does a set hold a unit? -/
def holdsF (nt : Bool) (L : List ByteArray) (R : List (Int × Int)) (c : ByteArray) (p : Int) : Bool := nt != (nmF L c || (!(p == -1) && ptF R p))
theorem nm_take (L : List ByteArray) (c : ByteArray) (k : Nat) (h : k < L.length) : nmF (L.take (k + 1)) c = (nmF (L.take k) c || decide (L[k] = c)) := by
  unfold nmF
  rw [List.take_succ_eq_append_getElem h, List.any_append]
  simp
theorem pt_take (R : List (Int × Int)) (p : Int) (k : Nat) (h : k < R.length) : ptF (R.take (k + 1)) p = (ptF (R.take k) p || (decide (R[k].1 ≤ p) && decide (p ≤ R[k].2))) := by
  unfold ptF
  rw [List.take_succ_eq_append_getElem h, List.any_append]
  simp
theorem nm_hit (L : List ByteArray) (c : ByteArray) (k : Nat) (h : k < L.length) (he : L[k] = c) : nmF L c = true :=
  List.any_eq_true.2 ⟨L[k], List.getElem_mem h, by simp [he]⟩
end Go.Proofs.YthfnaalbgjeaeaaDoor
namespace Go.Proofs.YthfnaalbgjeaeaaDoor
open Go.RowKit Go.Shelf
def sideF (lo hi p : Int) : Int := if hi < p then -1 else if p < lo then 1 else 0
set_option maxRecDepth 10000 in
theorem fromPoint_any (lo hi p : Int) (w : World) : Calls Tryd.prog 49 #[.agg #[.int .i64 lo, .int .i64 hi], .int .i64 p] w fun e w' => e = .returned (.int .i64 (sideF lo hi p)) ∧ Below w.heap.size w w' := by
  unfold sideF
  have HB : Hid (Below w.heap.size w (w.alloc (.cells #[.int .i64 lo, .int .i64 hi] 45))) := hid0 ((Below.refl _ _).alloc (Nat.le_refl _) _)
  by_cases h1 : hi < p
  · go_enter Tryd.func49, Tryd.ntmps49
    go_wp2
    go_ret
    exact ⟨rfl, HB.out⟩
  · by_cases h2 : p < lo
    · go_enter Tryd.func49, Tryd.ntmps49
      go_wp2
      go_ret
      exact ⟨rfl, HB.out⟩
    · go_enter Tryd.func49, Tryd.ntmps49
      go_wp2
      go_ret
      exact ⟨rfl, HB.out⟩
/-- Ranges that rise, from 0 on. -/
def RiseP (P : List (Int × Int)) : Prop := (∀ k (h : k < P.length), 0 ≤ P[k].1 ∧ P[k].1 ≤ P[k].2) ∧ ∀ i j (hi : i < P.length) (hj : j < P.length), i < j → P[i].2 < P[j].1
theorem RiseP.hit {P : List (Int × Int)} (h : RiseP P) (p : Int) (l : Nat) (hl : l ≤ P.length) (h1 : ∀ k (hk : k < P.length), k < l → P[k].2 < p) (h2 : ∀ k (hk : k < P.length), l ≤ k → p ≤ P[k].2) : ptF P p = (if hl : l < P.length then decide (P[l].1 ≤ p) else false) := by
  have key : ptF P p = true ↔ ∃ k, ∃ hk : k < P.length, P[k].1 ≤ p ∧ p ≤ P[k].2 := by
    unfold ptF
    rw [List.any_eq_true]
    constructor
    · rintro ⟨r, hr, h⟩
      obtain ⟨k, hk, rfl⟩ := List.getElem_of_mem hr
      simp only [Bool.and_eq_true, decide_eq_true_eq] at h
      exact ⟨k, hk, h⟩
    · rintro ⟨k, hk, h⟩
      exact ⟨P[k], List.getElem_mem hk, by simp [h]⟩
  rw [Bool.eq_iff_iff, key]
  constructor
  · rintro ⟨k, hk, a, b⟩
    have hkl : l ≤ k := by
      by_cases e : k < l
      · have := h1 k hk e; omega
      · omega
    have hl2 : l < P.length := by omega
    rw [dif_pos hl2, decide_eq_true_iff]
    by_cases e : l = k
    · subst e; exact a
    · have := h.2 l k hl2 hk (by omega)
      have := h2 l hl2 (Nat.le_refl _)
      omega
  · split
    · rename_i hl2
      intro e
      exact ⟨l, hl2, of_decide_eq_true e, h2 l hl2 (Nat.le_refl _)⟩
    · intro e; cases e
theorem sideF_neg (lo hi p : Int) : sideF lo hi p < 0 ↔ hi < p := by unfold sideF; split <;> (try split) <;> omega
theorem sideF_zero (lo hi p : Int) : sideF lo hi p = 0 ↔ lo ≤ p ∧ p ≤ hi := by unfold sideF; split <;> (try split) <;> omega
set_option maxRecDepth 10000 in
set_option maxHeartbeats 1600000 in
theorem search_any (P : List (Int × Int)) (a : Option Addr) (cap : Nat) (p : Int) (w : World) (hl : P.length ≤ 1000000000) (ha : RA w a P) (hP : RiseP P) :
    Calls Tryd.prog 48 #[.slice a P.length cap, .int .i64 p, .func (.func 49) #[] #[]] w fun e w' => (∃ q, e = .returned (.tuple #[.int .i64 q, .bool (ptF P p)])) ∧ Below w.heap.size w w' := by
  have HA := hid0 ha
  have HP := hid0 hP
  clear ha hP
  go_enter Tryd.func48, Tryd.ntmps48
  go_wp2
  go_loopw [9, 10, 11] (fun x y _ wr => ∃ l m : Nat, l ≤ m ∧ m ≤ P.length ∧ x = .int .i64 (l : Int) ∧ y = .int .i64 (m : Int) ∧ Hid (∀ k (hk : k < P.length), k < l → P[k].2 < p) ∧ Hid (∀ k (hk : k < P.length), m ≤ k → p ≤ P[k].2) ∧ Hid (Below w.heap.size w wr)) (fun x y _ _ => (intOf y).toNat - (intOf x).toNat)
  case atStart => exact ⟨0, P.length, Nat.zero_le _, Nat.le_refl _, rfl, rfl, hid0 (fun k _ h => absurd h (Nat.not_lt_zero _)), hid0 (fun k hk h => by omega), hid0 (Below.refl _ _)⟩
  case round =>
    obtain ⟨l, m, hlm, hmP, rfl, rfl, H1, H2, HB⟩ := hrel
    by_cases hlt : l < m
    · have hltI : (l : Int) < (m : Int) := by omega
      obtain ⟨c, hc⟩ : ∃ c, c = (l + m) / 2 := ⟨_, rfl⟩
      have hcl : l ≤ c := by omega
      have hcm : c < m := by omega
      have hcP : c < P.length := by omega
      obtain ⟨b, off, rfl, d0, d1⟩ := (HA.out.later HB.out).at' c hcP
      have HF := hid0 (fun W => fromPoint_any P[c].1 P[c].2 p W)
      have HS := hid0 (sideF_neg P[c].1 P[c].2 p)
      have HU : Hid (P[c].2 < p → ∀ k (hk : k < P.length), k < c + 1 → P[k].2 < p) := hid0 (fun h k hk hkc => by
        by_cases e : k = c
        · subst e; exact h
        · have a1 := HP.out.2 k c hk hcP (by omega)
          have a2 := (HP.out.1 c hcP).2
          omega)
      have HD : Hid (¬ P[c].2 < p → ∀ k (hk : k < P.length), c ≤ k → p ≤ P[k].2) := hid0 (fun h k hk hkc => by
        by_cases e : k = c
        · subst e; omega
        · have a1 := HP.out.2 c k hcP hk (by omega)
          have a2 := (HP.out.1 k hk).2
          omega)
      have hci : ((l : Int) + (m : Int)) / 2 < (P.length : Int) := by omega
      have hc0 : (0 : Int) ≤ ((l : Int) + (m : Int)) / 2 := by omega
      have HCC : Hid (((l : Int) + (m : Int)) / 2 = (c : Int)) := hid0 (by omega)
      have HCW : Hid (IntKind.i64.wrap (((l : Int) + (m : Int)) / 2 + 1) = ((c + 1 : Nat) : Int)) := hid0 (by simp [IntKind.wrap, IntKind.bits, IntKind.signed]; omega)
      generalize P[c] = r at *
      obtain ⟨lo, hi⟩ := r
      simp only at d0 d1 HF HS HU HD
      rw [hc] at d0 d1
      generalize sideF lo hi p = q at *
      by_cases hq : q < 0
      · have HN := hid0 (HU.out (HS.out.1 hq))
        clear HU HD HS
        go_wp2_with (go_at_call 49; refine (HF.out _).mono ?_; rintro e w1 ⟨rfl, hb1⟩; have HB1 := hid0 (Below.later HB.out hb1); clear hb1)
        go_roundw
        case rel => exact ⟨c + 1, m, by omega, hmP, by simp only [Value.int.injEq, true_and]; have := HCC.out; omega, rfl, HN, H2, HB1⟩
        case measure => simp [intOf]; omega
      · have HN := hid0 (HD.out (fun e => hq (HS.out.2 e)))
        clear HU HD HS
        go_wp2_with (go_at_call 49; refine (HF.out _).mono ?_; rintro e w1 ⟨rfl, hb1⟩; have HB1 := hid0 (Below.later HB.out hb1); clear hb1)
        go_roundw
        case rel => exact ⟨l, c, hcl, by omega, rfl, by rw [HCC.out], H1, HN, HB1⟩
        case measure => simp [intOf]; omega
    · have hltI : ¬ (l : Int) < (m : Int) := by omega
      have elm : l = m := by omega
      subst elm
      have hhit := HP.out.hit p l hmP H1.out H2.out
      by_cases hlP : l < P.length
      · rw [dif_pos hlP] at hhit
        have hlPI : (l : Int) < (P.length : Int) := by omega
        have hl0 : (0 : Int) ≤ (l : Int) := by omega
        obtain ⟨b, off, rfl, d0, d1⟩ := (HA.out.later HB.out).at' l hlP
        have HF := hid0 (fun W => fromPoint_any P[l].1 P[l].2 p W)
        have HZ : Hid (ptF P p = decide (sideF P[l].1 P[l].2 p = 0)) := hid0 (by
          rw [hhit]
          have h2 := H2.out l hlP (Nat.le_refl _)
          have h3 := sideF_zero P[l].1 P[l].2 p
          by_cases e : P[l].1 ≤ p
          · rw [decide_eq_true e, decide_eq_true (h3.2 ⟨e, h2⟩)]
          · rw [decide_eq_false e, decide_eq_false (fun e2 => e (h3.1 e2).1)])
        clear hhit H1 H2
        generalize P[l] = r at *
        obtain ⟨lo, hi⟩ := r
        simp only at d0 d1 HF HZ
        generalize sideF lo hi p = q at *
        go_wp2_with (go_at_call 49; refine (HF.out _).mono ?_; rintro e w1 ⟨rfl, hb1⟩; have HB1 := hid0 (Below.later HB.out hb1); clear hb1)
        go_ret2
        exact ⟨⟨_, by rw [HZ.out]; by_cases h : q = 0 <;> simp [h] <;> rfl⟩, HB1.out⟩
      · rw [dif_neg hlP] at hhit
        have hlPI : ¬ (l : Int) < (P.length : Int) := by omega
        go_wp2
        go_ret2
        exact ⟨⟨_, rfl⟩, HB.out⟩
set_option maxRecDepth 10000 in
theorem bs_none (a : Option Addr) (cap : Nat) (c : ByteArray) (w : World) : Calls Tryd.prog 47 #[.slice a 0 cap, .string c] w fun e w' => e = .returned (.tuple #[.int .i64 0, .bool false]) ∧ w' = w := by
  go_enter Tryd.func47, Tryd.ntmps47
  go_wp2
  go_rounds 1
  go_ret2
  exact ⟨rfl, rfl⟩
end Go.Proofs.YthfnaalbgjeaeaaDoor
namespace Go.Proofs.YthfnaalbgjeaeaaDoor
open Go.RowKit Go.Shelf
def faultV (e : Value) : Value := .iface 48 (.agg #[e])
set_option maxRecDepth 10000 in
theorem need_t (v : Value) (w : World) : Calls Tryd.prog 22 #[.bool true, v] w fun e w' => e = .returned (.tuple #[]) ∧ w' = w := by
  go_enter Tryd.func22, Tryd.ntmps22
  go_wp2
  go_end0
  exact ⟨rfl, rfl⟩
set_option maxRecDepth 10000 in
theorem need_f (t : TypeId) (x : Value) (w : World) : Calls Tryd.prog 22 #[.bool false, .iface t x] w fun e w' => e = .panicked [{ v := faultV (.iface t x), recovered := false }] ∧ w' = w := by
  go_enter Tryd.func22, Tryd.ntmps22
  go_wp2
  exact ⟨rfl, rfl, rfl⟩
theorem need_tb (b : Bool) (v : Value) (w : World) (hb : b = true) : Calls Tryd.prog 22 #[.bool b, v] w fun e w' => e = .returned (.tuple #[]) ∧ w' = w := by
  subst hb
  exact need_t v w
theorem need_fb (b : Bool) (t : TypeId) (x : Value) (w : World) (hb : b = false) : Calls Tryd.prog 22 #[.bool b, .iface t x] w fun e w' => e = .panicked [{ v := faultV (.iface t x), recovered := false }] ∧ w' = w := by
  subst hb
  exact need_f t x w
set_option maxRecDepth 10000 in
set_option maxHeartbeats 800000 in
theorem isZero_any (nt : Bool) (a b : Option Addr) (n m ca cb : Nat) (w : World) : Calls Tryd.prog 28 #[.agg #[.bool nt, .slice a n ca, .slice b m cb]] w fun e w' => e = .returned (.bool (!nt && n == 0 && m == 0)) ∧ Below w.heap.size w w' := by
  have HB : Hid (Below w.heap.size w (w.alloc (.cells #[.bool nt, .slice a n ca, .slice b m cb] 27))) := hid0 ((Below.refl _ _).alloc (Nat.le_refl _) _)
  cases nt with
  | true =>
    go_enter Tryd.func28, Tryd.ntmps28
    go_wp2
    go_ret
    exact ⟨rfl, HB.out⟩
  | false =>
    by_cases h1 : n = 0
    · subst h1
      by_cases h2 : m = 0
      · subst h2
        go_enter Tryd.func28, Tryd.ntmps28
        go_wp2
        go_ret
        exact ⟨rfl, HB.out⟩
      · have h2I : ¬ (m : Int) = 0 := by omega
        go_enter Tryd.func28, Tryd.ntmps28
        go_wp2
        go_ret
        exact ⟨by simp; rw [Bool.eq_iff_iff]; simp, HB.out⟩
    · have h1I : ¬ (n : Int) = 0 := by omega
      go_enter Tryd.func28, Tryd.ntmps28
      go_wp2
      go_ret
      exact ⟨by simp [h1], HB.out⟩
/-- Do ranges rise, a point free ahead of each? -/
def ptsGo : Int → List (Int × Int) → Bool
  | _, [] => true
  | f, r :: P => if r.1 < f then false else if r.2 < r.1 then false else if 1114111 < r.2 then false else ptsGo (r.2 + 2) P
def ptsF (P : List (Int × Int)) : Bool := ptsGo 0 P
theorem ptsGo_ok : ∀ (P : List (Int × Int)) (f : Int), ptsGo f P = true → (∀ k (h : k < P.length), f ≤ P[k].1 ∧ P[k].1 ≤ P[k].2) ∧ ∀ i j (hi : i < P.length) (hj : j < P.length), i < j → P[i].2 < P[j].1 := by
  intro P
  induction P with
  | nil => intro f _; exact ⟨fun k h => absurd h (Nat.not_lt_zero _), fun i j hi => absurd hi (Nat.not_lt_zero _)⟩
  | cons r P ih =>
    intro f h
    simp only [ptsGo] at h
    split at h
    · cases h
    · split at h
      · cases h
      · split at h
        · cases h
        · obtain ⟨h1, h2⟩ := ih _ h
          refine ⟨fun k hk => ?_, fun i j hi hj hij => ?_⟩
          · cases k with
            | zero => simp only [List.getElem_cons_zero]; omega
            | succ k =>
              have := h1 k (by simpa using hk)
              simp only [List.getElem_cons_succ]
              omega
          · cases i with
            | zero =>
              cases j with
              | zero => omega
              | succ j =>
                have := h1 j (by simpa using hj)
                simp only [List.getElem_cons_zero, List.getElem_cons_succ]
                omega
            | succ i =>
              cases j with
              | zero => omega
              | succ j =>
                simp only [List.getElem_cons_succ]
                exact h2 i j (by simpa using hi) (by simpa using hj) (by omega)
theorem ptsF_rise {P : List (Int × Int)} (h : ptsF P = true) : RiseP P := by
  obtain ⟨h1, h2⟩ := ptsGo_ok P 0 h
  exact ⟨h1, h2⟩
set_option maxRecDepth 10000 in
set_option maxHeartbeats 1600000 in
theorem pts_any (P : List (Int × Int)) (a : Option Addr) (cap : Nat) (w : World) (hl : P.length ≤ 1000000000) (ha : RA w a P) :
    Calls Tryd.prog 40 #[.slice a P.length cap] w fun e w' => e = .returned (.bool (ptsF P)) ∧ Below w.heap.size w w' := by
  have HA := hid0 ha
  clear ha
  go_enter Tryd.func40, Tryd.ntmps40
  go_wp2
  go_loopw [3, 5, 8] (fun f _ i wr => ∃ (k : Nat) (fr : Int), k ≤ P.length ∧ 0 ≤ fr ∧ i = .int .i64 (k : Int) ∧ f = .int .i64 fr ∧ Hid (ptsGo fr (P.drop k) = ptsF P) ∧ Hid (Below w.heap.size w wr)) (fun _ _ i _ => P.length - (intOf i).toNat)
  case atStart => exact ⟨0, 0, Nat.zero_le _, Int.le_refl _, rfl, rfl, hid0 rfl, hid0 (Below.refl _ _)⟩
  case round =>
    obtain ⟨k, fr, hk, hfr, rfl, rfl, HG, HB⟩ := hrel
    by_cases hlt : k < P.length
    · have hkI : (k : Int) < (P.length : Int) := by omega
      have hkI0 : (0 : Int) ≤ (k : Int) := by omega
      obtain ⟨b, off, rfl, d0, d1⟩ := (HA.out.later HB.out).at' k hlt
      have hg := HG.out
      rw [List.drop_eq_getElem_cons hlt, ptsGo] at hg
      generalize P[k] = r at *
      obtain ⟨lo, hi⟩ := r
      simp only at d0 d1 hg
      have HBA : Hid (Below w.heap.size w (wr.alloc (.cells #[.int .i64 lo, .int .i64 hi] 45))) := hid0 (HB.out.alloc HB.out.size _)
      by_cases h1 : lo < fr
      · rw [if_pos h1] at hg
        have HE := hid0 hg
        clear hg HG
        go_wp2
        go_ret
        exact ⟨by rw [← HE.out]; rfl, HBA.out⟩
      · rw [if_neg h1] at hg
        by_cases h2 : hi < lo
        · rw [if_pos h2] at hg
          have HE := hid0 hg
          clear hg HG
          go_wp2
          go_ret
          exact ⟨by rw [← HE.out]; rfl, HBA.out⟩
        · rw [if_neg h2] at hg
          by_cases h3 : 1114111 < hi
          · rw [if_pos h3] at hg
            have HE := hid0 hg
            clear hg HG
            go_wp2
            go_ret
            exact ⟨by rw [← HE.out]; rfl, HBA.out⟩
          · rw [if_neg h3] at hg
            have HE := hid0 hg
            clear hg HG
            have h4 : 0 ≤ hi := by omega
            have hwr : IntKind.i64.wrap (hi + 2) = hi + 2 := by simp [IntKind.wrap, IntKind.bits, IntKind.signed]; omega
            go_wp2
            go_roundw
            case rel => exact ⟨k + 1, hi + 2, by omega, by omega, by go_num, rfl, HE, HBA⟩
            case measure => simp [intOf]; omega
    · have hkI : ¬ (k : Int) < (P.length : Int) := by omega
      have hg := HG.out
      rw [List.drop_of_length_le (by omega), ptsGo] at hg
      have HE := hid0 hg
      clear hg HG
      go_wp2
      go_ret
      exact ⟨by rw [← HE.out]; rfl, HB.out⟩
set_option maxRecDepth 10000 in
theorem names_none (a : Option Addr) (cap : Nat) (w : World) : Calls Tryd.prog 39 #[.slice a 0 cap] w fun e w' => e = .returned (.bool true) ∧ w' = w := by
  go_enter Tryd.func39, Tryd.ntmps39
  go_wp2
  go_rounds 1
  go_ret
  exact ⟨rfl, rfl⟩
/-- What is asked of mayBe at a set. -/
def MayC (may : List ByteArray → List (Int × Int) → Bool) (N : List ByteArray) (P : List (Int × Int)) : Prop := ∀ (nt : Bool) (a b : Option Addr) (ca cb : Nat) (w : World), P.length ≤ 1000000000 → SA w a N → RA w b P →
  Calls Tryd.prog 29 #[.agg #[.bool nt, .slice a N.length ca, .slice b P.length cb]] w fun e w' => e = .returned (.bool (may N P)) ∧ Below w.heap.size w w'
set_option maxRecDepth 10000 in
set_option maxHeartbeats 800000 in
theorem mayC_none (P : List (Int × Int)) : MayC (fun _ P => ptsF P) [] P := by
  intro nt a b ca cb w hl ha hb
  obtain ⟨w0, hw0⟩ : ∃ w0, w0 = w.alloc (.cells #[.bool nt, .slice a 0 ca, .slice b P.length cb] 27) := ⟨_, rfl⟩
  have hB0 : Below w.heap.size w w0 := by rw [hw0]; exact (Below.refl _ _).alloc (Nat.le_refl _) _
  have hX0 : w0.heap[w.heap.size]? = some (.cells #[.bool nt, .slice a 0 ca, .slice b P.length cb] 27 (0, 0)) := by rw [hw0]; exact heap_alloc_new w _
  have x1 : w0.cell? ⟨w.heap.size, 1, none⟩ = some (.slice a 0 ca) := by rw [cell_of_row _ _ _ _ _ _ hX0]; rfl
  have x2 : w0.cell? ⟨w.heap.size, 2, none⟩ = some (.slice b P.length cb) := by rw [cell_of_row _ _ _ _ _ _ hX0]; rfl
  have HN := hid0 (names_none a ca w0)
  have HP := hid0 (pts_any P b cb w0 hl (hb.below hB0))
  have HB0 := hid0 hB0
  have hf := hw0.symm
  simp only [List.length_nil]
  clear ha hb hw0 hX0 hB0
  go_enter Tryd.func29, Tryd.ntmps29
  go_wp2_with (first
    | (go_at_call 39; refine HN.out.mono ?_; rintro e w1 ⟨rfl, hw1⟩; have hw1' := hw1.symm; subst hw1'; clear hw1)
    | (go_at_call 40; refine HP.out.mono ?_; rintro e w2 ⟨rfl, hb2⟩)
    | fail)
  go_ret
  exact ⟨rfl, Below.later HB0.out hb2⟩
/-- Parts in memory: the values, each where it is asked. -/
structure PA (w : World) (c : Option Addr) (n : Nat) (vs : Nat → EV) : Prop where
  at' : ∀ i, i < n → ∃ g off, c = some ⟨g, off, none⟩ ∧ g < w.heap.size ∧ Five w g (off + i * 5) (vs i)
theorem PA.later {w w' : World} {c : Option Addr} {n : Nat} {vs : Nat → EV} (h : PA w c n vs) (k : Below w.heap.size w w') : PA w' c n vs := ⟨fun i hi => by
  obtain ⟨g, off, e, hg, h5⟩ := h.at' i hi
  exact ⟨g, off, e, Nat.lt_of_lt_of_le hg k.size, h5.keeps (Q := fun g => g < w.heap.size) hg (Keeps.ofBelow k)⟩⟩
set_option maxRecDepth 10000 in
theorem kind_is (k q : Int) (t n p r : Value) (g : Nat) (w : World) (ht : ∃ b, t = .bool b) (hn : ∃ a m c, n = .slice a m c) (hp : ∃ a m c, p = .slice a m c) (hr : ∃ a m c, r = .slice a m c) (hg : w.cell? ⟨g, 0, none⟩ = some (.int .i64 q)) :
    Calls Tryd.prog 42 #[.agg #[.int .i64 k, t, n, p, r], .pointer (some ⟨g, 0, none⟩)] w fun e w' => e = .returned (.bool (decide (k = q))) ∧ Below w.heap.size w w' := by
  obtain ⟨b, rfl⟩ := ht
  obtain ⟨a1, m1, c1, rfl⟩ := hn
  obtain ⟨a2, m2, c2, rfl⟩ := hp
  obtain ⟨a3, m3, c3, rfl⟩ := hr
  have hgl := World.block_lt_of_cell? w _ hg
  have HB : Hid (Below w.heap.size w (w.alloc (.cells #[.int .i64 k, .bool b, .slice a1 m1 c1, .slice a2 m2 c2, .slice a3 m3 c3] 30))) := hid0 ((Below.refl _ _).alloc (Nat.le_refl _) _)
  have y0 : (w.alloc (.cells #[.int .i64 k, .bool b, .slice a1 m1 c1, .slice a2 m2 c2, .slice a3 m3 c3] 30)).cell? ⟨g, 0, none⟩ = some (.int .i64 q) := (HB.out.cell hgl).trans hg
  go_enter Tryd.func42, Tryd.ntmps42
  go_wp2
  go_ret
  exact ⟨by by_cases h : k = q <;> simp [h], HB.out⟩
end Go.Proofs.YthfnaalbgjeaeaaDoor
namespace Go.Proofs.YthfnaalbgjeaeaaDoor
open Go.RowKit Go.Shelf
theorem ExIs.form {w : World} {Q : Nat → Prop} {e : Ex} {x : EV} (h : ExIs w Q e x) : x.k = .int .i64 e.kind ∧ (∃ b, x.t = .bool b) ∧ (∃ a m c, x.n = .slice a m c) ∧ (∃ a m c, x.p = .slice a m c) ∧ ∃ a m c, x.r = .slice a m c := by
  cases h with
  | mk k nt N P L a ca b cb c cc vs => exact ⟨rfl, ⟨_, rfl⟩, ⟨_, _, _, rfl⟩, ⟨_, _, _, rfl⟩, _, _, _, rfl⟩
/-- Parts in memory, and what they are. -/
structure LA (w : World) (Q : Nat → Prop) (c : Option Addr) (L : List Ex) (vs : Nat → EV) : Prop where
  at' : ∀ i, i < L.length → ∃ g off, c = some ⟨g, off, none⟩ ∧ Q g ∧ Five w g (off + i * 5) (vs i)
  is : ∀ i (h : i < L.length), ExIs w Q L[i] (vs i)
theorem LA.keeps {w w' : World} {Q : Nat → Prop} {c : Option Addr} {L : List Ex} {vs : Nat → EV} (h : LA w Q c L vs) (k : Keeps Q w w') : LA w' Q c L vs :=
  ⟨fun i hi => by
    obtain ⟨g, off, e, hg, h5⟩ := h.at' i hi
    exact ⟨g, off, e, hg, h5.keeps hg k⟩, fun i hi => (h.is i hi).keeps k⟩
theorem Keeps.past {Q : Nat → Prop} {w w' : World} (h : Below w.heap.size w w') : Keeps Q w w' := ⟨h.size, fun g o _ hl => h.cell (p := ⟨g, o, none⟩) hl⟩
theorem hasK_iff (L : List Ex) (q : Int) : hasK L q = true ↔ ∃ k, ∃ h : k < L.length, L[k].kind = q := by
  unfold hasK
  rw [List.any_eq_true]
  constructor
  · rintro ⟨s, hs, h⟩
    obtain ⟨k, hk, rfl⟩ := List.getElem_of_mem hs
    exact ⟨k, hk, of_decide_eq_true h⟩
  · rintro ⟨k, hk, h⟩
    exact ⟨L[k], List.getElem_mem hk, decide_eq_true h⟩
set_option maxRecDepth 10000 in
set_option maxHeartbeats 800000 in
theorem index_kind (L : List Ex) (c : Option Addr) (cc : Nat) (vs : Nat → EV) (Q : Nat → Prop) (q : Int) (g : Nat) (w : World) (hl : L.length ≤ 1000000000) (ha : LA w Q c L vs) (hg : w.cell? ⟨g, 0, none⟩ = some (.int .i64 q)) :
    Calls Tryd.prog 51 #[.slice c L.length cc, .func (.func 42) #[] #[.pointer (some ⟨g, 0, none⟩)]] w fun e w' => (∃ r : Int, e = .returned (.int .i64 r) ∧ (0 ≤ r ↔ hasK L q = true)) ∧ Below w.heap.size w w' := by
  have hgl := World.block_lt_of_cell? w _ hg
  have HG : Hid (∀ W, Below w.heap.size w W → W.cell? ⟨g, 0, none⟩ = some (.int .i64 q)) := hid0 (fun W hW => (hW.cell (p := ⟨g, 0, none⟩) hgl).trans hg)
  have HA := hid0 ha
  have HB0 := hid0 (Below.refl w.heap.size w)
  clear ha hg hgl
  go_enter Tryd.func51, Tryd.ntmps51
  go_wp2
  go_loopw [8] (fun v wr => ∃ i : Nat, i ≤ L.length ∧ v = .int .i64 (i : Int) ∧ Hid (∀ k (h : k < L.length), k < i → L[k].kind ≠ q) ∧ Hid (Below w.heap.size w wr)) (fun v _ => L.length - (intOf v).toNat)
  case atStart => exact ⟨0, Nat.zero_le _, rfl, hid0 (fun k _ h => absurd h (Nat.not_lt_zero _)), HB0⟩
  case round =>
    obtain ⟨i, hi, rfl, HN, HB⟩ := hrel
    by_cases hlt : i < L.length
    · have hiI : (i : Int) < (L.length : Int) := by omega
      have hi0 : (0 : Int) ≤ (i : Int) := by omega
      have hla := HA.out.keeps (Keeps.past HB.out)
      obtain ⟨b, off, rfl, _, e0, e1, e2, e3, e4⟩ := hla.at' i hlt
      obtain ⟨f0, f1, f2, f3, f4⟩ := (hla.is i hlt).form
      have HS := hid0 (kind_is L[i].kind q (vs i).t (vs i).n (vs i).p (vs i).r g wr f1 f2 f3 f4 (HG.out _ HB.out))
      rw [f0] at e0
      have HD : Hid (L[i].kind = q → hasK L q = true) := hid0 (fun h => (hasK_iff L q).2 ⟨i, hlt, h⟩)
      have HN2 : Hid (L[i].kind ≠ q → ∀ k (h : k < L.length), k < i + 1 → L[k].kind ≠ q) := hid0 (fun hne k h hk => by
        by_cases e : k = i
        · subst e; exact hne
        · exact HN.out k h (by omega))
      generalize L[i].kind = l at *
      generalize (vs i).t = xt at *
      generalize (vs i).n = xn at *
      generalize (vs i).p = xp at *
      generalize (vs i).r = xr at *
      clear hla f0 f1 f2 f3 f4
      cases hd : decide (l = q) with
      | true =>
        rw [hd] at HS
        have HV := hid0 (HD.out (of_decide_eq_true hd))
        clear HD HN2 HN hd
        go_wp2_with (go_at_call 42; refine HS.out.mono ?_; rintro e w1 ⟨rfl, hb1⟩; have HB1 := hid0 (HB.out.trans (hb1.mono HB.out.size)); clear hb1)
        go_ret
        exact ⟨⟨_, rfl, by simp [HV.out]⟩, HB1.out⟩
      | false =>
        rw [hd] at HS
        have HV := hid0 (HN2.out (of_decide_eq_false hd))
        clear HD HN2 HN hd
        go_wp2_with (go_at_call 42; refine HS.out.mono ?_; rintro e w1 ⟨rfl, hb1⟩; have HB1 := hid0 (HB.out.trans (hb1.mono HB.out.size)); clear hb1)
        go_roundw
        case rel => exact ⟨i + 1, by omega, by go_num, HV, HB1⟩
        case measure => simp [intOf]; omega
    · have hiI : ¬ (i : Int) < (L.length : Int) := by omega
      have HV : Hid (hasK L q = false) := hid0 (by
        rw [Bool.eq_false_iff]
        intro h
        obtain ⟨k, hk, e⟩ := (hasK_iff L q).1 h
        exact HN.out k hk (by omega) e)
      clear HN HA
      go_wp2
      go_ret
      exact ⟨⟨-1, rfl, by simp [HV.out]⟩, HB.out⟩
set_option maxRecDepth 10000 in
set_option maxHeartbeats 400000 in
theorem contains_kind (L : List Ex) (c : Option Addr) (cc : Nat) (vs : Nat → EV) (Q : Nat → Prop) (q : Int) (g : Nat) (w : World) (hl : L.length ≤ 1000000000) (ha : LA w Q c L vs) (hg : w.cell? ⟨g, 0, none⟩ = some (.int .i64 q)) :
    Calls Tryd.prog 41 #[.slice c L.length cc, .func (.func 42) #[] #[.pointer (some ⟨g, 0, none⟩)]] w fun e w' => e = .returned (.bool (hasK L q)) ∧ Below w.heap.size w w' := by
  have H := hid0 (index_kind L c cc vs Q q g w hl ha hg)
  clear ha
  go_enter Tryd.func41, Tryd.ntmps41
  go_wp2_with (go_at_call 51; refine H.out.mono ?_; rintro e w1 ⟨⟨r, rfl, hr⟩, hb⟩)
  go_ret
  refine ⟨?_, hb⟩
  cases hq : hasK L q <;> simp [hq] at hr ⊢ <;> omega
set_option maxRecDepth 10000 in
set_option maxHeartbeats 800000 in
theorem hasPart_any (k : Int) (t : Bool) (a b c : Option Addr) (n ca m cb cc : Nat) (L : List Ex) (vs : Nat → EV) (Q : Nat → Prop) (q : Int) (w : World) (hl : L.length ≤ 1000000000) (ha : LA w Q c L vs) :
    Calls Tryd.prog 30 #[.agg #[.int .i64 k, .bool t, .slice a n ca, .slice b m cb, .slice c L.length cc], .int .i64 q] w fun e w' => e = .returned (.bool (hasK L q)) ∧ Below w.heap.size w w' := by
  obtain ⟨w0, hw0⟩ : ∃ w0, w0 = (w.alloc (.cells #[.int .i64 k, .bool t, .slice a n ca, .slice b m cb, .slice c L.length cc] 30)).alloc (.cells #[.int .i64 q] 3) := ⟨_, rfl⟩
  have hB0 : Below w.heap.size w w0 := by rw [hw0]; exact ((Below.refl _ _).alloc (Nat.le_refl _) _).alloc (by simp) _
  have hX0 : w0.heap[w.heap.size]? = some (.cells #[.int .i64 k, .bool t, .slice a n ca, .slice b m cb, .slice c L.length cc] 30 (0, 0)) := by
    rw [hw0]
    exact (Below.heap_alloc _ _ _ (by simp)).trans (heap_alloc_new w _)
  have hX1 : w0.heap[w.heap.size + 1]? = some (.cells #[.int .i64 q] 3 (0, 0)) := by
    rw [hw0]
    have h := heap_alloc_new (w.alloc (.cells #[.int .i64 k, .bool t, .slice a n ca, .slice b m cb, .slice c L.length cc] 30)) (.cells #[.int .i64 q] 3)
    rw [show (w.alloc (.cells #[.int .i64 k, .bool t, .slice a n ca, .slice b m cb, .slice c L.length cc] 30)).heap.size = w.heap.size + 1 by simp] at h
    exact h
  have x4 : w0.cell? ⟨w.heap.size, 4, none⟩ = some (.slice c L.length cc) := by rw [cell_of_row _ _ _ _ _ _ hX0]; rfl
  have y0 : w0.cell? ⟨w.heap.size + 1, 0, none⟩ = some (.int .i64 q) := by rw [cell_of_row _ _ _ _ _ _ hX1]; rfl
  have H := hid0 (contains_kind L c cc vs Q q (w.heap.size + 1) w0 hl (ha.keeps (Keeps.past hB0)) y0)
  have hmf : ∀ (fn : Fn) (first cap : Array Value) (w : World), (Instr.makeFunc fn first cap).run Tryd.prog w = .ok (.func fn first cap) w := fun _ _ _ _ => rfl
  have HB0 := hid0 hB0
  have hf := hw0.symm
  clear ha hw0 hX0 hX1 hB0
  go_enter Tryd.func30, Tryd.ntmps30
  go_wp2_with (go_at_call 41; refine H.out.mono ?_; rintro e w1 ⟨rfl, hb1⟩)
  go_ret
  exact ⟨rfl, Below.later HB0.out hb1⟩
end Go.Proofs.YthfnaalbgjeaeaaDoor
namespace Go.Proofs.YthfnaalbgjeaeaaDoor
open Go.RowKit Go.Shelf
theorem box1 (w : World) (x0 x1 x2 x3 x4 : Value) : ∃ w0, w0 = w.alloc (.cells #[x0, x1, x2, x3, x4] 30) ∧ Below w.heap.size w w0 ∧ w0.heap.size = w.heap.size + 1 ∧ ∀ W, Below w0.heap.size w0 W → W.cell? ⟨w.heap.size, 0, none⟩ = some x0 ∧ W.cell? ⟨w.heap.size, 1, none⟩ = some x1 ∧ W.cell? ⟨w.heap.size, 2, none⟩ = some x2 ∧ W.cell? ⟨w.heap.size, 3, none⟩ = some x3 ∧ W.cell? ⟨w.heap.size, 4, none⟩ = some x4 := by
  refine ⟨_, rfl, (Below.refl _ _).alloc (Nat.le_refl _) _, by simp, fun W hW => ?_⟩
  have h := (hW.block w.heap.size (by simp)).trans (heap_alloc_new w (.cells #[x0, x1, x2, x3, x4] 30))
  exact ⟨by rw [cell_of_row _ _ _ _ _ _ h]; rfl, by rw [cell_of_row _ _ _ _ _ _ h]; rfl, by rw [cell_of_row _ _ _ _ _ _ h]; rfl, by rw [cell_of_row _ _ _ _ _ _ h]; rfl, by rw [cell_of_row _ _ _ _ _ _ h]; rfl⟩
set_option maxRecDepth 10000 in
set_option maxHeartbeats 3200000 in
theorem isWhole_any (may : List ByteArray → List (Int × Int) → Bool) (k : Int) (nt : Bool) (N : List ByteArray) (P : List (Int × Int)) (n : Nat) (a b c : Option Addr) (ca cb cc : Nat) (w : World) (hP : P.length ≤ 1000000000) (hM : MayC may N P) (ha : SA w a N) (hb : RA w b P) :
    Calls Tryd.prog 23 #[.agg #[.int .i64 k, .bool nt, .slice a N.length ca, .slice b P.length cb, .slice c n cc]] w fun e w' => e = .returned (.bool (wholeF may k nt N P n)) ∧ Below w.heap.size w w' := by
  obtain ⟨w0, hw0, hb0, _, hx⟩ := box1 w (.int .i64 k) (.bool nt) (.slice a N.length ca) (.slice b P.length cb) (.slice c n cc)
  obtain ⟨x0, x1, x2, x3, x4⟩ := hx w0 (Below.refl _ _)
  have HZ := hid0 (isZero_any nt a b N.length P.length ca cb w0)
  have HM := hid0 (hM nt a b ca cb w0 hP (ha.below hb0) (hb.below hb0))
  have HB0 := hid0 hb0
  have hf := hw0.symm
  have HZF : Hid (zeroF nt N P = (!nt && N.length == 0 && P.length == 0)) := hid0 rfl
  unfold wholeF
  clear hw0 hb0 hx hM ha hb
  by_cases hk1 : k = 1
  · subst hk1
    by_cases hn : n = 0
    · subst hn
      have hwf : (if (1 : Int) = 1 then (0 == 0) && zeroF nt N P else if (1 : Int) = 2 then (0 == 0) && may N P else if (1 : Int) = 3 ∨ (1 : Int) = 4 then zeroF nt N P else if (1 : Int) = 5 ∨ (1 : Int) = 6 ∨ (1 : Int) = 7 then (0 == 1) && zeroF nt N P else false) = zeroF nt N P := by simp
      rw [hwf]
      clear hwf
      rw [HZF.out]
      go_enter Tryd.func23, Tryd.ntmps23
      go_wp2_with (go_at_call 28; refine HZ.out.mono ?_; rintro e w1 ⟨rfl, hb1⟩)
      go_ret
      exact ⟨rfl, Below.later HB0.out hb1⟩
    · have hnI : ¬ (n : Int) = 0 := by omega
      have hwf : (if (1 : Int) = 1 then n == 0 && zeroF nt N P else if (1 : Int) = 2 then n == 0 && may N P else if (1 : Int) = 3 ∨ (1 : Int) = 4 then zeroF nt N P else if (1 : Int) = 5 ∨ (1 : Int) = 6 ∨ (1 : Int) = 7 then n == 1 && zeroF nt N P else false) = false := by simp [hn]
      rw [hwf]
      clear hwf
      go_enter Tryd.func23, Tryd.ntmps23
      go_wp2
      go_ret
      exact ⟨rfl, HB0.out⟩
  by_cases hk2 : k = 2
  · subst hk2
    by_cases hn : n = 0
    · subst hn
      have hwf : (if (2 : Int) = 1 then (0 == 0) && zeroF nt N P else if (2 : Int) = 2 then (0 == 0) && may N P else if (2 : Int) = 3 ∨ (2 : Int) = 4 then zeroF nt N P else if (2 : Int) = 5 ∨ (2 : Int) = 6 ∨ (2 : Int) = 7 then (0 == 1) && zeroF nt N P else false) = may N P := by simp
      rw [hwf]
      clear hwf
      go_enter Tryd.func23, Tryd.ntmps23
      go_wp2_with (go_at_call 29; refine HM.out.mono ?_; rintro e w1 ⟨rfl, hb1⟩)
      go_ret
      exact ⟨rfl, Below.later HB0.out hb1⟩
    · have hnI : ¬ (n : Int) = 0 := by omega
      have hwf : (if (2 : Int) = 1 then n == 0 && zeroF nt N P else if (2 : Int) = 2 then n == 0 && may N P else if (2 : Int) = 3 ∨ (2 : Int) = 4 then zeroF nt N P else if (2 : Int) = 5 ∨ (2 : Int) = 6 ∨ (2 : Int) = 7 then n == 1 && zeroF nt N P else false) = false := by simp [hn]
      rw [hwf]
      clear hwf
      go_enter Tryd.func23, Tryd.ntmps23
      go_wp2
      go_ret
      exact ⟨rfl, HB0.out⟩
  by_cases hk3 : k = 3
  · subst hk3
    have hwf : (if (3 : Int) = 1 then n == 0 && zeroF nt N P else if (3 : Int) = 2 then n == 0 && may N P else if (3 : Int) = 3 ∨ (3 : Int) = 4 then zeroF nt N P else if (3 : Int) = 5 ∨ (3 : Int) = 6 ∨ (3 : Int) = 7 then n == 1 && zeroF nt N P else false) = zeroF nt N P := by simp
    rw [hwf]
    clear hwf
    rw [HZF.out]
    go_enter Tryd.func23, Tryd.ntmps23
    go_wp2_with (go_at_call 28; refine HZ.out.mono ?_; rintro e w1 ⟨rfl, hb1⟩)
    go_ret
    exact ⟨rfl, Below.later HB0.out hb1⟩
  by_cases hk4 : k = 4
  · subst hk4
    have hwf : (if (4 : Int) = 1 then n == 0 && zeroF nt N P else if (4 : Int) = 2 then n == 0 && may N P else if (4 : Int) = 3 ∨ (4 : Int) = 4 then zeroF nt N P else if (4 : Int) = 5 ∨ (4 : Int) = 6 ∨ (4 : Int) = 7 then n == 1 && zeroF nt N P else false) = zeroF nt N P := by simp
    rw [hwf]
    clear hwf
    rw [HZF.out]
    go_enter Tryd.func23, Tryd.ntmps23
    go_wp2_with (go_at_call 28; refine HZ.out.mono ?_; rintro e w1 ⟨rfl, hb1⟩)
    go_ret
    exact ⟨rfl, Below.later HB0.out hb1⟩
  by_cases hk5 : k = 5
  · subst hk5
    by_cases hn : n = 1
    · subst hn
      have hwf : (if (5 : Int) = 1 then (1 == 0) && zeroF nt N P else if (5 : Int) = 2 then (1 == 0) && may N P else if (5 : Int) = 3 ∨ (5 : Int) = 4 then zeroF nt N P else if (5 : Int) = 5 ∨ (5 : Int) = 6 ∨ (5 : Int) = 7 then (1 == 1) && zeroF nt N P else false) = zeroF nt N P := by simp
      rw [hwf]
      clear hwf
      rw [HZF.out]
      go_enter Tryd.func23, Tryd.ntmps23
      go_wp2_with (go_at_call 28; refine HZ.out.mono ?_; rintro e w1 ⟨rfl, hb1⟩)
      go_ret
      exact ⟨rfl, Below.later HB0.out hb1⟩
    · have hnI : ¬ (n : Int) = 1 := by omega
      have hwf : (if (5 : Int) = 1 then n == 0 && zeroF nt N P else if (5 : Int) = 2 then n == 0 && may N P else if (5 : Int) = 3 ∨ (5 : Int) = 4 then zeroF nt N P else if (5 : Int) = 5 ∨ (5 : Int) = 6 ∨ (5 : Int) = 7 then n == 1 && zeroF nt N P else false) = false := by simp [hn]
      rw [hwf]
      clear hwf
      go_enter Tryd.func23, Tryd.ntmps23
      go_wp2
      go_ret
      exact ⟨rfl, HB0.out⟩
  by_cases hk6 : k = 6
  · subst hk6
    by_cases hn : n = 1
    · subst hn
      have hwf : (if (6 : Int) = 1 then (1 == 0) && zeroF nt N P else if (6 : Int) = 2 then (1 == 0) && may N P else if (6 : Int) = 3 ∨ (6 : Int) = 4 then zeroF nt N P else if (6 : Int) = 5 ∨ (6 : Int) = 6 ∨ (6 : Int) = 7 then (1 == 1) && zeroF nt N P else false) = zeroF nt N P := by simp
      rw [hwf]
      clear hwf
      rw [HZF.out]
      go_enter Tryd.func23, Tryd.ntmps23
      go_wp2_with (go_at_call 28; refine HZ.out.mono ?_; rintro e w1 ⟨rfl, hb1⟩)
      go_ret
      exact ⟨rfl, Below.later HB0.out hb1⟩
    · have hnI : ¬ (n : Int) = 1 := by omega
      have hwf : (if (6 : Int) = 1 then n == 0 && zeroF nt N P else if (6 : Int) = 2 then n == 0 && may N P else if (6 : Int) = 3 ∨ (6 : Int) = 4 then zeroF nt N P else if (6 : Int) = 5 ∨ (6 : Int) = 6 ∨ (6 : Int) = 7 then n == 1 && zeroF nt N P else false) = false := by simp [hn]
      rw [hwf]
      clear hwf
      go_enter Tryd.func23, Tryd.ntmps23
      go_wp2
      go_ret
      exact ⟨rfl, HB0.out⟩
  by_cases hk7 : k = 7
  · subst hk7
    by_cases hn : n = 1
    · subst hn
      have hwf : (if (7 : Int) = 1 then (1 == 0) && zeroF nt N P else if (7 : Int) = 2 then (1 == 0) && may N P else if (7 : Int) = 3 ∨ (7 : Int) = 4 then zeroF nt N P else if (7 : Int) = 5 ∨ (7 : Int) = 6 ∨ (7 : Int) = 7 then (1 == 1) && zeroF nt N P else false) = zeroF nt N P := by simp
      rw [hwf]
      clear hwf
      rw [HZF.out]
      go_enter Tryd.func23, Tryd.ntmps23
      go_wp2_with (go_at_call 28; refine HZ.out.mono ?_; rintro e w1 ⟨rfl, hb1⟩)
      go_ret
      exact ⟨rfl, Below.later HB0.out hb1⟩
    · have hnI : ¬ (n : Int) = 1 := by omega
      have hwf : (if (7 : Int) = 1 then n == 0 && zeroF nt N P else if (7 : Int) = 2 then n == 0 && may N P else if (7 : Int) = 3 ∨ (7 : Int) = 4 then zeroF nt N P else if (7 : Int) = 5 ∨ (7 : Int) = 6 ∨ (7 : Int) = 7 then n == 1 && zeroF nt N P else false) = false := by simp [hn]
      rw [hwf]
      clear hwf
      go_enter Tryd.func23, Tryd.ntmps23
      go_wp2
      go_ret
      exact ⟨rfl, HB0.out⟩
  rw [if_neg hk1, if_neg hk2, if_neg (by rintro (h | h) <;> contradiction), if_neg (by rintro (h | h | h) <;> contradiction)]
  go_enter Tryd.func23, Tryd.ntmps23
  go_wp2
  go_ret
  exact ⟨rfl, HB0.out⟩
set_option maxRecDepth 10000 in
set_option maxHeartbeats 3200000 in
theorem isInForm_any (k : Int) (nt : Bool) (a b c : Option Addr) (n ca m cb cc : Nat) (L : List Ex) (vs : Nat → EV) (Q : Nat → Prop) (w : World) (hl : L.length ≤ 1000000000) (hL : LA w Q c L vs) :
    Calls Tryd.prog 24 #[.agg #[.int .i64 k, .bool nt, .slice a n ca, .slice b m cb, .slice c L.length cc]] w fun e w' => e = .returned (.bool (formF k L)) ∧ Below w.heap.size w w' := by
  obtain ⟨w0, hw0, hb0, _, hx⟩ := box1 w (.int .i64 k) (.bool nt) (.slice a n ca) (.slice b m cb) (.slice c L.length cc)
  have HX := hid0 hx
  obtain ⟨x0, x1, x2, x3, x4⟩ := hx w0 (Below.refl _ _)
  have HH : Hid (∀ q W, Below w0.heap.size w0 W → Calls Tryd.prog 30 #[.agg #[.int .i64 k, .bool nt, .slice a n ca, .slice b m cb, .slice c L.length cc], .int .i64 q] W fun e w' => e = .returned (.bool (hasK L q)) ∧ Below W.heap.size W w') := hid0 (fun q W hW => hasPart_any k nt a b c n ca m cb cc L vs Q q W hl ((hL.keeps (Keeps.past hb0)).keeps (Keeps.past hW)))
  have HB0 := hid0 hb0
  have HR := hid0 (Below.refl w0.heap.size w0)
  have hf := hw0.symm
  unfold formF
  clear hw0 hb0 hx hL
  by_cases hk3 : k = 3
  · subst hk3
    rw [if_pos rfl]
    by_cases hn : 2 ≤ L.length
    · have hnI : (2 : Int) ≤ (L.length : Int) := by omega
      rw [decide_eq_true hn]
      have H3 := hid0 (fun W hW => HH.out 3 W hW)
      have H1 := hid0 (fun W hW => HH.out 1 W hW)
      clear HH
      cases h3 : hasK L 3 with
      | true =>
        rw [h3] at H3
        clear h3
        go_enter Tryd.func24, Tryd.ntmps24
        go_wp2_with (go_at_call 30; refine (H3.out _ HR.out).mono ?_; rintro e w1 ⟨rfl, hb1⟩)
        go_ret
        exact ⟨rfl, Below.later HB0.out hb1⟩
      | false =>
        rw [h3] at H3
        clear h3
        generalize hasK L 1 = t1 at *
        have M1 : Hid True := trivial
        go_enter Tryd.func24, Tryd.ntmps24
        go_wp2_with (first
          | (clear M1; go_at_call 30; refine (H3.out _ HR.out).mono ?_; rintro e w1 ⟨rfl, hb1⟩; obtain ⟨y0, y1, y2, y3, y4⟩ := HX.out w1 hb1; have HB1 := hid0 hb1; have M2 : Hid True := trivial; clear hb1)
          | (clear M2; go_at_call 30; refine (H1.out _ HB1.out).mono ?_; rintro e w2 ⟨rfl, hb2⟩; have HB2 := hid0 (Below.later HB1.out hb2); clear hb2)
          | fail)
        go_ret
        exact ⟨by cases t1 <;> rfl, Below.later HB0.out HB2.out⟩
    · have hnI : ¬ (2 : Int) ≤ (L.length : Int) := by omega
      rw [decide_eq_false hn]
      clear HH
      go_enter Tryd.func24, Tryd.ntmps24
      go_wp2
      go_ret
      exact ⟨rfl, HB0.out⟩
  · by_cases hk4 : k = 4
    · subst hk4
      rw [if_neg (by decide), if_pos rfl]
      by_cases hn : 2 ≤ L.length
      · have hnI : (2 : Int) ≤ (L.length : Int) := by omega
        rw [decide_eq_true hn]
        have H4 := hid0 (HH.out 4 w0 HR.out)
        clear HH
        generalize hasK L 4 = t1 at *
        go_enter Tryd.func24, Tryd.ntmps24
        go_wp2_with (go_at_call 30; refine H4.out.mono ?_; rintro e w1 ⟨rfl, hb1⟩)
        go_ret
        exact ⟨by cases t1 <;> rfl, Below.later HB0.out hb1⟩
      · have hnI : ¬ (2 : Int) ≤ (L.length : Int) := by omega
        rw [decide_eq_false hn]
        clear HH
        go_enter Tryd.func24, Tryd.ntmps24
        go_wp2
        go_ret
        exact ⟨rfl, HB0.out⟩
    · rw [if_neg hk3, if_neg hk4]
      clear HH
      go_enter Tryd.func24, Tryd.ntmps24
      go_wp2
      go_ret
      exact ⟨rfl, HB0.out⟩
end Go.Proofs.YthfnaalbgjeaeaaDoor
namespace Go.Proofs.YthfnaalbgjeaeaaDoor
open Go.RowKit
section
variable {P : Program} {ops : Array Oper} {Q : Exit → Act → World → Prop} {md : Region.Mode} {S : World → Prop}
/-- An operation that yields a value is taken first. -/
theorem tkV {i : Nat} {oi : Oper} {d : Option Tmp} {v : Value} {fuel : Nat} {listed : Array Bool} {a : Act} {w : World} (hi : ops[i]? = some oi)
    (hs : Region.noSelect ops = true) (hf : Region.free md ops listed i = true) (hr : (Region.ready md ops listed).contains i = true) (hd : oi.dst = d)
    (hQ : ∀ c a w, Q (.panic c) (a.put d v) w → Q (.panic c) a w) (hw : Region.wanted oi (yielded ops a.tmps) = true) (hv : ∀ w, S w → (execOp a.eval oi).run P w = .ok (.value v) w) (hS : S w)
    (h : wpAnyH P md ops Q S fuel (listed.setIfInBounds i true) (a.put d v) w) : wpAnyH P md ops Q S (fuel + 1) listed a w := by
  subst hd
  exact wpAnyH_take hi hs hf hr hQ (.inl ⟨hw, hv⟩) hS h
/-- One that is not wanted. -/
theorem tkU {i : Nat} {oi : Oper} {d : Option Tmp} {fuel : Nat} {listed : Array Bool} {a : Act} {w : World} (hi : ops[i]? = some oi)
    (hs : Region.noSelect ops = true) (hf : Region.free md ops listed i = true) (hr : (Region.ready md ops listed).contains i = true) (hd : oi.dst = d)
    (hQ : ∀ c a w, Q (.panic c) (a.put d undef) w → Q (.panic c) a w) (hw : Region.wanted oi (yielded ops a.tmps) = false) (hS : S w)
    (h : wpAnyH P md ops Q S fuel (listed.setIfInBounds i true) (a.put d undef) w) : wpAnyH P md ops Q S (fuel + 1) listed a w := by
  subst hd
  exact wpAnyH_take hi hs hf hr hQ (.inr ⟨hw, rfl⟩) hS h
end
end Go.Proofs.YthfnaalbgjeaeaaDoor
namespace Go.Proofs.YthfnaalbgjeaeaaDoor
open Go.RowKit Go.Shelf
theorem lt_of_rowC {W : World} {k : Nat} {o : Obj} (h : W.heap[k]? = some o) : k < W.heap.size := (Array.getElem?_eq_some_iff.1 h).1
/-- The three refusals that Check knows. -/
structure E3 (w : World) (A : Nat → Addr) : Prop where
  c0 : w.cell? ⟨0, 0, none⟩ = some (.iface 115 (.pointer (some (A 0))))
  c1 : w.cell? ⟨1, 0, none⟩ = some (.iface 115 (.pointer (some (A 1))))
  c2 : w.cell? ⟨2, 0, none⟩ = some (.iface 115 (.pointer (some (A 2))))
def Far (B : Nat) : Prop := B ≠ 0 ∧ B ≠ 1 ∧ B ≠ 2
theorem E3.only {w w' : World} {A : Nat → Addr} {B : Nat} (h : E3 w A) (k : Only w w' (fun b => b = B)) (hB : Far B) : E3 w' A :=
  ⟨(k.cell (p := ⟨0, 0, none⟩) (World.block_lt_of_cell? w _ h.c0) (fun e => hB.1 e.symm)).trans h.c0, (k.cell (p := ⟨1, 0, none⟩) (World.block_lt_of_cell? w _ h.c1) (fun e => hB.2.1 e.symm)).trans h.c1, (k.cell (p := ⟨2, 0, none⟩) (World.block_lt_of_cell? w _ h.c2) (fun e => hB.2.2 e.symm)).trans h.c2⟩
theorem E3.below {w w' : World} {A : Nat → Addr} (h : E3 w A) (k : Below w.heap.size w w') : E3 w' A :=
  ⟨(k.cell (p := ⟨0, 0, none⟩) (World.block_lt_of_cell? w _ h.c0)).trans h.c0, (k.cell (p := ⟨1, 0, none⟩) (World.block_lt_of_cell? w _ h.c1)).trans h.c1, (k.cell (p := ⟨2, 0, none⟩) (World.block_lt_of_cell? w _ h.c2)).trans h.c2⟩
theorem Only.past {w w' : World} {S : Nat → Prop} (h : Below w.heap.size w w') : Only w w' S := ⟨h.os, h.tape, h.output, h.size, fun k hk _ => h.block k hk⟩
theorem Keeps.only {Q : Nat → Prop} {w w' : World} {B : Nat} (h : Only w w' (fun b => b = B)) (hB : ¬ Q B) : Keeps Q w w' := ⟨h.size, fun g o hg hl => h.cell (p := ⟨g, o, none⟩) hl (fun e => hB (e ▸ hg))⟩
theorem Keeps.trans {Q : Nat → Prop} {a b c : World} (h : Keeps Q a b) (k : Keeps Q b c) : Keeps Q a c := ⟨Nat.le_trans h.size k.size, fun g o hg hl => (k.cell g o hg (Nat.lt_of_lt_of_le hl h.size)).trans (h.cell g o hg hl)⟩
theorem Only.step {a b c : World} {B : Nat} (h : Only a b (fun k => k = B)) (k : Only b c (fun k => k = B)) : Only a c (fun k => k = B) := h.trans k (fun _ e => .inl e)
/-- A set's contract at every node. -/
inductive AllM (may : List ByteArray → List (Int × Int) → Bool) : Ex → Prop
  | mk (k : Int) (nt : Bool) (N : List ByteArray) (P : List (Int × Int)) (L : List Ex) : MayC may N P → (∀ e, e ∈ L → AllM may e) → AllM may (.mk k nt N P L)
/-- What going through leaves. -/
def GoR (A : Nat → Addr) (B : Nat) (r : Ending) (W' : World) : CR → Prop
  | .ok n s => r = .returned (.tuple #[]) ∧ W'.heap[B]? = some (.cells #[.int .i64 (n : Int), .int .i64 (s : Int)] 51 (0, 0))
  | .bad f => r = .panicked [{ v := faultV (.iface 115 (.pointer (some (A f)))), recovered := false }]
def GoP (may : List ByteArray → List (Int × Int) → Bool) (w : World) (Q : Nat → Prop) (e : Ex) (x : EV) : Prop := ∀ (W : World) (B : Nat) (A : Nat → Addr) (d n s : Nat), Keeps Q w W → ¬ Q B → Far B → E3 W A →
  W.heap[B]? = some (.cells #[.int .i64 (n : Int), .int .i64 (s : Int)] 51 (0, 0)) → n ≤ 4000 → s ≤ 65536 → d ≤ 129 →
  Calls Tryd.prog 18 #[.pointer (some ⟨B, 0, none⟩), x.v, .int .i64 (d : Int)] W fun r W' => GoR A B r W' (chkE may e d n s) ∧ Only W W' (fun k => k = B)
/-- The counts, told. -/
theorem go_counts (W : World) (B n s : Nat) (x0 x1 x2 x3 x4 v v' : Value) (hB : W.heap[B]? = some (.cells #[.int .i64 (n : Int), .int .i64 (s : Int)] 51 (0, 0))) :
    ∃ W2, W2 = ((((W.alloc (.cells #[x0, x1, x2, x3, x4] 30)).setCell ⟨B, 0, none⟩ v).setCell ⟨B, 1, none⟩ v').drew) ∧ W2.heap[B]? = some (.cells #[v, v'] 51 (0, 0)) ∧ Only W W2 (fun k => k = B) ∧ W2.heap[W.heap.size]? = some (.cells #[x0, x1, x2, x3, x4] 30 (0, 0)) ∧ W2.heap.size = W.heap.size + 1 := by
  have hl := lt_of_rowC hB
  have h0 : (W.alloc (.cells #[x0, x1, x2, x3, x4] 30)).heap[B]? = some (.cells #[.int .i64 (n : Int), .int .i64 (s : Int)] 51 (0, 0)) := (Below.heap_alloc W _ B hl).trans hB
  have h1 := heap_setCell_same _ B 0 _ _ v h0
  have h2 := heap_setCell_same _ B 1 _ _ v' h1
  refine ⟨_, rfl, h2, ⟨rfl, rfl, rfl, by simp [World.setCell], fun k hk hn => ?_⟩, ?_, by simp [World.setCell]⟩
  · exact (Below.heap_setCell _ _ v' k hn).trans ((Below.heap_setCell _ _ v k hn).trans (Below.heap_alloc W _ k hk))
  · exact (Below.heap_setCell _ _ v' W.heap.size (by simp; omega)).trans ((Below.heap_setCell _ _ v W.heap.size (by simp; omega)).trans (heap_alloc_new W _))
end Go.Proofs.YthfnaalbgjeaeaaDoor
namespace Go.Proofs.YthfnaalbgjeaeaaDoor
open Go.RowKit Go.Shelf
set_option maxRecDepth 10000 in
set_option maxHeartbeats 3200000 in
theorem go_many1 (k : Int) (nt : Bool) (a b c : Option Addr) (n1 ca n2 cb n3 cc d n s B : Nat) (A : Nat → Addr) (W : World) (l1 : n1 ≤ 1000000000) (l2 : n2 ≤ 1000000000) (hE : E3 W A) (hF : Far B) (hn : n ≤ 4000) (hs : s ≤ 65536) (_hd : d ≤ 129)
    (hB : W.heap[B]? = some (.cells #[.int .i64 (n : Int), .int .i64 (s : Int)] 51 (0, 0))) (hbad : ¬ n + 1 ≤ 4000) :
    Calls Tryd.prog 18 #[.pointer (some ⟨B, 0, none⟩), .agg #[.int .i64 k, .bool nt, .slice a n1 ca, .slice b n2 cb, .slice c n3 cc], .int .i64 (d : Int)] W fun r W' => GoR A B r W' (.bad 0) ∧ Only W W' (fun k => k = B) := by
  have h1I : ¬ (n : Int) + 1 ≤ 4000 := by omega
  obtain ⟨W2, hW2, hB2, hO2, hX2, hs2⟩ := go_counts W B n s (.int .i64 k) (.bool nt) (.slice a n1 ca) (.slice b n2 cb) (.slice c n3 cc) (.int .i64 ((n : Int) + 1)) (.int .i64 ((s : Int) + ((n1 : Int) + (n2 : Int)))) hB
  have hBl := lt_of_rowC hB
  have e1 : IntKind.i64.wrap ((n : Int) + 1) = (n : Int) + 1 := by simp [IntKind.wrap, IntKind.bits, IntKind.signed]; omega
  have e2 : IntKind.i64.wrap ((n1 : Int) + (n2 : Int)) = (n1 : Int) + (n2 : Int) := by simp [IntKind.wrap, IntKind.bits, IntKind.signed]; omega
  have e3 : IntKind.i64.wrap ((s : Int) + ((n1 : Int) + (n2 : Int))) = (s : Int) + ((n1 : Int) + (n2 : Int)) := by simp [IntKind.wrap, IntKind.bits, IntKind.signed]; omega
  obtain ⟨Wa, hWa⟩ : ∃ Wa, Wa = W.alloc (.cells #[.int .i64 k, .bool nt, .slice a n1 ca, .slice b n2 cb, .slice c n3 cc] 30) := ⟨_, rfl⟩
  have hBa : Wa.heap[B]? = some (.cells #[.int .i64 (n : Int), .int .i64 (s : Int)] 51 (0, 0)) := by rw [hWa]; exact (Below.heap_alloc W _ B hBl).trans hB
  have hXa : Wa.heap[W.heap.size]? = some (.cells #[.int .i64 k, .bool nt, .slice a n1 ca, .slice b n2 cb, .slice c n3 cc] 30 (0, 0)) := by rw [hWa]; exact heap_alloc_new W _
  obtain ⟨Wb, hWb⟩ : ∃ Wb, Wb = Wa.setCell ⟨B, 0, none⟩ (.int .i64 ((n : Int) + 1)) := ⟨_, rfl⟩
  have hBb : Wb.heap[B]? = some (.cells #[.int .i64 ((n : Int) + 1), .int .i64 (s : Int)] 51 (0, 0)) := by rw [hWb]; exact heap_setCell_same _ B 0 _ _ _ hBa
  have hXb : Wb.heap[W.heap.size]? = some (.cells #[.int .i64 k, .bool nt, .slice a n1 ca, .slice b n2 cb, .slice c n3 cc] 30 (0, 0)) := by rw [hWb]; exact (Below.heap_setCell _ _ _ W.heap.size (by simp; omega)).trans hXa
  have a0 : Wa.cell? ⟨B, 0, none⟩ = some (.int .i64 (n : Int)) := by rw [cell_of_row _ _ _ _ _ _ hBa]; rfl
  have a1 : Wa.frozen? ⟨B, 0, none⟩ = false := frozen_of_row _ _ _ _ _ hBa
  have b0 : Wb.cell? ⟨B, 1, none⟩ = some (.int .i64 (s : Int)) := by rw [cell_of_row _ _ _ _ _ _ hBb]; rfl
  have b1 : Wb.frozen? ⟨B, 1, none⟩ = false := frozen_of_row _ _ _ _ _ hBb
  have b2 : Wb.cell? ⟨W.heap.size, 2, none⟩ = some (.slice a n1 ca) := by rw [cell_of_row _ _ _ _ _ _ hXb]; rfl
  have b3 : Wb.cell? ⟨W.heap.size, 3, none⟩ = some (.slice b n2 cb) := by rw [cell_of_row _ _ _ _ _ _ hXb]; rfl
  have p0 : W2.cell? ⟨B, 0, none⟩ = some (.int .i64 ((n : Int) + 1)) := by rw [cell_of_row _ _ _ _ _ _ hB2]; rfl
  have p1 : W2.cell? ⟨B, 1, none⟩ = some (.int .i64 ((s : Int) + ((n1 : Int) + (n2 : Int)))) := by rw [cell_of_row _ _ _ _ _ _ hB2]; rfl
  have hE2 := hE.only hO2 hF
  have p2 := hE2.c0
  have HO2 := hid0 hO2
  have HB2 := hid0 hB2
  have HX2 := hid0 hX2
  have HS2 := hid0 hs2
  have HE2 := hid0 hE2
  have hfa := hWa.symm
  have hfb := hWb.symm
  have hf2 : (Wb.setCell ⟨B, 1, none⟩ (.int .i64 ((s : Int) + ((n1 : Int) + (n2 : Int))))).drew = W2 := by rw [hW2, hWb, hWa]
  clear hW2 hB2 hO2 hX2 hWa hBa hXa hWb hBb hXb hE2 hB hE hs2
  go_enter Tryd.func18, Tryd.ntmps18
  go_wp2
  go_region
  go_wp2
  refine wp_region_held_drew (S := (fun V => V.cell? ⟨B, 0, none⟩ = some (.int .i64 ((n : Int) + 1)) ∧ V.cell? ⟨B, 1, none⟩ = some (.int .i64 ((s : Int) + ((n1 : Int) + (n2 : Int)))) ∧ V.cell? ⟨0, 0, none⟩ = some (.iface 115 (.pointer (some (A 0)))))) (by kernel_rfl) ?_ (fun hHeld => ?_)
  · exact ⟨p0, p1, p2⟩
  refine tkV (i := 0) (d := some 31) (v := ?_) rfl (by kernel_rfl) (by kernel_rfl) (by kernel_rfl) rfl (fun _ _ _ h => h) (by rfl) ?_ (by assumption) ?_
  rotate_left
  · (intro w hSw; (try dsimp only at hSw); (try simp only [List.getElem_toArray, List.getElem_cons_zero]); go_simp; try with_reducible rfl)
  simp only [Act.put, List.setIfInBounds_toArray, List.set_cons_zero, List.set_cons_succ]
  refine tkV (i := 1) (d := some 32) (v := ?_) rfl (by kernel_rfl) (by kernel_rfl) (by kernel_rfl) rfl (fun _ _ _ h => h) (by rfl) ?_ (by assumption) ?_
  rotate_left
  · (intro w hSw; (try dsimp only at hSw); (try simp only [List.getElem_toArray, List.getElem_cons_zero, List.getElem_cons_succ]); go_simp; try with_reducible rfl)
  simp only [Act.put, List.setIfInBounds_toArray, List.set_cons_zero, List.set_cons_succ]
  refine tkV (i := 2) (d := some 33) (v := ?_) rfl (by kernel_rfl) (by kernel_rfl) (by kernel_rfl) rfl (fun _ _ _ h => h) (by rfl) ?_ (by assumption) ?_
  rotate_left
  · (intro w hSw; (try dsimp only at hSw); (try simp only [List.getElem_toArray, List.getElem_cons_zero, List.getElem_cons_succ]); go_simp; try with_reducible rfl)
  simp only [Act.put, List.setIfInBounds_toArray, List.set_cons_zero, List.set_cons_succ]
  refine tkV (i := 3) (d := some 34) (v := ?_) rfl (by kernel_rfl) (by kernel_rfl) (by kernel_rfl) rfl (fun _ _ _ h => h) (by rfl) ?_ (by assumption) ?_
  rotate_left
  · (intro w hSw; (try dsimp only at hSw); (try simp only [List.getElem_toArray, List.getElem_cons_zero, List.getElem_cons_succ]); go_simp; try with_reducible rfl)
  simp only [Act.put, List.setIfInBounds_toArray, List.set_cons_zero, List.set_cons_succ]
  refine tkV (i := 4) (d := some 35) (v := .bool false) rfl (by kernel_rfl) (by kernel_rfl) (by kernel_rfl) rfl (fun _ _ _ h => h) (by rfl) ?_ (by assumption) ?_
  · (intro w hSw; (try dsimp only at hSw); (try simp only [List.getElem_toArray, List.getElem_cons_zero, List.getElem_cons_succ]); go_simp; try omega)
  simp only [Act.put, List.setIfInBounds_toArray, List.set_cons_zero, List.set_cons_succ]
  refine tkV (i := 5) (d := some 36) (v := ?_) rfl (by kernel_rfl) (by kernel_rfl) (by kernel_rfl) rfl (fun _ _ _ h => h) (by rfl) ?_ (by assumption) ?_
  rotate_left
  · (intro w hSw; (try dsimp only at hSw); (try simp only [List.getElem_toArray, List.getElem_cons_zero, List.getElem_cons_succ]); go_simp; try with_reducible rfl)
  simp only [Act.put, List.setIfInBounds_toArray, List.set_cons_zero, List.set_cons_succ]
  refine tkU (i := 6) (d := some 37) rfl (by kernel_rfl) (by kernel_rfl) (by kernel_rfl) rfl (fun _ _ _ h => h) (by rfl) (by assumption) ?_
  simp only [Act.put, List.setIfInBounds_toArray, List.set_cons_zero, List.set_cons_succ]
  refine tkU (i := 7) (d := some 38) rfl (by kernel_rfl) (by kernel_rfl) (by kernel_rfl) rfl (fun _ _ _ h => h) (by rfl) (by assumption) ?_
  simp only [Act.put, List.setIfInBounds_toArray, List.set_cons_zero, List.set_cons_succ]
  refine tkV (i := 8) (d := some 39) (v := ?_) rfl (by kernel_rfl) (by kernel_rfl) (by kernel_rfl) rfl (fun _ _ _ h => h) (by rfl) ?_ (by assumption) ?_
  rotate_left
  · (intro w hSw; (try dsimp only at hSw); (try simp only [List.getElem_toArray, List.getElem_cons_zero, List.getElem_cons_succ]); go_simp; try with_reducible rfl)
  simp only [Act.put, List.setIfInBounds_toArray, List.set_cons_zero, List.set_cons_succ]
  refine tkV (i := 9) (d := some 40) (v := ?_) rfl (by kernel_rfl) (by kernel_rfl) (by kernel_rfl) rfl (fun _ _ _ h => h) (by rfl) ?_ (by assumption) ?_
  rotate_left
  · (intro w hSw; (try dsimp only at hSw); (try simp only [List.getElem_toArray, List.getElem_cons_zero, List.getElem_cons_succ]); go_simp; try with_reducible rfl)
  simp only [Act.put, List.setIfInBounds_toArray, List.set_cons_zero, List.set_cons_succ]
  refine tkU (i := 10) (d := some 41) rfl (by kernel_rfl) (by kernel_rfl) (by kernel_rfl) rfl (fun _ _ _ h => h) (by rfl) (by assumption) ?_
  simp only [Act.put, List.setIfInBounds_toArray, List.set_cons_zero, List.set_cons_succ]
  refine tkU (i := 11) (d := some 42) rfl (by kernel_rfl) (by kernel_rfl) (by kernel_rfl) rfl (fun _ _ _ h => h) (by rfl) (by assumption) ?_
  simp only [Act.put, List.setIfInBounds_toArray, List.set_cons_zero, List.set_cons_succ]
  refine tkU (i := 12) (d := some 43) rfl (by kernel_rfl) (by kernel_rfl) (by kernel_rfl) rfl (fun _ _ _ h => h) (by rfl) (by assumption) ?_
  simp only [Act.put, List.setIfInBounds_toArray, List.set_cons_zero, List.set_cons_succ]
  refine tkU (i := 13) (d := some 44) rfl (by kernel_rfl) (by kernel_rfl) (by kernel_rfl) rfl (fun _ _ _ h => h) (by rfl) (by assumption) ?_
  simp only [Act.put, List.setIfInBounds_toArray, List.set_cons_zero, List.set_cons_succ]
  refine tkU (i := 14) (d := some 45) rfl (by kernel_rfl) (by kernel_rfl) (by kernel_rfl) rfl (fun _ _ _ h => h) (by rfl) (by assumption) ?_
  simp only [Act.put, List.setIfInBounds_toArray, List.set_cons_zero, List.set_cons_succ]
  refine tkV (i := 15) (d := some 46) (v := ?_) rfl (by kernel_rfl) (by kernel_rfl) (by kernel_rfl) rfl (fun _ _ _ h => h) (by rfl) ?_ (by assumption) ?_
  rotate_left
  · (intro w hSw; (try dsimp only at hSw); (try simp only [List.getElem_toArray, List.getElem_cons_zero, List.getElem_cons_succ]); go_simp; try with_reducible rfl)
  simp only [Act.put, List.setIfInBounds_toArray, List.set_cons_zero, List.set_cons_succ]
  refine tkV (i := 16) (d := some 47) (v := ?_) rfl (by kernel_rfl) (by kernel_rfl) (by kernel_rfl) rfl (fun _ _ _ h => h) (by rfl) ?_ (by assumption) ?_
  rotate_left
  · (intro w hSw; (try dsimp only at hSw); (try simp only [List.getElem_toArray, List.getElem_cons_zero, List.getElem_cons_succ]); go_simp; try with_reducible rfl)
  simp only [Act.put, List.setIfInBounds_toArray, List.set_cons_zero, List.set_cons_succ]
  refine wpAnyH_ready (rs := [17]) (by kernel_rfl) (by simp) (AllReadyH.cons rfl (fun K hK => ?_) AllReadyH.nil)
  try simp only [List.getElem_toArray, List.getElem_cons_zero, List.getElem_cons_succ]
  go_simp
  go_split_ands
  refine (need_fb _ _ _ _ (by first | rfl | (exact decide_eq_false (by omega)))).mono ?_
  rintro e w7 ⟨rfl, hw7⟩
  subst hw7
  exact ⟨rfl, rfl, HO2.out.step (Only.drewN _ 1 _)⟩
end Go.Proofs.YthfnaalbgjeaeaaDoor
namespace Go.Proofs.YthfnaalbgjeaeaaDoor
open Go.RowKit Go.Shelf
set_option maxRecDepth 10000 in
set_option maxHeartbeats 3200000 in
theorem go_many2 (k : Int) (nt : Bool) (a b c : Option Addr) (n1 ca n2 cb n3 cc d n s B : Nat) (A : Nat → Addr) (W : World) (l1 : n1 ≤ 1000000000) (l2 : n2 ≤ 1000000000) (hE : E3 W A) (hF : Far B) (hn : n ≤ 4000) (hs : s ≤ 65536) (hd : d ≤ 129)
    (hB : W.heap[B]? = some (.cells #[.int .i64 (n : Int), .int .i64 (s : Int)] 51 (0, 0))) (h1 : n + 1 ≤ 4000) (hbad : ¬ d ≤ 128) :
    Calls Tryd.prog 18 #[.pointer (some ⟨B, 0, none⟩), .agg #[.int .i64 k, .bool nt, .slice a n1 ca, .slice b n2 cb, .slice c n3 cc], .int .i64 (d : Int)] W fun r W' => GoR A B r W' (.bad 0) ∧ Only W W' (fun k => k = B) := by
  have h1I : (n : Int) + 1 ≤ 4000 := by omega
  obtain ⟨W2, hW2, hB2, hO2, hX2, hs2⟩ := go_counts W B n s (.int .i64 k) (.bool nt) (.slice a n1 ca) (.slice b n2 cb) (.slice c n3 cc) (.int .i64 ((n : Int) + 1)) (.int .i64 ((s : Int) + ((n1 : Int) + (n2 : Int)))) hB
  have hBl := lt_of_rowC hB
  have e1 : IntKind.i64.wrap ((n : Int) + 1) = (n : Int) + 1 := by simp [IntKind.wrap, IntKind.bits, IntKind.signed]; omega
  have e2 : IntKind.i64.wrap ((n1 : Int) + (n2 : Int)) = (n1 : Int) + (n2 : Int) := by simp [IntKind.wrap, IntKind.bits, IntKind.signed]; omega
  have e3 : IntKind.i64.wrap ((s : Int) + ((n1 : Int) + (n2 : Int))) = (s : Int) + ((n1 : Int) + (n2 : Int)) := by simp [IntKind.wrap, IntKind.bits, IntKind.signed]; omega
  obtain ⟨Wa, hWa⟩ : ∃ Wa, Wa = W.alloc (.cells #[.int .i64 k, .bool nt, .slice a n1 ca, .slice b n2 cb, .slice c n3 cc] 30) := ⟨_, rfl⟩
  have hBa : Wa.heap[B]? = some (.cells #[.int .i64 (n : Int), .int .i64 (s : Int)] 51 (0, 0)) := by rw [hWa]; exact (Below.heap_alloc W _ B hBl).trans hB
  have hXa : Wa.heap[W.heap.size]? = some (.cells #[.int .i64 k, .bool nt, .slice a n1 ca, .slice b n2 cb, .slice c n3 cc] 30 (0, 0)) := by rw [hWa]; exact heap_alloc_new W _
  obtain ⟨Wb, hWb⟩ : ∃ Wb, Wb = Wa.setCell ⟨B, 0, none⟩ (.int .i64 ((n : Int) + 1)) := ⟨_, rfl⟩
  have hBb : Wb.heap[B]? = some (.cells #[.int .i64 ((n : Int) + 1), .int .i64 (s : Int)] 51 (0, 0)) := by rw [hWb]; exact heap_setCell_same _ B 0 _ _ _ hBa
  have hXb : Wb.heap[W.heap.size]? = some (.cells #[.int .i64 k, .bool nt, .slice a n1 ca, .slice b n2 cb, .slice c n3 cc] 30 (0, 0)) := by rw [hWb]; exact (Below.heap_setCell _ _ _ W.heap.size (by simp; omega)).trans hXa
  have a0 : Wa.cell? ⟨B, 0, none⟩ = some (.int .i64 (n : Int)) := by rw [cell_of_row _ _ _ _ _ _ hBa]; rfl
  have a1 : Wa.frozen? ⟨B, 0, none⟩ = false := frozen_of_row _ _ _ _ _ hBa
  have b0 : Wb.cell? ⟨B, 1, none⟩ = some (.int .i64 (s : Int)) := by rw [cell_of_row _ _ _ _ _ _ hBb]; rfl
  have b1 : Wb.frozen? ⟨B, 1, none⟩ = false := frozen_of_row _ _ _ _ _ hBb
  have b2 : Wb.cell? ⟨W.heap.size, 2, none⟩ = some (.slice a n1 ca) := by rw [cell_of_row _ _ _ _ _ _ hXb]; rfl
  have b3 : Wb.cell? ⟨W.heap.size, 3, none⟩ = some (.slice b n2 cb) := by rw [cell_of_row _ _ _ _ _ _ hXb]; rfl
  have p0 : W2.cell? ⟨B, 0, none⟩ = some (.int .i64 ((n : Int) + 1)) := by rw [cell_of_row _ _ _ _ _ _ hB2]; rfl
  have p1 : W2.cell? ⟨B, 1, none⟩ = some (.int .i64 ((s : Int) + ((n1 : Int) + (n2 : Int)))) := by rw [cell_of_row _ _ _ _ _ _ hB2]; rfl
  have hE2 := hE.only hO2 hF
  have p2 := hE2.c0
  have HO2 := hid0 hO2
  have HB2 := hid0 hB2
  have HX2 := hid0 hX2
  have HS2 := hid0 hs2
  have HE2 := hid0 hE2
  have hfa := hWa.symm
  have hfb := hWb.symm
  have hf2 : (Wb.setCell ⟨B, 1, none⟩ (.int .i64 ((s : Int) + ((n1 : Int) + (n2 : Int))))).drew = W2 := by rw [hW2, hWb, hWa]
  clear hW2 hB2 hO2 hX2 hWa hBa hXa hWb hBb hXb hE2 hB hE hs2
  go_enter Tryd.func18, Tryd.ntmps18
  go_wp2
  go_region
  go_wp2
  refine wp_region_held_drew (S := (fun V => V.cell? ⟨B, 0, none⟩ = some (.int .i64 ((n : Int) + 1)) ∧ V.cell? ⟨B, 1, none⟩ = some (.int .i64 ((s : Int) + ((n1 : Int) + (n2 : Int)))) ∧ V.cell? ⟨0, 0, none⟩ = some (.iface 115 (.pointer (some (A 0)))))) (by kernel_rfl) ?_ (fun hHeld => ?_)
  · exact ⟨p0, p1, p2⟩
  refine tkV (i := 0) (d := some 31) (v := ?_) rfl (by kernel_rfl) (by kernel_rfl) (by kernel_rfl) rfl (fun _ _ _ h => h) (by rfl) ?_ (by assumption) ?_
  rotate_left
  · (intro w hSw; (try dsimp only at hSw); (try simp only [List.getElem_toArray, List.getElem_cons_zero]); go_simp; try with_reducible rfl)
  simp only [Act.put, List.setIfInBounds_toArray, List.set_cons_zero, List.set_cons_succ]
  refine tkV (i := 1) (d := some 32) (v := ?_) rfl (by kernel_rfl) (by kernel_rfl) (by kernel_rfl) rfl (fun _ _ _ h => h) (by rfl) ?_ (by assumption) ?_
  rotate_left
  · (intro w hSw; (try dsimp only at hSw); (try simp only [List.getElem_toArray, List.getElem_cons_zero, List.getElem_cons_succ]); go_simp; try with_reducible rfl)
  simp only [Act.put, List.setIfInBounds_toArray, List.set_cons_zero, List.set_cons_succ]
  refine tkV (i := 2) (d := some 33) (v := ?_) rfl (by kernel_rfl) (by kernel_rfl) (by kernel_rfl) rfl (fun _ _ _ h => h) (by rfl) ?_ (by assumption) ?_
  rotate_left
  · (intro w hSw; (try dsimp only at hSw); (try simp only [List.getElem_toArray, List.getElem_cons_zero, List.getElem_cons_succ]); go_simp; try with_reducible rfl)
  simp only [Act.put, List.setIfInBounds_toArray, List.set_cons_zero, List.set_cons_succ]
  refine tkV (i := 3) (d := some 34) (v := ?_) rfl (by kernel_rfl) (by kernel_rfl) (by kernel_rfl) rfl (fun _ _ _ h => h) (by rfl) ?_ (by assumption) ?_
  rotate_left
  · (intro w hSw; (try dsimp only at hSw); (try simp only [List.getElem_toArray, List.getElem_cons_zero, List.getElem_cons_succ]); go_simp; try with_reducible rfl)
  simp only [Act.put, List.setIfInBounds_toArray, List.set_cons_zero, List.set_cons_succ]
  refine tkV (i := 4) (d := some 35) (v := ?_) rfl (by kernel_rfl) (by kernel_rfl) (by kernel_rfl) rfl (fun _ _ _ h => h) (by rfl) ?_ (by assumption) ?_
  rotate_left
  · (intro w hSw; (try dsimp only at hSw); (try simp only [List.getElem_toArray, List.getElem_cons_zero, List.getElem_cons_succ]); go_simp; try with_reducible rfl)
  simp only [Act.put, List.setIfInBounds_toArray, List.set_cons_zero, List.set_cons_succ]
  refine tkV (i := 5) (d := some 36) (v := ?_) rfl (by kernel_rfl) (by kernel_rfl) (by kernel_rfl) rfl (fun _ _ _ h => h) (by rfl) ?_ (by assumption) ?_
  rotate_left
  · (intro w hSw; (try dsimp only at hSw); (try simp only [List.getElem_toArray, List.getElem_cons_zero, List.getElem_cons_succ]); go_simp; try with_reducible rfl)
  simp only [Act.put, List.setIfInBounds_toArray, List.set_cons_zero, List.set_cons_succ]
  refine tkV (i := 6) (d := some 37) (v := ?_) rfl (by kernel_rfl) (by kernel_rfl) (by kernel_rfl) rfl (fun _ _ _ h => h) (by rfl) ?_ (by assumption) ?_
  rotate_left
  · (intro w hSw; (try dsimp only at hSw); (try simp only [List.getElem_toArray, List.getElem_cons_zero, List.getElem_cons_succ]); go_simp; try with_reducible rfl)
  simp only [Act.put, List.setIfInBounds_toArray, List.set_cons_zero, List.set_cons_succ]
  refine tkV (i := 7) (d := some 38) (v := .bool false) rfl (by kernel_rfl) (by kernel_rfl) (by kernel_rfl) rfl (fun _ _ _ h => h) (by rfl) ?_ (by assumption) ?_
  · (intro w hSw; (try dsimp only at hSw); (try simp only [List.getElem_toArray, List.getElem_cons_zero, List.getElem_cons_succ]); go_simp; try omega)
  simp only [Act.put, List.setIfInBounds_toArray, List.set_cons_zero, List.set_cons_succ]
  refine tkV (i := 8) (d := some 39) (v := ?_) rfl (by kernel_rfl) (by kernel_rfl) (by kernel_rfl) rfl (fun _ _ _ h => h) (by rfl) ?_ (by assumption) ?_
  rotate_left
  · (intro w hSw; (try dsimp only at hSw); (try simp only [List.getElem_toArray, List.getElem_cons_zero, List.getElem_cons_succ]); go_simp; try with_reducible rfl)
  simp only [Act.put, List.setIfInBounds_toArray, List.set_cons_zero, List.set_cons_succ]
  refine tkV (i := 9) (d := some 40) (v := ?_) rfl (by kernel_rfl) (by kernel_rfl) (by kernel_rfl) rfl (fun _ _ _ h => h) (by rfl) ?_ (by assumption) ?_
  rotate_left
  · (intro w hSw; (try dsimp only at hSw); (try simp only [List.getElem_toArray, List.getElem_cons_zero, List.getElem_cons_succ]); go_simp; try with_reducible rfl)
  simp only [Act.put, List.setIfInBounds_toArray, List.set_cons_zero, List.set_cons_succ]
  refine tkU (i := 10) (d := some 41) rfl (by kernel_rfl) (by kernel_rfl) (by kernel_rfl) rfl (fun _ _ _ h => h) (by rfl) (by assumption) ?_
  simp only [Act.put, List.setIfInBounds_toArray, List.set_cons_zero, List.set_cons_succ]
  refine tkU (i := 11) (d := some 42) rfl (by kernel_rfl) (by kernel_rfl) (by kernel_rfl) rfl (fun _ _ _ h => h) (by rfl) (by assumption) ?_
  simp only [Act.put, List.setIfInBounds_toArray, List.set_cons_zero, List.set_cons_succ]
  refine tkU (i := 12) (d := some 43) rfl (by kernel_rfl) (by kernel_rfl) (by kernel_rfl) rfl (fun _ _ _ h => h) (by rfl) (by assumption) ?_
  simp only [Act.put, List.setIfInBounds_toArray, List.set_cons_zero, List.set_cons_succ]
  refine tkU (i := 13) (d := some 44) rfl (by kernel_rfl) (by kernel_rfl) (by kernel_rfl) rfl (fun _ _ _ h => h) (by rfl) (by assumption) ?_
  simp only [Act.put, List.setIfInBounds_toArray, List.set_cons_zero, List.set_cons_succ]
  refine tkU (i := 14) (d := some 45) rfl (by kernel_rfl) (by kernel_rfl) (by kernel_rfl) rfl (fun _ _ _ h => h) (by rfl) (by assumption) ?_
  simp only [Act.put, List.setIfInBounds_toArray, List.set_cons_zero, List.set_cons_succ]
  refine tkV (i := 15) (d := some 46) (v := ?_) rfl (by kernel_rfl) (by kernel_rfl) (by kernel_rfl) rfl (fun _ _ _ h => h) (by rfl) ?_ (by assumption) ?_
  rotate_left
  · (intro w hSw; (try dsimp only at hSw); (try simp only [List.getElem_toArray, List.getElem_cons_zero, List.getElem_cons_succ]); go_simp; try with_reducible rfl)
  simp only [Act.put, List.setIfInBounds_toArray, List.set_cons_zero, List.set_cons_succ]
  refine tkV (i := 16) (d := some 47) (v := ?_) rfl (by kernel_rfl) (by kernel_rfl) (by kernel_rfl) rfl (fun _ _ _ h => h) (by rfl) ?_ (by assumption) ?_
  rotate_left
  · (intro w hSw; (try dsimp only at hSw); (try simp only [List.getElem_toArray, List.getElem_cons_zero, List.getElem_cons_succ]); go_simp; try with_reducible rfl)
  simp only [Act.put, List.setIfInBounds_toArray, List.set_cons_zero, List.set_cons_succ]
  refine wpAnyH_ready (rs := [17]) (by kernel_rfl) (by simp) (AllReadyH.cons rfl (fun K hK => ?_) AllReadyH.nil)
  try simp only [List.getElem_toArray, List.getElem_cons_zero, List.getElem_cons_succ]
  go_simp
  go_split_ands
  refine (need_fb _ _ _ _ (by first | rfl | (exact decide_eq_false (by omega)))).mono ?_
  rintro e w7 ⟨rfl, hw7⟩
  subst hw7
  exact ⟨rfl, rfl, HO2.out.step (Only.drewN _ 1 _)⟩
end Go.Proofs.YthfnaalbgjeaeaaDoor
