/-
  RgM, RgW, EhBW, ExM, ExW, Eh1W, ExGM, ExVM, ExHM, ExTk, ExIW.
-/
import Derived.WalkKit
import Derived.Test.YtiapefdklojhdaaDoorProg
import Derived.WalkSpells
import Derived.WalkLawsBesides
import Derived.Handy
import Derived.Maps.AppendAt
import Derived.Deep.QuietTactic
import Derived.BigQuiet
import Derived.Shelf.Abstract
import Derived.Lib.SlicesS
import Derived.Lib.AppendZeros
import Derived.Deep.DeepAppendRoom
import Derived.Deep.RegionHeld3
import Derived.Deep.RegionHeldLaw
import Derived.Laws.EntriesVeiled
namespace Go.Proofs.YtiapefdklojhdaaDoor
def hasR (r : Int × Int) (p : Int) : Bool := decide (r.1 ≤ p) && decide (p ≤ r.2)
def pts (l : List (Int × Int)) (p : Int) : Bool := l.any (fun r => hasR r p)
def mayR (r : Int × Int) : Bool := decide (0 ≤ r.1) && (decide (r.2 ≤ 1114111) && decide (r.1 ≤ r.2))
def mayL (l : List (Int × Int)) : Bool := l.all mayR
/-- Rising and parted, from a number on. -/
def NormF : Int → List (Int × Int) → Prop
  | _, [] => True
  | lo, r :: l => lo ≤ r.1 ∧ r.1 ≤ r.2 ∧ r.2 ≤ 1114111 ∧ NormF (r.2 + 2) l
theorem pts_nil (p : Int) : pts [] p = false := rfl
theorem pts_cons (r : Int × Int) (l : List (Int × Int)) (p : Int) : pts (r :: l) p = (hasR r p || pts l p) := by simp [pts]
theorem pts_append (l m : List (Int × Int)) (p : Int) : pts (l ++ m) p = (pts l p || pts m p) := by simp [pts]
theorem hasR_iff (r : Int × Int) (p : Int) : hasR r p = true ↔ r.1 ≤ p ∧ p ≤ r.2 := by simp [hasR]
theorem mayR_iff (r : Int × Int) : mayR r = true ↔ 0 ≤ r.1 ∧ r.2 ≤ 1114111 ∧ r.1 ≤ r.2 := by simp [mayR]
theorem NormF.mono {a b : Int} (h : a ≤ b) : ∀ {l : List (Int × Int)}, NormF b l → NormF a l
  | [], _ => trivial
  | _ :: _, ⟨h1, h2⟩ => ⟨Int.le_trans h h1, h2⟩
theorem NormF.ge : ∀ {a : Int} {l : List (Int × Int)} {p : Int}, NormF a l → pts l p = true → a ≤ p ∧ p ≤ 1114111
  | _, [], _, _, hp => by simp [pts] at hp
  | a, r :: l, p, ⟨h1, h2, h3, h4⟩, hp => by
    rw [pts_cons, Bool.or_eq_true, hasR_iff] at hp
    rcases hp with hp | hp
    · omega
    · have := NormF.ge h4 hp; omega
theorem norm_head {a : Int} {r : Int × Int} {l : List (Int × Int)} (h : NormF a (r :: l)) : pts (r :: l) r.1 = true := by
  rw [pts_cons, (hasR_iff r r.1).2 ⟨Int.le_refl _, h.2.1⟩, Bool.true_or]
theorem norm_le {a b : Int} {r s : Int × Int} {l m : List (Int × Int)} (hl : NormF a (r :: l)) (hm : NormF b (s :: m)) (h : ∀ p, pts (r :: l) p = pts (s :: m) p) : s.1 ≤ r.1 := by
  have := norm_head hl
  rw [h] at this
  exact (NormF.ge (a := s.1) (show NormF s.1 (s :: m) from ⟨Int.le_refl _, hm.2⟩) this).1
theorem norm_le2 {a : Int} {r s : Int × Int} {l m : List (Int × Int)} (hl : NormF a (r :: l)) (h1 : r.1 = s.1) (h : ∀ p, pts (r :: l) p = pts (s :: m) p) : s.2 ≤ r.2 := by
  refine Int.not_lt.1 fun hlt => ?_
  have h2 : pts (s :: m) (r.2 + 1) = true := by
    have := hl.2.1
    rw [pts_cons, (hasR_iff s _).2 ⟨by omega, by omega⟩, Bool.true_or]
  rw [← h, pts_cons, Bool.or_eq_true, hasR_iff] at h2
  rcases h2 with h2 | h2
  · omega
  · have := NormF.ge hl.2.2.2 h2; omega
theorem norm_tail {a : Int} {r : Int × Int} {l m : List (Int × Int)} (hl : NormF a (r :: l)) (h : ∀ p, pts (r :: l) p = pts (r :: m) p) (p : Int) (hp : pts l p = true) : pts m p = true := by
  have h1 := NormF.ge hl.2.2.2 hp
  have h2 : pts (r :: l) p = true := by rw [pts_cons, hp, Bool.or_true]
  rw [h, pts_cons, Bool.or_eq_true, hasR_iff] at h2
  rcases h2 with h2 | h2
  · omega
  · exact h2
/-- There is one normal list of a set. -/
theorem norm_uniq : ∀ {l m : List (Int × Int)} {a b : Int}, NormF a l → NormF b m → (∀ p, pts l p = pts m p) → l = m
  | [], [], _, _, _, _, _ => rfl
  | [], s :: m, _, _, _, hm, h => by have := norm_head hm; rw [← h] at this; simp [pts] at this
  | r :: l, [], _, _, hl, _, h => by have := norm_head hl; rw [h] at this; simp [pts] at this
  | r :: l, s :: m, a, b, hl, hm, h => by
    have e1 : r.1 = s.1 := Int.le_antisymm (norm_le hm hl (fun p => (h p).symm)) (norm_le hl hm h)
    have e2 : r.2 = s.2 := Int.le_antisymm (norm_le2 hm e1.symm (fun p => (h p).symm)) (norm_le2 hl e1 h)
    obtain rfl : r = s := Prod.ext e1 e2
    rw [norm_uniq hl.2.2.2 hm.2.2.2 (fun p => by
      cases e : pts l p with
      | true => exact (norm_tail hl h p e).symm
      | false =>
        cases e' : pts m p with
        | true => have := norm_tail hm (fun p => (h p).symm) p e'; rw [e] at this; cases this
        | false => rfl)]
theorem norm_snoc : ∀ {l : List (Int × Int)} {a lo hi : Int}, NormF a l → a ≤ lo → (∀ r ∈ l, r.2 + 2 ≤ lo) → lo ≤ hi → hi ≤ 1114111 → NormF a (l ++ [(lo, hi)])
  | [], _, _, _, _, h1, _, h2, h3 => ⟨h1, h2, h3, trivial⟩
  | r :: l, a, lo, hi, ⟨g1, g2, g3, g4⟩, _, h2, h3, h4 => ⟨g1, g2, g3, norm_snoc g4 (h2 r (by simp)) (fun s hs => h2 s (by simp [hs])) h3 h4⟩
theorem norm_may : ∀ {l : List (Int × Int)} {a : Int}, 0 ≤ a → NormF a l → mayL l = true
  | [], _, _, _ => rfl
  | r :: l, a, ha, ⟨g1, g2, g3, g4⟩ => by
    have := norm_may (a := r.2 + 2) (by omega) g4
    unfold mayL at *
    rw [List.all_cons, this, Bool.and_true, mayR_iff]
    omega
theorem norm_mem : ∀ {l : List (Int × Int)} {a : Int}, NormF a l → ∀ r ∈ l, a ≤ r.1 ∧ r.1 ≤ r.2 ∧ r.2 ≤ 1114111
  | r :: l, a, ⟨g1, g2, g3, g4⟩, s, hs => by
    rcases List.mem_cons.1 hs with rfl | hs
    · exact ⟨g1, g2, g3⟩
    · have := norm_mem g4 s hs; omega
/-- How a walk over the edges stands behind the edges at c. -/
structure WInv (W : Int → Bool) (c : Int) (found : List (Int × Int)) (low : Int) (ins : Bool) : Prop where
  lo : -1 ≤ c
  hi : c ≤ 1114112
  norm : NormF 0 found
  isIn : ins = W c
  inT : ins = true → 0 ≤ low ∧ low ≤ c ∧ (∀ r ∈ found, r.2 + 2 ≤ low) ∧ ∀ p, p ≤ c → W p = (pts found p || decide (low ≤ p))
  inF : ins = false → (∀ r ∈ found, r.2 + 1 ≤ c) ∧ ∀ p, p ≤ c → W p = pts found p
theorem WInv.start {W : Int → Bool} (h : ∀ p, p ≤ -1 → W p = false) (low : Int) : WInv W (-1) [] low false :=
  ⟨Int.le_refl _, by omega, trivial, (h _ (Int.le_refl _)).symm, fun h => (by cases h), fun _ => ⟨fun r hr => (by cases hr), fun p hp => h p hp⟩⟩
def foundNext (found : List (Int × Int)) (low : Int) (ins now : Bool) (c' : Int) : List (Int × Int) := if ins && !now then found ++ [(low, c' - 1)] else found
def lowNext (low : Int) (ins now : Bool) (c' : Int) : Int := if now && !ins then c' else low
theorem WInv.step {W : Int → Bool} {c c' low : Int} {found : List (Int × Int)} {ins : Bool} (h : WInv W c found low ins) (hc : c < c') (hc' : c' ≤ 1114112) (hbet : ∀ p, c ≤ p → p < c' → W p = W c) :
    WInv W c' (foundNext found low ins (W c') c') (lowNext low ins (W c') c') (W c') := by
  have hlo := h.lo
  cases ins with
  | false =>
    obtain ⟨hF1, hF2⟩ := h.inF rfl
    have hWc := h.isIn
    have hbelow : ∀ p, p < c' → W p = pts found p := fun p hp => by
      by_cases hpc : p ≤ c
      · exact hF2 p hpc
      · rw [hbet p (by omega) hp, ← hWc]
        cases e : pts found p with
        | false => rfl
        | true =>
          exfalso
          have : ∃ r ∈ found, hasR r p = true := by simpa [pts] using e
          obtain ⟨r, hr, hh⟩ := this
          have := hF1 r hr
          have := (hasR_iff r p).1 hh
          omega
    have hnot : pts found c' = false := by
      cases e : pts found c' with
      | false => rfl
      | true =>
        exfalso
        have : ∃ r ∈ found, hasR r c' = true := by simpa [pts] using e
        obtain ⟨r, hr, hh⟩ := this
        have := hF1 r hr
        have := (hasR_iff r c').1 hh
        omega
    cases hn : W c' with
    | true =>
      refine ⟨by omega, hc', ?_, hn.symm, fun _ => ?_, fun h => by cases h⟩
      · simpa [foundNext] using h.norm
      · refine ⟨by simp [lowNext]; omega, by simp [lowNext], fun r hr => ?_, fun p hp => ?_⟩
        · simp [foundNext] at hr; have := hF1 r hr; simp [lowNext]; omega
        · simp only [foundNext, lowNext, Bool.false_and, Bool.not_false, Bool.and_true, if_true, Bool.false_eq_true, if_false]
          by_cases hpc : p < c'
          · rw [hbelow p hpc, show decide (c' ≤ p) = false by simp; omega, Bool.or_false]
          · obtain rfl : p = c' := by omega
            rw [hn]; simp
    | false =>
      refine ⟨by omega, hc', ?_, hn.symm, fun h => (by cases h), fun _ => ⟨fun r hr => ?_, fun p hp => ?_⟩⟩
      · simpa [foundNext] using h.norm
      · simp [foundNext] at hr; have := hF1 r hr; omega
      · simp only [foundNext, Bool.false_and, Bool.false_eq_true, if_false]
        by_cases hpc : p < c'
        · exact hbelow p hpc
        · obtain rfl : p = c' := by omega
          rw [hn, hnot]
  | true =>
    obtain ⟨h0, h1, h2, h3⟩ := h.inT rfl
    have hWc := h.isIn
    have hbelow : ∀ p, p < c' → W p = (pts found p || decide (low ≤ p)) := fun p hp => by
      by_cases hpc : p ≤ c
      · exact h3 p hpc
      · rw [hbet p (by omega) hp, ← hWc, show decide (low ≤ p) = true by simp; omega, Bool.or_true]
    cases hn : W c' with
    | true =>
      refine ⟨by omega, hc', ?_, hn.symm, fun _ => ?_, fun h => by cases h⟩
      · simpa [foundNext] using h.norm
      · refine ⟨by simpa [lowNext] using h0, by simp [lowNext]; omega, fun r hr => ?_, fun p hp => ?_⟩
        · simp [foundNext] at hr; have := h2 r hr; simpa [lowNext] using this
        · simp only [foundNext, lowNext, Bool.not_true, Bool.and_false, Bool.false_eq_true, if_false]
          by_cases hpc : p < c'
          · exact hbelow p hpc
          · obtain rfl : p = c' := by omega
            rw [hn, show decide (low ≤ p) = true by simp; omega, Bool.or_true]
    | false =>
      refine ⟨by omega, hc', ?_, hn.symm, fun h => (by cases h), fun _ => ⟨fun r hr => ?_, fun p hp => ?_⟩⟩
      · simp only [foundNext, Bool.not_false, Bool.and_self, if_true]
        exact norm_snoc h.norm h0 h2 (by omega) (by omega)
      · simp [foundNext] at hr
        rcases hr with hr | rfl
        · have := h2 r hr; omega
        · simp
      · simp only [foundNext, Bool.not_false, Bool.and_self, if_true]
        rw [pts_append, pts_cons, pts_nil, Bool.or_false]
        by_cases hpc : p < c'
        · rw [hbelow p hpc]
          congr 1
          rw [hasR, show decide (p ≤ (low, c' - 1).2) = true by simp; omega, Bool.and_true]
        · obtain rfl : p = c' := by omega
          have e1 : hasR (low, p - 1) p = false := by
            cases e : hasR (low, p - 1) p with
            | false => rfl
            | true => have := (hasR_iff _ _).1 e; simp at this; omega
          have e2 : pts found p = false := by
            cases e : pts found p with
            | false => rfl
            | true =>
              exfalso
              have : ∃ r ∈ found, hasR r p = true := by simpa [pts] using e
              obtain ⟨r, hr, hh⟩ := this
              have := h2 r hr
              have := (hasR_iff r p).1 hh
              omega
          rw [hn, e1, e2, Bool.or_false]
theorem WInv.done {W : Int → Bool} {c low : Int} {found : List (Int × Int)} {ins : Bool} (h : WInv W c found low ins) (hend : ∀ p, c ≤ p → W p = false) : NormF 0 found ∧ ∀ p, pts found p = W p := by
  obtain rfl : ins = false := by rw [h.isIn]; exact hend c (Int.le_refl _)
  obtain ⟨h1, h2⟩ := h.inF rfl
  refine ⟨h.norm, fun p => ?_⟩
  by_cases hp : p ≤ c
  · exact (h2 p hp).symm
  · rw [hend p (by omega)]
    cases e : pts found p with
    | false => rfl
    | true =>
      exfalso
      have : ∃ r ∈ found, hasR r p = true := by simpa [pts] using e
      obtain ⟨r, hr, hh⟩ := this
      have := h1 r hr
      have := (hasR_iff r p).1 hh
      omega
/-- The edges of a list. -/
def edgesOf (l : List (Int × Int)) : List (Int × Int) := l.flatMap fun r => [(r.1, 1), (r.2 + 1, -1)]
def sumTo (E : List (Int × Int)) (c : Int) : Int := (E.map fun e => if e.1 ≤ c then e.2 else 0).sum
def sumAll (E : List (Int × Int)) : Int := (E.map (·.2)).sum
def opn (l : List (Int × Int)) (c : Int) : Int := ((l.countP fun r => hasR r c : Nat) : Int)
theorem perm_sum : ∀ {l m : List Int}, l.Perm m → l.sum = m.sum := by
  intro l m h
  induction h with
  | nil => rfl
  | cons x _ ih => simp [ih]
  | swap x y l => simp; omega
  | trans _ _ h1 h2 => exact h1.trans h2
theorem sumTo_perm {E E' : List (Int × Int)} (h : E.Perm E') (c : Int) : sumTo E c = sumTo E' c := perm_sum (h.map _)
theorem edges_length (l : List (Int × Int)) : (edgesOf l).length = 2 * l.length := by
  induction l with
  | nil => rfl
  | cons r l ih => simp only [edgesOf, List.flatMap_cons, List.length_append, List.length_cons, List.length_nil] at *; omega
theorem edges_sum {l : List (Int × Int)} (h : mayL l = true) (c : Int) : sumTo (edgesOf l) c = opn l c := by
  induction l with
  | nil => rfl
  | cons r l ih =>
    unfold mayL at h
    rw [List.all_cons, Bool.and_eq_true, mayR_iff] at h
    have ih' := ih h.2
    unfold sumTo opn edgesOf at *
    rw [List.flatMap_cons, List.map_append, List.sum_append, ih', List.countP_cons]
    simp only [List.map_cons, List.map_nil, List.sum_cons, List.sum_nil]
    by_cases h1 : r.1 ≤ c
    · by_cases h2 : c ≤ r.2
      · rw [if_pos h1, if_neg (by omega), if_pos ((hasR_iff r c).2 ⟨h1, h2⟩)]; omega
      · rw [if_pos h1, if_pos (by omega), if_neg (by rw [hasR_iff]; omega)]; omega
    · rw [if_neg h1, if_neg (by omega), if_neg (by rw [hasR_iff]; omega)]; omega
theorem opn_pts (l : List (Int × Int)) (c : Int) : pts l c = decide (0 < opn l c) := by
  induction l with
  | nil => rfl
  | cons r l ih =>
    rw [pts_cons, ih]
    unfold opn
    rw [List.countP_cons]
    cases hasR r c <;> simp <;> omega
theorem edges_at {l : List (Int × Int)} (h : mayL l = true) : ∀ e ∈ edgesOf l, 0 ≤ e.1 ∧ e.1 ≤ 1114112 ∧ (e.2 = 1 ∨ e.2 = -1) := by
  intro e he
  simp only [edgesOf, List.mem_flatMap, List.mem_cons, List.not_mem_nil, or_false] at he
  obtain ⟨r, hr, he⟩ := he
  have := (mayR_iff r).1 (List.all_eq_true.1 h r hr)
  rcases he with rfl | rfl
  · exact ⟨by simp; omega, by simp; omega, .inl rfl⟩
  · exact ⟨by simp; omega, by simp; omega, .inr rfl⟩
theorem sumTo_all {E : List (Int × Int)} {c : Int} (h : ∀ e ∈ E, e.1 ≤ c) : sumTo E c = sumAll E := by
  unfold sumTo sumAll
  rw [List.map_congr_left fun e he => if_pos (h e he)]
theorem sumTo_none {E : List (Int × Int)} {c : Int} (h : ∀ e ∈ E, c < e.1) : sumTo E c = 0 := by
  unfold sumTo
  rw [List.map_congr_left (g := fun _ => (0 : Int)) fun e he => if_neg (by have := h e he; omega)]
  clear h
  induction E with
  | nil => rfl
  | cons e E ih => simp [ih]
theorem sumTo_append (E F : List (Int × Int)) (c : Int) : sumTo (E ++ F) c = sumTo E c + sumTo F c := by unfold sumTo; rw [List.map_append, List.sum_append]
theorem sumAll_append (E F : List (Int × Int)) : sumAll (E ++ F) = sumAll E + sumAll F := by unfold sumAll; rw [List.map_append, List.sum_append]
/-- One side of the walk behind the edges at c: the edges ahead, and how many are open. -/
structure SideAt (l : List (Int × Int)) (c : Int) (rest : List (Int × Int)) (open' : Int) : Prop where
  may : mayL l = true
  past : ∃ pre, (pre ++ rest).Perm (edgesOf l) ∧ (∀ e ∈ pre, e.1 ≤ c) ∧ open' = sumAll pre
  ahead : ∀ e ∈ rest, c < e.1
  rising : rest.Pairwise (fun x y => x.1 ≤ y.1)
theorem SideAt.opn {l rest : List (Int × Int)} {c o : Int} (h : SideAt l c rest o) (p : Int) (hc : c ≤ p) (hp : ∀ e ∈ rest, p < e.1) : opn l p = o := by
  obtain ⟨pre, hperm, hpre, rfl⟩ := h.past
  rw [← edges_sum h.may, ← sumTo_perm hperm, sumTo_append, sumTo_none hp, Int.add_zero, sumTo_all (fun e he => Int.le_trans (hpre e he) hc)]
theorem SideAt.pts {l rest : List (Int × Int)} {c o : Int} (h : SideAt l c rest o) (p : Int) (hc : c ≤ p) (hp : ∀ e ∈ rest, p < e.1) : pts l p = decide (0 < o) := by
  rw [opn_pts, h.opn p hc hp]
theorem SideAt.mem {l rest : List (Int × Int)} {c o : Int} (h : SideAt l c rest o) : ∀ e ∈ rest, 0 ≤ e.1 ∧ e.1 ≤ 1114112 ∧ (e.2 = 1 ∨ e.2 = -1) := by
  obtain ⟨pre, hperm, _⟩ := h.past
  exact fun e he => edges_at h.may e (hperm.mem_iff.1 (List.mem_append_right _ he))
theorem SideAt.start {l E : List (Int × Int)} (hm : mayL l = true) (hp : E.Perm (edgesOf l)) (hs : E.Pairwise (fun x y => x.1 ≤ y.1)) : SideAt l (-1) E 0 :=
  ⟨hm, ⟨[], by simpa using hp, fun e he => (by cases he), rfl⟩, fun e he => (by have := edges_at hm e (hp.mem_iff.1 he); omega), hs⟩
/-- Edges passed at one point. -/
theorem SideAt.pass {l pas rest : List (Int × Int)} {c c' o : Int} (h : SideAt l c (pas ++ rest) o) (hc : c < c') (hpas : ∀ e ∈ pas, e.1 = c') (hrest : ∀ e, rest.head? = some e → c' < e.1) : SideAt l c' rest (o + sumAll pas) := by
  obtain ⟨pre, hperm, hpre, rfl⟩ := h.past
  have hr : rest.Pairwise (fun x y => x.1 ≤ y.1) := (List.pairwise_append.1 h.rising).2.1
  refine ⟨h.may, ⟨pre ++ pas, by simpa using hperm, fun e he => ?_, (sumAll_append _ _).symm⟩, ?_, hr⟩
  · rcases List.mem_append.1 he with he | he
    · have := hpre e he; omega
    · have := hpas e he; omega
  · cases rest with
    | nil => intro e he; cases he
    | cons x rest =>
      have hx := hrest x rfl
      intro e he
      rcases List.mem_cons.1 he with rfl | he
      · exact hx
      · have := (List.pairwise_cons.1 hr).1 e he; omega
theorem may_pts {l : List (Int × Int)} (h : mayL l = true) {p : Int} (hp : pts l p = true) : 0 ≤ p ∧ p ≤ 1114111 := by
  have : ∃ r ∈ l, hasR r p = true := by simpa [pts] using hp
  obtain ⟨r, hr, hh⟩ := this
  have h1 := (mayR_iff r).1 (List.all_eq_true.1 h r hr)
  have h2 := (hasR_iff r p).1 hh
  omega
/-- No edge ahead: no number behind is held. -/
theorem SideAt.over {l : List (Int × Int)} {c o : Int} (h : SideAt l c [] o) (p : Int) (hc : c ≤ p) : Go.Proofs.YtiapefdklojhdaaDoor.pts l p = false := by
  cases e : Go.Proofs.YtiapefdklojhdaaDoor.pts l p with
  | false => rfl
  | true =>
    exfalso
    have hb := may_pts h.may e
    have h1 := h.pts p hc (fun e he => by cases he)
    have h2 := h.pts 1114112 (by omega) (fun e he => by cases he)
    rw [e] at h1
    rw [← h1] at h2
    have := may_pts h.may h2
    omega
/-- How many numbers below n. -/
def card (f : Int → Bool) : Nat → Int
  | 0 => 0
  | n + 1 => card f n + (if f (n : Int) then 1 else 0)
theorem card_congr {f g : Int → Bool} : ∀ {n : Nat}, (∀ p : Int, 0 ≤ p → p < n → f p = g p) → card f n = card g n
  | 0, _ => rfl
  | n + 1, h => by rw [card, card, card_congr (n := n) (fun p h0 hp => h p h0 (by omega)), h n (by omega) (by omega)]
theorem card_or (f g : Int → Bool) : ∀ n : Nat, card f n + card g n = card (fun p => f p || g p) n + card (fun p => f p && g p) n
  | 0 => rfl
  | n + 1 => by have := card_or f g n; simp only [card]; rcases Bool.eq_false_or_eq_true (f n) with h1 | h1 <;> rcases Bool.eq_false_or_eq_true (g n) with h2 | h2 <;> simp [h1, h2] <;> omega
theorem card_false : ∀ n : Nat, card (fun _ => false) n = 0
  | 0 => rfl
  | n + 1 => by rw [card, card_false n]; rfl
theorem card_true : ∀ n : Nat, card (fun _ => true) n = n
  | 0 => rfl
  | n + 1 => by rw [card, card_true n]; simp
theorem card_not (f : Int → Bool) (n : Nat) : card f n + card (fun p => !f p) n = n := by
  rw [card_or, card_congr (f := fun p => f p || !f p) (g := fun _ => true) (fun p _ _ => by simp), card_congr (f := fun p => f p && !f p) (g := fun _ => false) (fun p _ _ => by simp), card_true, card_false, Int.add_zero]
theorem card_range (lo hi : Int) (h0 : 0 ≤ lo) : ∀ n : Nat, card (hasR (lo, hi)) n = if hi < n then (if lo ≤ hi then hi - lo + 1 else 0) else (if lo ≤ n then n - lo else 0)
  | 0 => by simp only [card]; split <;> split <;> omega
  | n + 1 => by
    have ih := card_range lo hi h0 n
    have e : (if hasR (lo, hi) (n : Int) = true then (1 : Int) else 0) = if lo ≤ n ∧ (n : Int) ≤ hi then 1 else 0 := by
      by_cases h : lo ≤ (n : Int) ∧ (n : Int) ≤ hi
      · rw [if_pos h, if_pos ((hasR_iff (lo, hi) n).2 h)]
      · rw [if_neg h, if_neg (fun h' => h ((hasR_iff (lo, hi) n).1 h'))]
    rw [card, ih, e]
    (repeat' split) <;> omega
/-- The sum of the lengths. -/
def lens (l : List (Int × Int)) : Int := (l.map fun r => r.2 - r.1 + 1).sum
theorem lens_card : ∀ {l : List (Int × Int)} {a : Int}, 0 ≤ a → NormF a l → lens l = card (pts l) 1114112
  | [], _, _, _ => by rw [show lens [] = 0 from rfl, card_congr (f := pts []) (g := fun _ => false) (fun p _ _ => rfl), card_false]
  | r :: l, a, ha, ⟨g1, g2, g3, g4⟩ => by
    have ih := lens_card (a := r.2 + 2) (by omega) g4
    have h := card_or (hasR r) (pts l) 1114112
    rw [card_congr (f := fun p => hasR r p && pts l p) (g := fun _ => false) (fun p _ _ => by
      cases e : hasR r p with
      | false => rfl
      | true =>
        cases e' : pts l p with
        | false => rfl
        | true => have := NormF.ge g4 e'; have := (hasR_iff r p).1 e; omega), card_false, Int.add_zero] at h
    have e : lens (r :: l) = (r.2 - r.1 + 1) + lens l := by simp [lens]
    have h1 := card_range r.1 r.2 (by omega) 1114112
    rw [if_pos (by omega), if_pos g2] at h1
    rw [e, ih, card_congr (f := pts (r :: l)) (g := fun p => hasR r p || pts l p) (fun p _ _ => pts_cons r l p), ← h, ← h1]
end Go.Proofs.YtiapefdklojhdaaDoor
namespace Go.Proofs.YtiapefdklojhdaaDoor
open Go.RowKit
theorem hidE {p : Prop} (h : p) : Hid p := h
def cellsR (l : List (Int × Int)) : List Value := l.flatMap fun r => [.int .i64 r.1, .int .i64 r.2]
theorem cellsR_length (l : List (Int × Int)) : (cellsR l).length = l.length * 2 := by
  induction l with
  | nil => rfl
  | cons u l ih => rw [cellsR, List.flatMap_cons, List.length_append, List.length_cons]; rw [cellsR] at ih; rw [ih]; simp; omega
theorem cellsR_append (l m : List (Int × Int)) : cellsR (l ++ m) = cellsR l ++ cellsR m := by simp [cellsR]
theorem cellsR_at (l : List (Int × Int)) : ∀ (k : Nat) (h : k < l.length), (cellsR l)[k * 2]? = some (.int .i64 l[k].1) ∧ (cellsR l)[k * 2 + 1]? = some (.int .i64 l[k].2) := by
  induction l with
  | nil => intro k h; simp at h
  | cons u l ih =>
    intro k h
    have e : cellsR (u :: l) = .int .i64 u.1 :: .int .i64 u.2 :: cellsR l := rfl
    cases k with
    | zero => rw [e]; simp
    | succ k =>
      have := ih k (by simpa using h)
      rw [e, show (k + 1) * 2 = k * 2 + 1 + 1 by omega, show k * 2 + 1 + 1 + 1 = (k * 2 + 1) + 1 + 1 by omega]
      simpa using this
/-- Pairs of numbers in memory, each where it is asked. -/
structure RA (w : World) (a : Option Addr) (l : List (Int × Int)) : Prop where
  at' : ∀ k (h : k < l.length), ∃ b off, a = some ⟨b, off, none⟩ ∧ w.cell? ⟨b, off + k * 2, none⟩ = some (.int .i64 l[k].1) ∧ w.cell? ⟨b, off + k * 2 + 1, none⟩ = some (.int .i64 l[k].2)
theorem RA.later {w w' : World} {a : Option Addr} {l : List (Int × Int)} (h : RA w a l) (hb : Below w.heap.size w w') : RA w' a l := ⟨fun k hk => by
  obtain ⟨b, off, rfl, h1, h2⟩ := h.at' k hk
  exact ⟨b, off, rfl, (hb.cell (p := ⟨b, off + k * 2, none⟩) (World.block_lt_of_cell? w _ h1)).trans h1, (hb.cell (p := ⟨b, off + k * 2 + 1, none⟩) (World.block_lt_of_cell? w _ h2)).trans h2⟩⟩
theorem RA.nil (w : World) (a : Option Addr) : RA w a [] := ⟨fun _ h => absurd h (Nat.not_lt_zero _)⟩
/-- A slice of ranges of the call's own. -/
def OwnR (w : World) (base : Nat) (v : Value) (l : List (Int × Int)) : Prop := w.ownsRow base 57 2 v l.length (cellsR l)
theorem infoRange : (Tryd.prog.info? 57).map (fun i => (i.zero, i.size, i.bytes)) = some (some (.agg #[.int .i64 0, .int .i64 0]), 2, 16) := by kernel_rfl
theorem OwnR.nil (w : World) (base : Nat) : OwnR w base (.slice none 0 0) [] := World.ownsRow_nil _ _ _ _
theorem OwnR.later {w w' : World} {base : Nat} {v : Value} {l : List (Int × Int)} (h : OwnR w base v l) (hb : Below w.heap.size w w') : OwnR w' base v l := by
  obtain ⟨h1, h2⟩ := h
  refine ⟨h1, ?_⟩
  rcases h2 with h2 | ⟨g, cap, cur, hv, hg, hh, r⟩
  · exact .inl h2
  · exact .inr ⟨g, cap, cur, hv, hg, (hb.block g (Array.getElem?_eq_some_iff.1 hh).1).trans hh, r⟩
theorem OwnR.ra {w : World} {base : Nat} {v : Value} {l : List (Int × Int)} (h : OwnR w base v l) : ∃ a cap, v = .slice a l.length cap ∧ RA w a l := by
  have h0 := h
  rcases h.2 with ⟨rfl, hn⟩ | ⟨g, cap, cur, rfl, _⟩
  · have : l = [] := List.length_eq_zero_iff.1 hn
    subst this
    exact ⟨none, 0, rfl, RA.nil _ _⟩
  · refine ⟨_, cap, rfl, ⟨fun k hk => ⟨g, 0, rfl, ?_⟩⟩⟩
    obtain ⟨a, b⟩ := cellsR_at l k hk
    rw [Nat.zero_add, World.ownsRow.cellAt h0 _ (by omega), World.ownsRow.cellAt h0 _ (by omega)]
    exact ⟨a, b⟩
theorem ownR_snoc {w wr w1 : World} {base : Nat} {v v' : Value} {l m : List (Int × Int)} {r : Int × Int} {o : Obj} {n : Nat} (hn : n = l.length) (hown : OwnR wr base v l)
    (hown' : w1.ownsRow base 57 2 v' (n + 1) (cellsR l ++ [.int .i64 r.1, .int .i64 r.2])) (hgrow : (wr.alloc o).grownBy w1 v.ownBlock) (hm : m = l ++ [r]) (hbel : Below base w wr) (hb : base ≤ w.heap.size) :
    OwnR w1 base v' m ∧ Below base w w1 := by
  subst hm hn
  have hsz := hbel.size
  refine ⟨?_, (hbel.alloc (by omega) o).grown hgrow (by simp; omega) (fun k hk => (World.ownsRow.lt hown k hk).1)⟩
  have e2 : cellsR (l ++ [r]) = cellsR l ++ [.int .i64 r.1, .int .i64 r.2] := by rw [cellsR_append]; rfl
  unfold OwnR
  rw [List.length_append, e2]
  exact hown'
theorem cell2_new (w : World) (a b : Value) (t : TypeId) : ∀ j u, [a, b][j]? = some u → (w.alloc (.cells #[a, b] t)).cell? ((⟨w.heap.size, 0, none⟩ : Addr).add j) = some u := by
  intro j u h
  rw [Addr.add_lit, cell_of_row _ w.heap.size _ _ _ _ (heap_alloc_new w _), Nat.zero_add]
  simpa using h
theorem mayL_take (l : List (Int × Int)) (k : Nat) (h : k < l.length) : mayL (l.take (k + 1)) = (mayL (l.take k) && mayR l[k]) := by
  unfold mayL
  rw [List.take_succ_eq_append_getElem h, List.all_append]
  simp
theorem mayL_false (l : List (Int × Int)) (k : Nat) (h : k < l.length) (hr : mayR l[k] = false) : mayL l = false := by
  cases e : mayL l with
  | false => rfl
  | true => rw [List.all_eq_true.1 e _ (List.getElem_mem h)] at hr; cases hr
/-- What a choice is worth, as a function value's own contract. -/
def Chooses (g : Nat) (f : Bool → Bool → Bool) : Prop := (∀ args w, (callFunc g args).run Tryd.prog w = .ok (.enter g args) w) ∧ ∀ (x y : Bool) (w : World), Calls Tryd.prog g #[.bool x, .bool y] w fun e w' => e = .returned (.bool (f x y)) ∧ w' = w
set_option maxRecDepth 10000 in
set_option maxHeartbeats 400000 in
theorem sameR_eq (l : List (Int × Int)) (a b : Option Addr) (ca cb : Nat) (w : World) (hl : l.length ≤ 140737488355328) (ha : RA w a l) (hb : RA w b l) :
    Calls Tryd.prog 43 #[.slice a l.length ca, .slice b l.length cb] w fun e w' => e = .returned (.bool true) ∧ ∃ q, w' = w.drewN q := by
  have HA := hidE ha
  have HB := hidE hb
  clear ha hb
  go_enter Tryd.func43, Tryd.ntmps43
  go_wp2
  go_loopw [5] (fun i wr => ∃ k q : Nat, k ≤ l.length ∧ i = .int .i64 (k : Int) ∧ wr = w.drewN q) (fun i _ => l.length - (intOf i).toNat)
  case atStart => exact ⟨0, 0, Nat.zero_le _, rfl, rfl⟩
  case round =>
    obtain ⟨k, q, hk, rfl, rfl⟩ := hrel
    by_cases hlt : k < l.length
    · obtain ⟨b1, o1, rfl, c0, c1⟩ := HA.out.at' k hlt
      obtain ⟨b2, o2, rfl, d0, d1⟩ := HB.out.at' k hlt
      generalize l[k] = u at *
      clear HA HB
      go_wp2
      go_quiet ((fail))
      go_wp2
      go_roundw
      case rel => exact ⟨k + 1, _, hlt, by go_num, rfl⟩
      case measure => simp [intOf]; omega
    · have hk2 : ¬ (k : Int) < (l.length : Int) := by omega
      clear HA HB
      go_wp2
      go_ret
      exact ⟨rfl, q, rfl⟩
end Go.Proofs.YtiapefdklojhdaaDoor
namespace Go.Proofs.YtiapefdklojhdaaDoor
open Go.RowKit Go.Shelf
theorem hid0 {p : Prop} (h : p) : Hid p := h
/-- w' is w, but for new blocks and the blocks of S. -/
structure Only (w w' : World) (S : Nat → Prop) : Prop where
  os : w'.os = w.os
  tape : w'.tape = w.tape
  output : w'.output = w.output
  size : w.heap.size ≤ w'.heap.size
  block : ∀ k, k < w.heap.size → ¬ S k → w'.heap[k]? = w.heap[k]?
theorem Only.refl (w : World) (S : Nat → Prop) : Only w w S := ⟨rfl, rfl, rfl, Nat.le_refl _, fun _ _ _ => rfl⟩
theorem Only.trans {a b c : World} {S T : Nat → Prop} (h : Only a b S) (k : Only b c T) (hT : ∀ i, T i → S i ∨ a.heap.size ≤ i) : Only a c S :=
  ⟨k.os.trans h.os, k.tape.trans h.tape, k.output.trans h.output, Nat.le_trans h.size k.size, fun i hi hS =>
    (k.block i (Nat.lt_of_lt_of_le hi h.size) (fun ht => (hT i ht).elim hS (fun h => absurd hi (Nat.not_lt.2 h)))).trans (h.block i hi hS)⟩
theorem Only.drewN (w : World) (n : Nat) (S : Nat → Prop) : Only w (w.drewN n) S := ⟨rfl, rfl, rfl, Nat.le_refl _, fun _ _ _ => rfl⟩
theorem Only.alloc (w : World) (o : Obj) (S : Nat → Prop) : Only w (w.alloc o) S := ⟨rfl, rfl, rfl, by simp, fun k hk _ => Below.heap_alloc w o k hk⟩
theorem Only.setCell (w : World) (b off : Nat) (u : Value) : Only w (w.setCell ⟨b, off, none⟩ u) (fun k => k = b) := ⟨rfl, rfl, rfl, by simp [World.setCell], fun k _ h => Below.heap_setCell w _ u k h⟩
theorem Only.mono {w w' : World} {S T : Nat → Prop} (h : Only w w' S) (hs : ∀ i, S i → T i) : Only w w' T := ⟨h.os, h.tape, h.output, h.size, fun i hi ht => h.block i hi (fun s => ht (hs i s))⟩
theorem Only.below {w w' : World} {S : Nat → Prop} {B : Nat} (h : Only w w' S) (hB : B ≤ w.heap.size) (hs : ∀ i, S i → B ≤ i) : Below B w w' :=
  ⟨h.os, h.tape, h.output, h.size, fun i hi => h.block i (by omega) (fun s => by have := hs i s; omega)⟩
theorem Only.ofBelow {w w' : World} {B : Nat} (h : Below B w w') (S : Nat → Prop) (hs : ∀ i, B ≤ i → i < w.heap.size → S i) : Only w w' S :=
  ⟨h.os, h.tape, h.output, h.size, fun i hi hn => h.block i (Nat.lt_of_not_le fun hb => hn (hs i hb hi))⟩
theorem Only.cell {w w' : World} {S : Nat → Prop} (h : Only w w' S) {p : Addr} (hp : p.block < w.heap.size) (hn : ¬ S p.block) : w'.cell? p = w.cell? p := World.cell?_of_block (w := w) (h.block p.block hp hn)
/-- Strings in memory, each where it is asked. -/
structure SA (w : World) (a : Option Addr) (L : List ByteArray) : Prop where
  at' : ∀ k (h : k < L.length), ∃ b off, a = some ⟨b, off, none⟩ ∧ b < w.heap.size ∧ w.cell? ⟨b, off + k, none⟩ = some (.string L[k])
def cellsS (L : List ByteArray) : List Value := L.map .string
def OwnS (w : World) (base : Nat) (v : Value) (L : List ByteArray) : Prop := w.ownsRow base 9 1 v L.length (cellsS L)
theorem infoStr : (Tryd.prog.info? 9).map (fun i => (i.zero, i.size, i.bytes)) = some (some (.string ⟨#[]⟩), 1, 16) := by kernel_rfl
theorem info_parts {t : TypeId} {z : Value} {n b : Nat} (h : (Tryd.prog.info? t).map (fun i => (i.zero, i.size, i.bytes)) = some (some z, n, b)) : ∃ i, Tryd.prog.info? t = some i ∧ i.zero = some z ∧ i.size = n ∧ i.bytes = b := by
  cases hq : Tryd.prog.info? t with
  | none => rw [hq] at h; cases h
  | some i =>
    rw [hq] at h
    simp only [Option.map_some, Option.some.injEq, Prod.mk.injEq] at h
    exact ⟨i, rfl, h.1, h.2.1, h.2.2⟩
theorem OwnS.sa {w : World} {base : Nat} {v : Value} {L : List ByteArray} (h : OwnS w base v L) : ∃ a cap, v = .slice a L.length cap ∧ SA w a L ∧ (∀ p, a = some p → base ≤ p.block) ∧ L.length ≤ cap := by
  have h0 := h
  rcases h.2 with ⟨rfl, hn⟩ | ⟨g, cap, cur, rfl, hg, hr, hc, _⟩
  · exact ⟨none, 0, by rw [hn], ⟨fun k hk => by omega⟩, ⟨(fun p hp => by simp at hp), by omega⟩⟩
  · refine ⟨_, cap, rfl, ⟨fun k hk => ⟨g, 0, rfl, (World.ownsRow.lt h0 g rfl).2, ?_⟩⟩, fun p hp => by cases hp; exact hg, hc⟩
    have := World.ownsRow.cellAt h0 k (by omega)
    rw [Nat.zero_add, this]
    simp [cellsS, hk]
theorem cell_one_new (w : World) (v : Value) (t : TypeId) : ∀ j u, [v][j]? = some u → (w.alloc (.cells #[v] t)).cell? ((⟨w.heap.size, 0, none⟩ : Addr).add j) = some u := by
  intro j u h
  rw [Addr.add_lit, cell_of_row _ w.heap.size _ _ _ _ (heap_alloc_new w _), Nat.zero_add]
  simpa using h
theorem SA.below {w w' : World} {a : Option Addr} {L : List ByteArray} (h : SA w a L) (hb : Below w.heap.size w w') : SA w' a L := ⟨fun k hk => by
  obtain ⟨b, off, rfl, h1, h2⟩ := h.at' k hk
  exact ⟨b, off, rfl, Nat.lt_of_lt_of_le h1 hb.size, (hb.cell (p := ⟨b, off + k, none⟩) h1).trans h2⟩⟩
theorem Below.later {w a b : World} (h : Below w.heap.size w a) (k : Below a.heap.size a b) : Below w.heap.size w b :=
  ⟨k.os.trans h.os, k.tape.trans h.tape, k.output.trans h.output, Nat.le_trans h.size k.size, fun i hi => (k.block i (Nat.lt_of_lt_of_le hi h.size)).trans (h.block i hi)⟩
theorem str_beq (a b : ByteArray) (h : ¬ a = b) : (a.toList == b.toList) = false := by
  rw [Bool.eq_false_iff]
  intro he
  rw [beq_iff_eq, ByteArray.toList_eq, ByteArray.toList_eq] at he
  exact h (ByteArray.ext (Array.toList_inj.1 he))
/-- cur is wk as far as the blocks from lo on go that wk has. -/
structure Agree (wk cur : World) (lo : Nat) : Prop where
  size : wk.heap.size ≤ cur.heap.size
  block : ∀ k, lo ≤ k → k < wk.heap.size → cur.heap[k]? = wk.heap[k]?
theorem Agree.refl (w : World) (lo : Nat) : Agree w w lo := ⟨Nat.le_refl _, fun _ _ _ => rfl⟩
theorem Agree.only {wk cur cur' : World} {lo : Nat} {S : Nat → Prop} (h : Agree wk cur lo) (ho : Only cur cur' S) (hs : ∀ k, S k → k < lo ∨ wk.heap.size ≤ k) : Agree wk cur' lo :=
  ⟨Nat.le_trans h.size ho.size, fun k h1 h2 => (ho.block k (Nat.lt_of_lt_of_le h2 h.size) (fun s => by have := hs k s; omega)).trans (h.block k h1 h2)⟩
theorem Agree.below {wk cur cur' : World} {lo : Nat} (h : Agree wk cur lo) (hb : Below cur.heap.size cur cur') : Agree wk cur' lo :=
  ⟨Nat.le_trans h.size hb.size, fun k h1 h2 => (hb.block k (Nat.lt_of_lt_of_le h2 h.size)).trans (h.block k h1 h2)⟩
theorem own_agree {wk cur : World} {lo t s n : Nat} {v : Value} {xs : List Value} (h : wk.ownsRow lo t s v n xs) (ha : Agree wk cur lo) : cur.ownsRow lo t s v n xs := by
  refine ⟨h.1, ?_⟩
  rcases h.2 with h2 | ⟨g, cap, cur0, hv, hg, hr, r⟩
  · exact .inl h2
  · exact .inr ⟨g, cap, cur0, hv, hg, (ha.block g hg (Array.getElem?_eq_some_iff.1 hr).1).trans hr, r⟩
theorem owns_lower {w : World} {base base' : Nat} {e : TypeId} {size : Nat} {v : Value} {n : Nat} {xs : List Value} (h : w.ownsRow base e size v n xs) (hb : base' ≤ base) : w.ownsRow base' e size v n xs :=
  ⟨h.1, h.2.imp id (fun ⟨g, cap, cur, h1, h2, h3⟩ => ⟨g, cap, cur, h1, Nat.le_trans hb h2, h3⟩)⟩
theorem own_form {w : World} {base : Nat} {e : TypeId} {size : Nat} {v : Value} {n : Nat} {xs : List Value} (h : w.ownsRow base e size v n xs) (hn : 0 < n) : ∃ g cap, v = .slice (some ⟨g, 0, none⟩) n cap ∧ base ≤ g ∧ g < w.heap.size ∧ n ≤ cap := by
  have h0 := h
  rcases h.2 with ⟨_, h1⟩ | ⟨g, cap, cur, rfl, hb, hr, hc, _⟩
  · omega
  · exact ⟨g, cap, rfl, hb, (World.ownsRow.lt h0 g rfl).2, hc⟩
theorem SA.front {w : World} {a : Option Addr} {L M : List ByteArray} (h : SA w a (L ++ M)) : SA w a L := ⟨fun k hk => by
  obtain ⟨b, off, e, h1, h2⟩ := h.at' k (by simp; omega)
  rw [List.getElem_append_left hk] at h2
  exact ⟨b, off, e, h1, h2⟩⟩
theorem app_nil (w : World) (ty : TypeId) : (Builtin.append_ #[22, 22] ty #[.slice none 0 0, .slice none 0 0]).run Tryd.prog w = .ok (.slice none 0 0) w := by
  go_simp
theorem wpList_spread {ops : Array Oper} {rest : List Oper} {op : Oper} {a : Act} {w : World} {Q : Exit → Act → World → Prop} (hgd : op.guard = none) (s x : Operand) (ho : op.op = .call { callee := .builtin .append, args := #[s, x], argTypes := #[22, 22] })
    (aN : Option Addr) (L : List ByteArray) (cN base : Nat) (hs : a.eval s = .slice none 0 0) (hx : a.eval x = .slice aN L.length cN) (hnil : aN = none → cN = 0) (ha : SA w aN L) (hl : L.length ≤ 8796093022208) (hb : base ≤ w.heap.size)
    (h : ∀ v' w', OwnS w' base v' L → w.grownBy w' none → wpList Tryd.prog ops Q rest (a.put op.dst v') w') : wpList Tryd.prog ops Q (op :: rest) a w := by
  obtain ⟨i0, hi, hz0, hz1, hz2⟩ := info_parts infoStr
  cases aN with
  | none =>
    have hL : L = [] := by
      cases L with
      | nil => rfl
      | cons y r => obtain ⟨b, off, e, _⟩ := ha.at' 0 (by simp); cases e
    subst hL
    have hc := hnil rfl
    subst hc
    refine wpList_plain hgd fun K hK => ?_
    have hr := app_nil w op.type
    unfold Oper.wp execOp
    simp only [ho, resolve, invoke, builtin, Sem.run_bind, Sem.run_pure, Result.andThen_ok, List.map_toArray, List.map_cons, List.map_nil, hs, hx, List.length_nil, hr]
    exact hK _ _ (h _ _ (World.ownsRow_nil _ _ _ _) ⟨rfl, rfl, rfl, Nat.le_refl _, fun _ _ _ => rfl⟩)
  | some ad =>
    refine wpList_append_own _ hgd s x 22 ho base 9 i0 (.string ⟨#[]⟩) 1 16 Tryd.underlying22 hi hz0 hz1 hz2 rfl (by decide) (.slice none 0 0) 0 [] hs (World.ownsRow_nil _ _ _ _) ad L.length cN (cellsS L) hx (by simp [cellsS]) (fun j u hu => ?_) (fun u hu => by obtain ⟨y, _, rfl⟩ := List.mem_map.1 hu; rfl) (by unfold maxLen; omega) (by omega) hb (fun v' w' h1 h2 _ => h v' w' (by rw [Nat.zero_add] at h1; exact h1) h2)
    have hj : j < L.length := by have := (List.getElem?_eq_some_iff.1 hu).1; simpa [cellsS] using this
    obtain ⟨b, off, e, h1, h2⟩ := ha.at' j hj
    cases e
    rw [Addr.add_mid, h2]
    have : (cellsS L)[j]? = some (.string L[j]) := by simp [cellsS, hj]
    rw [this] at hu
    exact hu
theorem app_nilR (w : World) (ty : TypeId) : (Builtin.append_ #[23, 23] ty #[.slice none 0 0, .slice none 0 0]).run Tryd.prog w = .ok (.slice none 0 0) w := by
  go_simp
theorem wpList_spreadR {ops : Array Oper} {rest : List Oper} {op : Oper} {a : Act} {w : World} {Q : Exit → Act → World → Prop} (hgd : op.guard = none) (s x : Operand) (ho : op.op = .call { callee := .builtin .append, args := #[s, x], argTypes := #[23, 23] })
    (aN : Option Addr) (L : List (Int × Int)) (cN base : Nat) (hs : a.eval s = .slice none 0 0) (hx : a.eval x = .slice aN L.length cN) (hnil : aN = none → cN = 0) (ha : RA w aN L) (hl : L.length ≤ 8796093022208) (hb : base ≤ w.heap.size)
    (h : ∀ v' w', OwnR w' base v' L → w.grownBy w' none → wpList Tryd.prog ops Q rest (a.put op.dst v') w') : wpList Tryd.prog ops Q (op :: rest) a w := by
  obtain ⟨i0, hi, hz0, hz1, hz2⟩ := info_parts infoRange
  cases aN with
  | none =>
    have hL : L = [] := by
      cases L with
      | nil => rfl
      | cons y r => obtain ⟨b, off, e, _⟩ := ha.at' 0 (by simp); cases e
    subst hL
    have hc := hnil rfl
    subst hc
    refine wpList_plain hgd fun K hK => ?_
    have hr := app_nilR w op.type
    unfold Oper.wp execOp
    simp only [ho, resolve, invoke, builtin, Sem.run_bind, Sem.run_pure, Result.andThen_ok, List.map_toArray, List.map_cons, List.map_nil, hs, hx, List.length_nil, hr]
    exact hK _ _ (h _ _ (World.ownsRow_nil _ _ _ _) ⟨rfl, rfl, rfl, Nat.le_refl _, fun _ _ _ => rfl⟩)
  | some ad =>
    refine wpList_append_own _ hgd s x 23 ho base 57 i0 (.agg #[.int .i64 0, .int .i64 0]) 2 16 Tryd.underlying23 hi hz0 hz1 hz2 rfl (by decide) (.slice none 0 0) 0 [] hs (World.ownsRow_nil _ _ _ _) ad L.length cN (cellsR L) hx (cellsR_length L) (fun j u hu => ?_) (fun u hu => by simp only [cellsR, List.mem_flatMap, List.mem_cons, List.not_mem_nil, or_false] at hu; obtain ⟨y, _, rfl | rfl⟩ := hu <;> rfl) (by unfold maxLen; omega) (by omega) hb (fun v' w' h1 h2 _ => h v' w' (by rw [Nat.zero_add] at h1; exact h1) h2)
    have hj : j < L.length * 2 := by have := (List.getElem?_eq_some_iff.1 hu).1; rwa [cellsR_length] at this
    obtain ⟨b, off, e, h1, h2⟩ := ha.at' (j / 2) (by omega)
    cases e
    rw [Addr.add_mid]
    obtain ⟨q0, q1⟩ := cellsR_at L (j / 2) (by omega)
    have h3 : j % 2 = 0 ∨ j % 2 = 1 := by omega
    rcases h3 with h3 | h3
    · have ej : j = j / 2 * 2 := by omega
      rw [ej] at hu
      rw [q0] at hu
      rw [show off + j = off + j / 2 * 2 by omega, h1]
      exact hu
    · have ej : j = j / 2 * 2 + 1 := by omega
      rw [ej] at hu
      rw [q1] at hu
      rw [show off + j = off + j / 2 * 2 + 1 by omega, h2]
      exact hu
theorem RA.below {w w' : World} {a : Option Addr} {l : List (Int × Int)} (h : RA w a l) (hb : Below w.heap.size w w') : RA w' a l := h.later hb
theorem RA.front {w : World} {a : Option Addr} {l m : List (Int × Int)} (h : RA w a (l ++ m)) : RA w a l := ⟨fun k hk => by
  obtain ⟨b, off, e, h1, h2⟩ := h.at' k (by simp; omega)
  rw [List.getElem_append_left hk] at h1 h2
  exact ⟨b, off, e, h1, h2⟩⟩
end Go.Proofs.YtiapefdklojhdaaDoor
namespace Go.Proofs.YtiapefdklojhdaaDoor
open Go.RowKit Go.Shelf
/-- An expression: its kind, its set (turned, names, points), its parts. -/
inductive Ex where
  | mk (k : Int) (nt : Bool) (N : List ByteArray) (P : List (Int × Int)) (L : List Ex) : Ex
def Ex.kind : Ex → Int | .mk k _ _ _ _ => k
def Ex.nt : Ex → Bool | .mk _ b _ _ _ => b
def Ex.nm : Ex → List ByteArray | .mk _ _ N _ _ => N
def Ex.pt : Ex → List (Int × Int) | .mk _ _ _ P _ => P
def Ex.parts : Ex → List Ex | .mk _ _ _ _ L => L
/-- The faults of Check: 0 too many, 1 wrong, 2 out of form. -/
inductive CR where
  | ok (n s : Nat) : CR
  | bad (f : Nat) : CR
def zeroF (nt : Bool) (N : List ByteArray) (P : List (Int × Int)) : Bool := !nt && N.length == 0 && P.length == 0
/-- Has a node what its kind asks for, and nothing beside? -/
def wholeF (may : List ByteArray → List (Int × Int) → Bool) (k : Int) (nt : Bool) (N : List ByteArray) (P : List (Int × Int)) (n : Nat) : Bool :=
  if k = 1 then n == 0 && zeroF nt N P
  else if k = 2 then n == 0 && may N P
  else if k = 3 ∨ k = 4 then zeroF nt N P
  else if k = 5 ∨ k = 6 ∨ k = 7 then n == 1 && zeroF nt N P
  else false
def hasK (L : List Ex) (k : Int) : Bool := L.any fun e => decide (e.kind = k)
def formF (k : Int) (L : List Ex) : Bool :=
  if k = 3 then decide (2 ≤ L.length) && (!hasK L 3 && !hasK L 1)
  else if k = 4 then decide (2 ≤ L.length) && !hasK L 4
  else true
mutual
def chkE (may : List ByteArray → List (Int × Int) → Bool) : Ex → Nat → Nat → Nat → CR
  | .mk k nt N P L, d, n, s =>
    if n + 1 ≤ 4000 ∧ d ≤ 128 ∧ s + (N.length + P.length) ≤ 65536 then
      if wholeF may k nt N P L.length then
        if formF k L then chkL may L (d + 1) (n + 1) (s + (N.length + P.length)) else .bad 2
      else .bad 1
    else .bad 0
def chkL (may : List ByteArray → List (Int × Int) → Bool) : List Ex → Nat → Nat → Nat → CR
  | [], _, n, s => .ok n s
  | e :: L, d, n, s => match chkE may e d n s with
    | .ok n' s' => chkL may L d n' s'
    | .bad f => .bad f
end
/-- The first so many parts: how many nodes and spans they come to, where all may be. -/
def CR.isOk : CR → Bool | .ok _ _ => true | .bad _ => false
theorem chkL_snoc (may : List ByteArray → List (Int × Int) → Bool) (L : List Ex) (e : Ex) (d : Nat) : ∀ (n s : Nat), chkL may (L ++ [e]) d n s = (match chkL may L d n s with | .ok n' s' => chkE may e d n' s' | .bad f => .bad f) := by
  induction L with
  | nil =>
    intro n s
    simp only [List.nil_append, chkL]
    cases chkE may e d n s <;> rfl
  | cons x L ih =>
    intro n s
    simp only [List.cons_append, chkL]
    cases chkE may x d n s with
    | ok n' s' => exact ih n' s'
    | bad f => rfl
theorem chkL_stop (may : List ByteArray → List (Int × Int) → Bool) (L M : List Ex) (d n s f : Nat) (h : chkL may L d n s = .bad f) : chkL may (L ++ M) d n s = .bad f := by
  induction L generalizing n s with
  | nil => simp [chkL] at h
  | cons x L ih =>
    simp only [List.cons_append, chkL] at h ⊢
    revert h
    cases chkE may x d n s with
    | ok n' s' => exact fun h => ih n' s' h
    | bad g => exact fun h => h
theorem chkE_bound (may : List ByteArray → List (Int × Int) → Bool) (e : Ex) (d n s : Nat) (h : ¬ (n + 1 ≤ 4000)) : chkE may e d n s = .bad 0 := by
  cases e with
  | mk k nt N P L => simp only [chkE]; rw [if_neg (fun c => h c.1)]
mutual
theorem chkE_ok (may : List ByteArray → List (Int × Int) → Bool) : ∀ (e : Ex) (d n s n' s' : Nat), s ≤ 65536 → chkE may e d n s = .ok n' s' → n < n' ∧ n' ≤ 4000 ∧ s ≤ s' ∧ s' ≤ 65536 := fun e d n s n' s' hs h => by
  match e with
  | .mk k nt N P L =>
    simp only [chkE] at h
    split at h
    · rename_i hc
      split at h
      · split at h
        · have := chkL_ok may L (d + 1) (n + 1) (s + (N.length + P.length)) n' s' hc.1 hc.2.2 h
          omega
        · cases h
      · cases h
    · cases h
theorem chkL_ok (may : List ByteArray → List (Int × Int) → Bool) : ∀ (L : List Ex) (d n s n' s' : Nat), n ≤ 4000 → s ≤ 65536 → chkL may L d n s = .ok n' s' → n ≤ n' ∧ n' ≤ 4000 ∧ s ≤ s' ∧ s' ≤ 65536 := fun L d n s n' s' hn hs h => by
  match L with
  | [] => simp only [chkL, CR.ok.injEq] at h; omega
  | e :: L =>
    simp only [chkL] at h
    cases he : chkE may e d n s with
    | ok a b =>
      rw [he] at h
      have h1 := chkE_ok may e d n s a b hs he
      have h2 := chkL_ok may L d a b n' s' h1.2.1 h1.2.2.2 h
      omega
    | bad f => rw [he] at h; cases h
end
end Go.Proofs.YtiapefdklojhdaaDoor
namespace Go.Proofs.YtiapefdklojhdaaDoor
open Go.RowKit Go.Shelf
/-- An expression as a value. -/
structure EV where
  k : Value
  t : Value
  n : Value
  p : Value
  r : Value
def EV.v (x : EV) : Value := .agg #[x.k, x.t, x.n, x.p, x.r]
/-- Five cells that hold an expression. -/
structure Five (w : World) (g o : Nat) (x : EV) : Prop where
  k : w.cell? ⟨g, o, none⟩ = some x.k
  t : w.cell? ⟨g, o + 1, none⟩ = some x.t
  n : w.cell? ⟨g, o + 2, none⟩ = some x.n
  p : w.cell? ⟨g, o + 3, none⟩ = some x.p
  r : w.cell? ⟨g, o + 4, none⟩ = some x.r
/-- Two worlds that agree on the blocks that Q says. -/
structure Keeps (Q : Nat → Prop) (w w' : World) : Prop where
  size : w.heap.size ≤ w'.heap.size
  cell : ∀ g o, Q g → g < w.heap.size → w'.cell? ⟨g, o, none⟩ = w.cell? ⟨g, o, none⟩
theorem Keeps.ofBelow {B : Nat} {w w' : World} (h : Below B w w') : Keeps (fun g => g < B) w w' := ⟨h.size, fun g o hg _ => h.cell (p := ⟨g, o, none⟩) hg⟩
theorem Five.keeps {Q : Nat → Prop} {w w' : World} {g o : Nat} {x : EV} (h : Five w g o x) (hq : Q g) (hk : Keeps Q w w') : Five w' g o x :=
  have l := World.block_lt_of_cell? w _ h.k
  ⟨(hk.cell g _ hq l).trans h.k, (hk.cell g _ hq l).trans h.t, (hk.cell g _ hq l).trans h.n, (hk.cell g _ hq l).trans h.p, (hk.cell g _ hq l).trans h.r⟩
/-- Texts in memory, in blocks that Q says. -/
structure SQ (w : World) (Q : Nat → Prop) (a : Option Addr) (L : List ByteArray) : Prop where
  at' : ∀ k (h : k < L.length), ∃ b off, a = some ⟨b, off, none⟩ ∧ Q b ∧ b < w.heap.size ∧ w.cell? ⟨b, off + k, none⟩ = some (.string L[k])
structure RQ (w : World) (Q : Nat → Prop) (a : Option Addr) (l : List (Int × Int)) : Prop where
  at' : ∀ k (h : k < l.length), ∃ b off, a = some ⟨b, off, none⟩ ∧ Q b ∧ w.cell? ⟨b, off + k * 2, none⟩ = some (.int .i64 l[k].1) ∧ w.cell? ⟨b, off + k * 2 + 1, none⟩ = some (.int .i64 l[k].2)
theorem SQ.sa {w : World} {Q : Nat → Prop} {a : Option Addr} {L : List ByteArray} (h : SQ w Q a L) : SA w a L := ⟨fun k hk => by
  obtain ⟨b, off, e, _, h1, h2⟩ := h.at' k hk
  exact ⟨b, off, e, h1, h2⟩⟩
theorem RQ.ra {w : World} {Q : Nat → Prop} {a : Option Addr} {l : List (Int × Int)} (h : RQ w Q a l) : RA w a l := ⟨fun k hk => by
  obtain ⟨b, off, e, _, h1, h2⟩ := h.at' k hk
  exact ⟨b, off, e, h1, h2⟩⟩
theorem SQ.keeps {w w' : World} {Q : Nat → Prop} {a : Option Addr} {L : List ByteArray} (h : SQ w Q a L) (hk : Keeps Q w w') : SQ w' Q a L := ⟨fun k hl => by
  obtain ⟨b, off, e, hq, h1, h2⟩ := h.at' k hl
  exact ⟨b, off, e, hq, Nat.lt_of_lt_of_le h1 hk.size, (hk.cell b _ hq h1).trans h2⟩⟩
theorem RQ.keeps {w w' : World} {Q : Nat → Prop} {a : Option Addr} {l : List (Int × Int)} (h : RQ w Q a l) (hk : Keeps Q w w') : RQ w' Q a l := ⟨fun k hl => by
  obtain ⟨b, off, e, hq, h1, h2⟩ := h.at' k hl
  exact ⟨b, off, e, hq, (hk.cell b _ hq (World.block_lt_of_cell? w _ h1)).trans h1, (hk.cell b _ hq (World.block_lt_of_cell? w _ h2)).trans h2⟩⟩
theorem SQ.nil (w : World) (Q : Nat → Prop) (a : Option Addr) : SQ w Q a [] := ⟨fun _ h => absurd h (Nat.not_lt_zero _)⟩
theorem RQ.nil (w : World) (Q : Nat → Prop) (a : Option Addr) : RQ w Q a [] := ⟨fun _ h => absurd h (Nat.not_lt_zero _)⟩
/-- An expression in memory, in blocks that Q says; lists of a thousand million at most. -/
inductive ExIs (w : World) (Q : Nat → Prop) : Ex → EV → Prop
  | mk (k : Int) (nt : Bool) (N : List ByteArray) (P : List (Int × Int)) (L : List Ex) (a : Option Addr) (ca : Nat) (b : Option Addr) (cb : Nat) (c : Option Addr) (cc : Nat) (vs : Nat → EV)
    (hN : SQ w Q a N) (hP : RQ w Q b P) (lN : N.length ≤ 1000000000) (lP : P.length ≤ 1000000000) (lL : L.length ≤ 1000000000)
    (hL : ∀ i, i < L.length → ∃ g off, c = some ⟨g, off, none⟩ ∧ Q g ∧ Five w g (off + i * 5) (vs i))
    (hR : ∀ i (h : i < L.length), ExIs w Q L[i] (vs i)) :
    ExIs w Q (.mk k nt N P L) ⟨.int .i64 k, .bool nt, .slice a N.length ca, .slice b P.length cb, .slice c L.length cc⟩
theorem ExIs.keeps {w w' : World} {Q : Nat → Prop} (hk : Keeps Q w w') {e : Ex} {x : EV} (h : ExIs w Q e x) : ExIs w' Q e x := by
  induction h with
  | mk k nt N P L a ca b cb c cc vs hN hP lN lP lL hL hR ih =>
    exact .mk k nt N P L a ca b cb c cc vs (hN.keeps hk) (hP.keeps hk) lN lP lL (fun i hi => by
      obtain ⟨g, off, e, hq, h5⟩ := hL i hi
      exact ⟨g, off, e, hq, h5.keeps hq hk⟩) ih
theorem ExIs.mono {w : World} {Q Q' : Nat → Prop} (hk : ∀ g, g < w.heap.size → Q g → Q' g) {e : Ex} {x : EV} (h : ExIs w Q e x) : ExIs w Q' e x := by
  induction h with
  | mk k nt N P L a ca b cb c cc vs hN hP lN lP lL hL hR ih =>
    exact .mk k nt N P L a ca b cb c cc vs ⟨fun k hk' => by
        obtain ⟨b, off, e, hq, h1, h2⟩ := hN.at' k hk'
        exact ⟨b, off, e, hk b h1 hq, h1, h2⟩⟩ ⟨fun k hk' => by
        obtain ⟨b, off, e, hq, h1, h2⟩ := hP.at' k hk'
        exact ⟨b, off, e, hk b (World.block_lt_of_cell? w _ h1) hq, h1, h2⟩⟩ lN lP lL (fun i hi => by
      obtain ⟨g, off, e, hq, h5⟩ := hL i hi
      exact ⟨g, off, e, hk g (World.block_lt_of_cell? w _ h5.k) hq, h5⟩) ih
/-- Whatever was laid is kept where nothing below the heap's size has turned. -/
theorem ExIs.past {w w' : World} {Q : Nat → Prop} (hb : Below w.heap.size w w') {e : Ex} {x : EV} (h : ExIs w Q e x) : ExIs w' Q e x :=
  h.keeps ⟨hb.size, fun g o _ hl => hb.cell (p := ⟨g, o, none⟩) hl⟩
theorem ExIs.shape {w : World} {Q : Nat → Prop} {k : Int} {nt : Bool} {N : List ByteArray} {P : List (Int × Int)} {L : List Ex} {x : EV} (h : ExIs w Q (.mk k nt N P L) x) : ∃ a ca b cb c cc, x = ⟨.int .i64 k, .bool nt, .slice a N.length ca, .slice b P.length cb, .slice c L.length cc⟩ ∧ SQ w Q a N ∧ RQ w Q b P ∧ N.length ≤ 1000000000 ∧ P.length ≤ 1000000000 ∧ L.length ≤ 1000000000 ∧
    ∃ vs : Nat → EV, (∀ i, i < L.length → ∃ g off, c = some ⟨g, off, none⟩ ∧ Q g ∧ Five w g (off + i * 5) (vs i)) ∧ ∀ i (h : i < L.length), ExIs w Q L[i] (vs i) := by
  cases h with
  | mk _ _ _ _ _ a ca b cb c cc vs hN hP lN lP lL hL hR => exact ⟨a, ca, b, cb, c, cc, rfl, hN, hP, lN, lP, lL, vs, hL, hR⟩
end Go.Proofs.YtiapefdklojhdaaDoor
namespace Go.Proofs.YtiapefdklojhdaaDoor
open Go.RowKit Go.Shelf
/-- Is a text among these? -/
def nmF (L : List ByteArray) (c : ByteArray) : Bool := L.any (fun s => decide (s = c))
/-- Does one of the ranges hold the point? -/
def ptF (R : List (Int × Int)) (p : Int) : Bool := R.any (fun r => decide (r.1 ≤ p) && decide (p ≤ r.2))
/-- Does a set hold a unit? -/
def holdsF (nt : Bool) (L : List ByteArray) (R : List (Int × Int)) (c : ByteArray) (p : Int) : Bool := nt != (nmF L c || (!(p == -1) && ptF R p))
theorem nm_take (L : List ByteArray) (c : ByteArray) (k : Nat) (h : k < L.length) : nmF (L.take (k + 1)) c = (nmF (L.take k) c || decide (L[k] = c)) := by
  unfold nmF
  rw [List.take_succ_eq_append_getElem h, List.any_append]
  simp
theorem pt_take (R : List (Int × Int)) (p : Int) (k : Nat) (h : k < R.length) : ptF (R.take (k + 1)) p = (ptF (R.take k) p || (decide (R[k].1 ≤ p) && decide (p ≤ R[k].2))) := by
  unfold ptF
  rw [List.take_succ_eq_append_getElem h, List.any_append]
  simp
theorem nm_hit (L : List ByteArray) (c : ByteArray) (k : Nat) (h : k < L.length) (he : L[k] = c) : nmF L c = true :=
  List.any_eq_true.2 ⟨L[k], List.getElem_mem h, by simp [he]⟩
set_option maxRecDepth 10000 in
set_option maxHeartbeats 800000 in
theorem index_any (L : List ByteArray) (a : Option Addr) (cap : Nat) (x : ByteArray) (w : World) (hl : L.length ≤ 8796093022208) (ha : SA w a L) :
    Calls Tryd.prog 56 #[.slice a L.length cap, .string x] w fun e w' => (∃ q, e = .returned (.int .i64 q) ∧ decide (0 ≤ q) = nmF L x) ∧ w' = w := by
  have HS := hid0 ha
  clear ha
  go_enter Tryd.func56, Tryd.ntmps56
  go_wp2
  go_loopw [8] (fun i wr => ∃ k : Nat, k ≤ L.length ∧ i = .int .i64 (k : Int) ∧ nmF (L.take k) x = false ∧ wr = w) (fun i _ => L.length - (intOf i).toNat)
  case atStart => exact ⟨0, Nat.zero_le _, rfl, rfl, rfl⟩
  case round =>
    obtain ⟨k, hk, rfl, hall, rfl⟩ := hrel
    have HA := hid0 hall
    clear hall
    by_cases hlt : k < L.length
    · obtain ⟨b, off, rfl, _, hc⟩ := HS.out.at' k hlt
      have hkI : (k : Int) < (L.length : Int) := by omega
      have hkI0 : (0 : Int) ≤ (k : Int) := by omega
      by_cases he : L[k] = x
      · have HV : Hid (nmF L x = true) := hid0 (nm_hit L x k hlt he)
        rw [he] at hc
        clear HA he HS
        go_wp2
        go_ret
        exact ⟨⟨k, rfl, by rw [HV.out]; simp⟩, rfl⟩
      · have HN : Hid (nmF (L.take (k + 1)) x = false) := hid0 (by rw [nm_take L x k hlt, HA.out]; simp [he])
        have hne := str_beq _ _ (fun e => he e.symm)
        clear HA he HS
        go_wp2
        go_roundw
        case rel => exact ⟨k + 1, hlt, by go_num, HN.out, trivial⟩
        case measure => simp [intOf]; omega
    · have hkI : ¬ (k : Int) < (L.length : Int) := by omega
      have HV : Hid (nmF L x = false) := hid0 (by have h := HA.out; rw [List.take_of_length_le (by omega)] at h; exact h)
      clear HA HS
      go_wp2
      go_ret
      exact ⟨⟨-1, rfl, by rw [HV.out]; rfl⟩, rfl⟩
set_option maxRecDepth 10000 in
set_option maxHeartbeats 800000 in
theorem contains_any (L : List ByteArray) (a : Option Addr) (cap : Nat) (x : ByteArray) (w : World) (hl : L.length ≤ 8796093022208) (ha : SA w a L) :
    Calls Tryd.prog 33 #[.slice a L.length cap, .string x] w fun e w' => e = .returned (.bool (nmF L x)) ∧ w' = w := by
  have HI := hid0 (index_any L a cap x w hl ha)
  generalize nmF L x = r at *
  clear ha
  go_enter Tryd.func33, Tryd.ntmps33
  go_wp2_with (go_at_call 56; refine HI.out.mono ?_; rintro e w1 ⟨⟨q, rfl, hq⟩, rfl⟩)
  go_ret
  exact ⟨by rw [← hq]; simp, rfl⟩
end Go.Proofs.YtiapefdklojhdaaDoor
namespace Go.Proofs.YtiapefdklojhdaaDoor
/-- A unit: its class, its point. -/
abbrev Kd := ByteArray × Int
/-- What an expression matches. -/
inductive Mt : Ex → List Kd → Prop
  | none (nt : Bool) (N : List ByteArray) (P : List (Int × Int)) (L : List Ex) : Mt (.mk 1 nt N P L) []
  | set (nt : Bool) (N : List ByteArray) (P : List (Int × Int)) (L : List Ex) (u : Kd) : holdsF nt N P u.1 u.2 = true → Mt (.mk 2 nt N P L) [u]
  | seq0 (nt : Bool) (N : List ByteArray) (P : List (Int × Int)) : Mt (.mk 3 nt N P []) []
  | seq1 (nt : Bool) (N : List ByteArray) (P : List (Int × Int)) (e : Ex) (L : List Ex) (u v : List Kd) : Mt e u → Mt (.mk 3 nt N P L) v → Mt (.mk 3 nt N P (e :: L)) (u ++ v)
  | alt (nt : Bool) (N : List ByteArray) (P : List (Int × Int)) (e : Ex) (L : List Ex) (u : List Kd) : e ∈ L → Mt e u → Mt (.mk 4 nt N P L) u
  | star0 (nt : Bool) (N : List ByteArray) (P : List (Int × Int)) (L : List Ex) : Mt (.mk 5 nt N P L) []
  | star1 (nt : Bool) (N : List ByteArray) (P : List (Int × Int)) (e : Ex) (u v : List Kd) : Mt e u → Mt (.mk 5 nt N P [e]) v → Mt (.mk 5 nt N P [e]) (u ++ v)
  | plus (nt : Bool) (N : List ByteArray) (P : List (Int × Int)) (e : Ex) (u v : List Kd) : Mt e u → Mt (.mk 5 nt N P [e]) v → Mt (.mk 6 nt N P [e]) (u ++ v)
  | opt0 (nt : Bool) (N : List ByteArray) (P : List (Int × Int)) (L : List Ex) : Mt (.mk 7 nt N P L) []
  | opt1 (nt : Bool) (N : List ByteArray) (P : List (Int × Int)) (e : Ex) (u : List Kd) : Mt e u → Mt (.mk 7 nt N P [e]) u
/-- A node: the end; a set that waits, and where it goes on; several ways; a way that is known later; one that is not known yet. -/
inductive Nd where
  | fin : Nd
  | set (nt : Bool) (N : List ByteArray) (P : List (Int × Int)) (nx : Nat) : Nd
  | fork (ys : List Nat) : Nd
  | tramp (y : Nat) : Nd
  | hole : Nd
/-- From a node a word leads to the end, in so many steps at most. -/
inductive AccN (G : List Nd) : Nat → Nat → List Kd → Prop
  | fin (n x : Nat) : G[x]? = some .fin → AccN G n x []
  | set (n x : Nat) (nt : Bool) (N : List ByteArray) (P : List (Int × Int)) (nx : Nat) (u : Kd) (w : List Kd) : G[x]? = some (.set nt N P nx) → holdsF nt N P u.1 u.2 = true → AccN G n nx w → AccN G (n + 1) x (u :: w)
  | fork (n x : Nat) (ys : List Nat) (y : Nat) (w : List Kd) : G[x]? = some (.fork ys) → y ∈ ys → AccN G n y w → AccN G (n + 1) x w
  | tramp (n x y : Nat) (w : List Kd) : G[x]? = some (.tramp y) → AccN G n y w → AccN G (n + 1) x w
def Acc (G : List Nd) (x : Nat) (w : List Kd) : Prop := ∃ n, AccN G n x w
theorem AccN.up {G : List Nd} {n x : Nat} {w : List Kd} (h : AccN G n x w) : ∀ m, n ≤ m → AccN G m x w := by
  induction h with
  | fin n x hx => exact fun m _ => .fin m x hx
  | set n x nt N P nx u w hx hh _ ih =>
    intro m hm
    obtain ⟨k, rfl⟩ : ∃ k, m = k + 1 := ⟨m - 1, by omega⟩
    exact .set k x nt N P nx u w hx hh (ih k (by omega))
  | fork n x ys y w hx hy _ ih =>
    intro m hm
    obtain ⟨k, rfl⟩ : ∃ k, m = k + 1 := ⟨m - 1, by omega⟩
    exact .fork k x ys y w hx hy (ih k (by omega))
  | tramp n x y w hx _ ih =>
    intro m hm
    obtain ⟨k, rfl⟩ : ∃ k, m = k + 1 := ⟨m - 1, by omega⟩
    exact .tramp k x y w hx (ih k (by omega))
theorem Acc.set {G : List Nd} {x : Nat} {nt : Bool} {N : List ByteArray} {P : List (Int × Int)} {nx : Nat} (hx : G[x]? = some (.set nt N P nx)) (w : List Kd) : Acc G x w ↔ ∃ u v, w = u :: v ∧ holdsF nt N P u.1 u.2 = true ∧ Acc G nx v := by
  constructor
  · rintro ⟨n, h⟩
    cases h with
    | fin _ _ h => rw [hx] at h; cases h
    | set n _ nt' N' P' nx' u w h hh ha => rw [hx] at h; cases h; exact ⟨u, w, rfl, hh, n, ha⟩
    | fork _ _ _ _ _ h => rw [hx] at h; cases h
    | tramp _ _ _ _ h => rw [hx] at h; cases h
  · rintro ⟨u, v, rfl, hh, n, h⟩
    exact ⟨n + 1, .set n x nt N P nx u v hx hh h⟩
theorem Acc.fork {G : List Nd} {x : Nat} {ys : List Nat} (hx : G[x]? = some (.fork ys)) (w : List Kd) : Acc G x w ↔ ∃ y, y ∈ ys ∧ Acc G y w := by
  constructor
  · rintro ⟨n, h⟩
    cases h with
    | fin _ _ h => rw [hx] at h; cases h
    | set _ _ _ _ _ _ _ _ h => rw [hx] at h; cases h
    | fork n _ ys' y w h hy ha => rw [hx] at h; cases h; exact ⟨y, hy, n, ha⟩
    | tramp _ _ _ _ h => rw [hx] at h; cases h
  · rintro ⟨y, hy, n, h⟩
    exact ⟨n + 1, .fork n x ys y w hx hy h⟩
theorem Acc.tramp {G : List Nd} {x y : Nat} (hx : G[x]? = some (.tramp y)) (w : List Kd) : Acc G x w ↔ Acc G y w := by
  constructor
  · rintro ⟨n, h⟩
    cases h with
    | fin _ _ h => rw [hx] at h; cases h
    | set _ _ _ _ _ _ _ _ h => rw [hx] at h; cases h
    | fork _ _ _ _ _ h => rw [hx] at h; cases h
    | tramp n _ y' w h ha => rw [hx] at h; cases h; exact ⟨n, ha⟩
  · rintro ⟨n, h⟩
    exact ⟨n + 1, .tramp n x y w hx h⟩
theorem Acc.fin {G : List Nd} {x : Nat} (hx : G[x]? = some .fin) (w : List Kd) : Acc G x w ↔ w = [] := by
  constructor
  · rintro ⟨n, h⟩
    cases h with
    | fin _ _ h => rfl
    | set _ _ _ _ _ _ _ _ h => rw [hx] at h; cases h
    | fork _ _ _ _ _ h => rw [hx] at h; cases h
    | tramp _ _ _ _ h => rw [hx] at h; cases h
  · rintro rfl
    exact ⟨0, .fin 0 x hx⟩
/-- A way through an expression and on. -/
inductive Built (G : List Nd) : Ex → Nat → Nat → Prop
  | none (nt : Bool) (N : List ByteArray) (P : List (Int × Int)) (L : List Ex) (nx : Nat) : Built G (.mk 1 nt N P L) nx nx
  | set (nt : Bool) (N : List ByteArray) (P : List (Int × Int)) (L : List Ex) (nx x : Nat) : G[x]? = some (.set nt N P nx) → Built G (.mk 2 nt N P L) nx x
  | seq0 (nt : Bool) (N : List ByteArray) (P : List (Int × Int)) (nx : Nat) : Built G (.mk 3 nt N P []) nx nx
  | seq1 (nt : Bool) (N : List ByteArray) (P : List (Int × Int)) (e : Ex) (L : List Ex) (nx x y : Nat) : Built G (.mk 3 nt N P L) nx y → Built G e y x → Built G (.mk 3 nt N P (e :: L)) nx x
  | alt (nt : Bool) (N : List ByteArray) (P : List (Int × Int)) (L : List Ex) (nx x : Nat) (ys : List Nat) : G[x]? = some (.fork ys) → (hl : ys.length = L.length) → (∀ i (h : i < L.length), Built G L[i] nx (ys[i]'(by omega))) → Built G (.mk 4 nt N P L) nx x
  | star (nt : Bool) (N : List ByteArray) (P : List (Int × Int)) (e : Ex) (nx t f b : Nat) : G[t]? = some (.tramp f) → G[f]? = some (.fork [nx, b]) → Built G e t b → Built G (.mk 5 nt N P [e]) nx f
  | plus (nt : Bool) (N : List ByteArray) (P : List (Int × Int)) (e : Ex) (nx t f b : Nat) : G[t]? = some (.tramp f) → G[f]? = some (.fork [nx, b]) → Built G e t b → Built G (.mk 6 nt N P [e]) nx b
  | opt (nt : Bool) (N : List ByteArray) (P : List (Int × Int)) (e : Ex) (nx x y : Nat) : G[x]? = some (.fork [nx, y]) → Built G e nx y → Built G (.mk 7 nt N P [e]) nx x
theorem loop_to {G : List Nd} {nt : Bool} {N : List ByteArray} {P : List (Int × Int)} {e : Ex} {nx t f b : Nat} (ht : G[t]? = some (.tramp f)) (hf : G[f]? = some (.fork [nx, b]))
    (ih : ∀ n w, AccN G n b w → ∃ u v m, m ≤ n ∧ w = u ++ v ∧ Mt e u ∧ AccN G m t v) : ∀ n w, AccN G n f w → ∃ u v m, m ≤ n ∧ w = u ++ v ∧ Mt (.mk 5 nt N P [e]) u ∧ AccN G m nx v := by
  intro n
  induction n using Nat.strongRecOn with
  | ind n rec =>
    intro w h
    cases h with
    | fin _ _ h => rw [hf] at h; cases h
    | set _ _ _ _ _ _ _ _ h => rw [hf] at h; cases h
    | tramp _ _ _ _ h => rw [hf] at h; cases h
    | fork n _ ys y w h hy ha =>
      rw [hf] at h
      cases h
      simp only [List.mem_cons, List.not_mem_nil, or_false] at hy
      rcases hy with rfl | rfl
      · exact ⟨[], w, n, by omega, rfl, .star0 nt N P [e], ha⟩
      · obtain ⟨u, v, m, hm, rfl, hu, hv⟩ := ih n w ha
        cases hv with
        | fin _ _ hq => rw [ht] at hq; cases hq
        | set _ _ _ _ _ _ _ _ hq => rw [ht] at hq; cases hq
        | fork _ _ _ _ _ hq => rw [ht] at hq; cases hq
        | tramp m _ y' v hq hv =>
          rw [ht] at hq
          cases hq
          obtain ⟨u2, v2, m2, hm2, rfl, hu2, hv2⟩ := rec m (by omega) v hv
          exact ⟨u ++ u2, v2, m2, by omega, by simp, .star1 nt N P e u u2 hu hu2, hv2⟩
theorem Built.to {G : List Nd} {e : Ex} {nx x : Nat} (h : Built G e nx x) : ∀ n w, AccN G n x w → ∃ u v m, m ≤ n ∧ w = u ++ v ∧ Mt e u ∧ AccN G m nx v := by
  induction h with
  | none nt N P L nx => exact fun n w h => ⟨[], w, n, Nat.le_refl _, rfl, .none nt N P L, h⟩
  | set nt N P L nx x hx =>
    intro n w h
    cases h with
    | fin _ _ h => rw [hx] at h; cases h
    | fork _ _ _ _ _ h => rw [hx] at h; cases h
    | tramp _ _ _ _ h => rw [hx] at h; cases h
    | set n _ nt' N' P' nx' u w h hh ha => rw [hx] at h; cases h; exact ⟨[u], w, n, by omega, rfl, .set nt N P L u hh, ha⟩
  | seq0 nt N P nx => exact fun n w h => ⟨[], w, n, Nat.le_refl _, rfl, .seq0 nt N P, h⟩
  | seq1 nt N P e L nx x y _ _ ih1 ih2 =>
    intro n w h
    obtain ⟨u, v, m, hm, rfl, hu, hv⟩ := ih2 n w h
    obtain ⟨u2, v2, m2, hm2, rfl, hu2, hv2⟩ := ih1 m v hv
    exact ⟨u ++ u2, v2, m2, by omega, by simp, .seq1 nt N P e L u u2 hu hu2, hv2⟩
  | alt nt N P L nx x ys hx hl _ ih =>
    intro n w h
    cases h with
    | fin _ _ h => rw [hx] at h; cases h
    | set _ _ _ _ _ _ _ _ h => rw [hx] at h; cases h
    | tramp _ _ _ _ h => rw [hx] at h; cases h
    | fork n _ ys' y w h hy ha =>
      rw [hx] at h
      cases h
      obtain ⟨i, hi, rfl⟩ := List.getElem_of_mem hy
      obtain ⟨u, v, m, hm, rfl, hu, hv⟩ := ih i (by omega) n w ha
      exact ⟨u, v, m, by omega, rfl, .alt nt N P L[i] L u (List.getElem_mem _) hu, hv⟩
  | star nt N P e nx t f b ht hf _ ih => exact loop_to ht hf ih
  | plus nt N P e nx t f b ht hf _ ih =>
    intro n w h
    obtain ⟨u, v, m, hm, rfl, hu, hv⟩ := ih n w h
    cases hv with
    | fin _ _ hq => rw [ht] at hq; cases hq
    | set _ _ _ _ _ _ _ _ hq => rw [ht] at hq; cases hq
    | fork _ _ _ _ _ hq => rw [ht] at hq; cases hq
    | tramp m _ y' v hq hv =>
      rw [ht] at hq
      cases hq
      obtain ⟨u2, v2, m2, hm2, rfl, hu2, hv2⟩ := loop_to (nt := nt) (N := N) (P := P) ht hf ih m v hv
      exact ⟨u ++ u2, v2, m2, by omega, by simp, .plus nt N P e u u2 hu hu2, hv2⟩
  | opt nt N P e nx x y hx _ ih =>
    intro n w h
    cases h with
    | fin _ _ h => rw [hx] at h; cases h
    | set _ _ _ _ _ _ _ _ h => rw [hx] at h; cases h
    | tramp _ _ _ _ h => rw [hx] at h; cases h
    | fork n _ ys y' w h hy ha =>
      rw [hx] at h
      cases h
      simp only [List.mem_cons, List.not_mem_nil, or_false] at hy
      rcases hy with rfl | rfl
      · exact ⟨[], w, n, by omega, rfl, .opt0 nt N P [e], ha⟩
      · obtain ⟨u, v, m, hm, rfl, hu, hv⟩ := ih n w ha
        exact ⟨u, v, m, by omega, rfl, .opt1 nt N P e u hu, hv⟩
theorem loop_from {G : List Nd} {nt : Bool} {N : List ByteArray} {P : List (Int × Int)} {e : Ex} {nx t f b : Nat} (ht : G[t]? = some (.tramp f)) (hf : G[f]? = some (.fork [nx, b]))
    (ih : ∀ u v, Mt e u → Acc G t v → Acc G b (u ++ v)) (x : Ex) (u v : List Kd) (h : Mt x u) : x = .mk 5 nt N P [e] → Acc G nx v → Acc G f (u ++ v) := by
  induction h with
  | star0 nt N P L => exact fun _ hv => (Acc.fork hf _).2 ⟨nx, by simp, hv⟩
  | star1 nt' N' P' e' u u2 he _ _ ih2 =>
    intro hx hv
    cases hx
    have h2 := ih2 rfl hv
    rw [List.append_assoc]
    exact (Acc.fork hf _).2 ⟨b, by simp, ih u _ he ((Acc.tramp ht _).2 h2)⟩
  | _ => intro hx; cases hx
theorem Built.from {G : List Nd} {e : Ex} {nx x : Nat} (h : Built G e nx x) : ∀ u v, Mt e u → Acc G nx v → Acc G x (u ++ v) := by
  induction h with
  | none nt N P L nx => intro u v h hv; cases h; exact hv
  | set nt N P L nx x hx =>
    intro u v h hv
    cases h with
    | set _ _ _ _ u hh => exact (Acc.set hx _).2 ⟨u, v, rfl, hh, hv⟩
  | seq0 nt N P nx => intro u v h hv; cases h; exact hv
  | seq1 nt N P e L nx x y _ _ ih1 ih2 =>
    intro u v h hv
    cases h with
    | seq1 _ _ _ _ _ u u2 h1 h2 =>
      rw [List.append_assoc]
      exact ih2 u _ h1 (ih1 u2 v h2 hv)
  | alt nt N P L nx x ys hx hl _ ih =>
    intro u v h hv
    cases h with
    | alt _ _ _ e _ _ he h1 =>
      obtain ⟨i, hi, rfl⟩ := List.getElem_of_mem he
      exact (Acc.fork hx _).2 ⟨ys[i], List.getElem_mem _, ih i hi u v h1 hv⟩
  | star nt N P e nx t f b ht hf _ ih => exact fun u v h hv => loop_from ht hf ih _ u v h rfl hv
  | plus nt N P e nx t f b ht hf _ ih =>
    intro u v h hv
    cases h with
    | plus _ _ _ _ u u2 h1 h2 =>
      rw [List.append_assoc]
      exact ih u _ h1 ((Acc.tramp ht _).2 (loop_from ht hf ih _ u2 v h2 rfl hv))
  | opt nt N P e nx x y hx _ ih =>
    intro u v h hv
    cases h with
    | opt0 => exact (Acc.fork hx _).2 ⟨nx, by simp, hv⟩
    | opt1 _ _ _ _ u h1 => exact (Acc.fork hx _).2 ⟨y, by simp, ih u v h1 hv⟩
theorem Built.acc {G : List Nd} {e : Ex} {nx x : Nat} (h : Built G e nx x) (w : List Kd) : Acc G x w ↔ ∃ u v, w = u ++ v ∧ Mt e u ∧ Acc G nx v := by
  constructor
  · rintro ⟨n, hn⟩
    obtain ⟨u, v, m, _, e1, hu, hv⟩ := h.to n w hn
    exact ⟨u, v, e1, hu, m, hv⟩
  · rintro ⟨u, v, rfl, hu, hv⟩
    exact h.from u v hu hv
theorem Built.whole {G : List Nd} {e : Ex} {z x : Nat} (h : Built G e z x) (hz : G[z]? = some .fin) (w : List Kd) : Acc G x w ↔ Mt e w := by
  rw [h.acc]
  constructor
  · rintro ⟨u, v, rfl, hu, hv⟩
    rw [(Acc.fin hz v).1 hv, List.append_nil]
    exact hu
  · exact fun hw => ⟨w, [], by simp, hw, (Acc.fin hz []).2 rfl⟩
/-- What is built stays built where nodes are added. -/
theorem Built.more {G H : List Nd} {e : Ex} {nx x : Nat} (hk : ∀ (i : Nat) (d : Nd), G[i]? = some d → d ≠ Nd.hole → H[i]? = some d) (h : Built G e nx x) : Built H e nx x := by
  induction h with
  | none nt N P L nx => exact .none nt N P L nx
  | set nt N P L nx x hx => exact .set nt N P L nx x (hk _ _ hx (by simp))
  | seq0 nt N P nx => exact .seq0 nt N P nx
  | seq1 nt N P e L nx x y _ _ ih1 ih2 => exact .seq1 nt N P e L nx x y ih1 ih2
  | alt nt N P L nx x ys hx hl _ ih => exact .alt nt N P L nx x ys (hk _ _ hx (by simp)) hl ih
  | star nt N P e nx t f b ht hf _ ih => exact .star nt N P e nx t f b (hk _ _ ht (by simp)) (hk _ _ hf (by simp)) ih
  | plus nt N P e nx t f b ht hf _ ih => exact .plus nt N P e nx t f b (hk _ _ ht (by simp)) (hk _ _ hf (by simp)) ih
  | opt nt N P e nx x y hx _ ih => exact .opt nt N P e nx x y (hk _ _ hx (by simp)) ih
end Go.Proofs.YtiapefdklojhdaaDoor
namespace Go.Proofs.YtiapefdklojhdaaDoor
/-- How far each node was gone on from, which sets wait, where the end was met last. -/
structure St where
  last : Nat → Int
  wait : List Nat
  ended : Int
def St.mark (s : St) (x : Nat) (p : Int) : St := { s with last := fun y => if y = x then p else s.last y }
def St.push (s : St) (x : Nat) : St := { s with wait := s.wait ++ [x] }
mutual
def vis (G : List Nd) (p : Int) : Nat → Nat → St → Option St
  | 0, _, _ => none
  | f + 1, x, s => match G[x]? with
    | some .fin => some { s with ended := p }
    | some (.tramp y) => vis G p f y s
    | some (.set _ _ _ _) => if s.last x = p then some s else some ((s.mark x p).push x)
    | some (.fork ys) => if s.last x = p then some s else visL G p f ys (s.mark x p)
    | _ => none
def visL (G : List Nd) (p : Int) : Nat → List Nat → St → Option St
  | _, [], s => some s
  | f, y :: ys, s => match vis G p f y s with
    | some s' => visL G p f ys s'
    | none => none
end
/-- No node leads nowhere. -/
structure WF (G : List Nd) : Prop where
  fork : ∀ (x : Nat) (ys : List Nat), G[x]? = some (Nd.fork ys) → ∀ y, y ∈ ys → y < G.length
  set : ∀ (x : Nat) (nt : Bool) (N : List ByteArray) (P : List (Int × Int)) (nx : Nat), G[x]? = some (Nd.set nt N P nx) → nx < G.length
  tramp : ∀ (x y : Nat), G[x]? = some (Nd.tramp y) → ∃ ys, G[y]? = some (Nd.fork ys)
  hole : ∀ (x : Nat), G[x]? ≠ some Nd.hole
/-- How many nodes were not gone on from at the place. -/
def left (G : List Nd) (p : Int) (s : St) : Nat := ((List.range G.length).filter fun x => !decide (s.last x = p)).length
theorem left_mono (G : List Nd) (p : Int) (s s' : St) (h : ∀ x, s.last x = p → s'.last x = p) : left G p s' ≤ left G p s := by
  unfold left
  generalize List.range G.length = R
  induction R with
  | nil => simp
  | cons x R ih =>
    simp only [List.filter_cons]
    by_cases h1 : s.last x = p
    · simp [h1, h x h1, ih]
    · by_cases h2 : s'.last x = p
      · simp [h1, h2]; omega
      · simp [h1, h2, ih]
theorem left_mark (G : List Nd) (p : Int) (s : St) (x : Nat) (hx : x < G.length) (h : s.last x ≠ p) : left G p (s.mark x p) < left G p s := by
  unfold left
  have hm : x ∈ List.range G.length := List.mem_range.2 hx
  generalize List.range G.length = R at *
  induction R with
  | nil => cases hm
  | cons y R ih =>
    simp only [List.filter_cons]
    by_cases e : y = x
    · subst e
      have h0 : (s.mark y p).last y = p := by simp [St.mark]
      have h1 : (R.filter fun z => !decide ((s.mark y p).last z = p)).length ≤ (R.filter fun z => !decide (s.last z = p)).length := by
        clear ih hm
        induction R with
        | nil => simp
        | cons z R ih =>
          simp only [List.filter_cons]
          by_cases e1 : s.last z = p
          · have e2 : (s.mark y p).last z = p := by simp [St.mark]; intro _; exact e1
            simp [e1, e2, ih]
          · by_cases e2 : (s.mark y p).last z = p
            · simp [e1, e2]; omega
            · simp [e1, e2, ih]
      simp [h, h0]
      simpa using Nat.lt_succ_of_le h1
    · have hm2 : x ∈ R := by
        rcases List.mem_cons.1 hm with r | r
        · exact absurd r.symm e
        · exact r
      have e2 : (s.mark x p).last y = s.last y := by simp [St.mark, e]
      rw [e2]
      by_cases e1 : s.last y = p
      · simpa [e1] using ih hm2
      · simpa [e1] using ih hm2
/-- What a visit leaves: marks stay; waiting sets are those that were marked; the end stays met. -/
structure More (p : Int) (s s' : St) : Prop where
  last : ∀ x, s.last x = p → s'.last x = p
  ended : s.ended = p → s'.ended = p
  old : ∀ x, s'.last x ≠ p → s'.last x = s.last x
  wait : ∃ l, s'.wait = s.wait ++ l
  was : s'.ended = p ∨ s'.ended = s.ended
theorem More.refl (p : Int) (s : St) : More p s s := ⟨fun _ h => h, fun h => h, fun _ _ => rfl, ⟨[], by simp⟩, .inr rfl⟩
theorem More.trans {p : Int} {s s' s'' : St} (h : More p s s') (k : More p s' s'') : More p s s'' :=
  ⟨fun x e => k.last x (h.last x e), fun e => k.ended (h.ended e), fun x e => by
    have e1 := k.old x e
    rw [e1]
    exact h.old x (fun e2 => e (k.last x e2)), by
    obtain ⟨l, e1⟩ := h.wait
    obtain ⟨m, e2⟩ := k.wait
    exact ⟨l ++ m, by rw [e2, e1, List.append_assoc]⟩, by
    rcases k.was with e | e
    · exact .inl e
    · rcases h.was with e2 | e2
      · exact .inl (by rw [e, e2])
      · exact .inr (by rw [e, e2])⟩
theorem More.mark (p : Int) (s : St) (x : Nat) : More p s (s.mark x p) :=
  ⟨fun y e => by simp only [St.mark]; split <;> simp_all, fun e => e, fun y e => by simp only [St.mark] at e ⊢; split <;> simp_all, ⟨[], by simp [St.mark]⟩, .inr rfl⟩
theorem More.push (p : Int) (s : St) (x : Nat) : More p s (s.push x) := ⟨fun _ e => e, fun e => e, fun _ _ => rfl, ⟨[x], rfl⟩, .inr rfl⟩
theorem vis_more (G : List Nd) (p : Int) : ∀ (f : Nat), (∀ x s s', vis G p f x s = some s' → More p s s') ∧ (∀ ys s s', visL G p f ys s = some s' → More p s s') := by
  have lift : ∀ f, (∀ x s s', vis G p f x s = some s' → More p s s') → ∀ ys s s', visL G p f ys s = some s' → More p s s' := by
    intro f hf ys
    induction ys with
    | nil => intro s s' h; simp only [visL, Option.some.injEq] at h; subst h; exact More.refl p s
    | cons y ys ih =>
      intro s s' h
      simp only [visL] at h
      cases hv : vis G p f y s with
      | none => rw [hv] at h; cases h
      | some s1 => rw [hv] at h; exact (hf y s s1 hv).trans (ih s1 s' h)
  intro f
  induction f with
  | zero => exact ⟨fun x s s' h => by simp [vis] at h, lift 0 (fun x s s' h => by simp [vis] at h)⟩
  | succ f ih =>
    have h1 : ∀ x s s', vis G p (f + 1) x s = some s' → More p s s' := by
      intro x s s' h
      simp only [vis] at h
      split at h
      · cases h; exact ⟨fun _ e => e, fun _ => rfl, fun _ _ => rfl, ⟨[], by simp⟩, .inl rfl⟩
      · exact ih.1 _ _ _ h
      · split at h
        · cases h; exact More.refl p s
        · cases h; exact (More.mark p s x).trans (More.push p _ x)
      · split at h
        · cases h; exact More.refl p s
        · exact (More.mark p s x).trans (ih.2 _ _ _ h)
      · cases h
    exact ⟨h1, lift (f + 1) h1⟩
/-- With steps enough a visit ends. -/
theorem vis_ends {G : List Nd} (hG : WF G) (p : Int) : ∀ (k : Nat) (s : St), left G p s ≤ k → ∀ f, (∀ x, x < G.length → 2 * k + 2 ≤ f → ∃ s', vis G p f x s = some s') ∧ (∀ x, x < G.length → (∀ y, G[x]? ≠ some (Nd.tramp y)) → 2 * k + 1 ≤ f → ∃ s', vis G p f x s = some s') := by
  intro k
  induction k with
  | zero =>
    intro s hs
    have hall : ∀ x, x < G.length → s.last x = p := by
      intro x hx
      by_cases h : s.last x = p
      · exact h
      · exact absurd (left_mark G p s x hx h) (by omega)
    have h1 : ∀ f x, x < G.length → (∀ y, G[x]? ≠ some (Nd.tramp y)) → 1 ≤ f → ∃ s', vis G p f x s = some s' := by
      intro f x hx ht hf
      obtain ⟨f, rfl⟩ : ∃ k, f = k + 1 := ⟨f - 1, by omega⟩
      have hg : G[x]? = some G[x] := List.getElem?_eq_getElem hx
      simp only [vis]
      cases hc : G[x] with
      | fin => rw [hg, hc]; exact ⟨_, rfl⟩
      | tramp y => exact absurd (hg.trans (by rw [hc])) (ht y)
      | set nt N P nx => rw [hg, hc]; simp [hall x hx]
      | fork ys => rw [hg, hc]; simp [hall x hx]
      | hole => exact absurd (hg.trans (by rw [hc])) (hG.hole x)
    intro f
    refine ⟨fun x hx hf => ?_, fun x hx ht hf => h1 f x hx ht (by omega)⟩
    by_cases ht : ∃ y, G[x]? = some (Nd.tramp y)
    · obtain ⟨y, hy⟩ := ht
      obtain ⟨ys, hys⟩ := hG.tramp x y hy
      obtain ⟨f, rfl⟩ : ∃ k, f = k + 1 := ⟨f - 1, by omega⟩
      simp only [vis, hy]
      exact h1 f y (List.getElem?_eq_some_iff.1 hys).1 (fun z hz => by rw [hys] at hz; cases hz) (by omega)
    · exact h1 f x hx (fun y hy => ht ⟨y, hy⟩) (by omega)
  | succ k ih =>
    intro s hs
    have hL : ∀ f, 2 * k + 2 ≤ f → ∀ ys, (∀ y, y ∈ ys → y < G.length) → ∀ s, left G p s ≤ k → ∃ s', visL G p f ys s = some s' := by
      intro f hf ys
      induction ys with
      | nil => exact fun _ s _ => ⟨s, by simp [visL]⟩
      | cons y ys ihy =>
        intro hy s hs
        obtain ⟨s1, e1⟩ := (ih s hs f).1 y (hy y (by simp)) hf
        have hm := (vis_more G p f).1 y s s1 e1
        obtain ⟨s2, e2⟩ := ihy (fun z hz => hy z (by simp [hz])) s1 (Nat.le_trans (left_mono G p s s1 hm.last) hs)
        exact ⟨s2, by simp only [visL, e1]; exact e2⟩
    have h1 : ∀ f x, x < G.length → (∀ y, G[x]? ≠ some (Nd.tramp y)) → 2 * (k + 1) + 1 ≤ f → ∃ s', vis G p f x s = some s' := by
      intro f x hx ht hf
      obtain ⟨f, rfl⟩ : ∃ k, f = k + 1 := ⟨f - 1, by omega⟩
      have hg : G[x]? = some G[x] := List.getElem?_eq_getElem hx
      simp only [vis]
      cases hc : G[x] with
      | fin => rw [hg, hc]; exact ⟨_, rfl⟩
      | tramp y => exact absurd (hg.trans (by rw [hc])) (ht y)
      | set nt N P nx =>
        rw [hg, hc]
        by_cases e : s.last x = p
        · simp [e]
        · simp [e]
      | fork ys =>
        rw [hg, hc]
        by_cases e : s.last x = p
        · simp [e]
        · have := left_mark G p s x hx e
          obtain ⟨s2, e2⟩ := hL f (by omega) ys (hG.fork x ys (hg.trans (by rw [hc]))) (s.mark x p) (by omega)
          simp only [e, if_false]
          exact ⟨s2, e2⟩
      | hole => exact absurd (hg.trans (by rw [hc])) (hG.hole x)
    intro f
    refine ⟨fun x hx hf => ?_, fun x hx ht hf => h1 f x hx ht (by omega)⟩
    by_cases ht : ∃ y, G[x]? = some (Nd.tramp y)
    · obtain ⟨y, hy⟩ := ht
      obtain ⟨ys, hys⟩ := hG.tramp x y hy
      obtain ⟨f, rfl⟩ : ∃ k, f = k + 1 := ⟨f - 1, by omega⟩
      simp only [vis, hy]
      exact h1 f y (List.getElem?_eq_some_iff.1 hys).1 (fun z hz => by rw [hys] at hz; cases hz) (by omega)
    · exact h1 f x hx (fun y hy => ht ⟨y, hy⟩) (by omega)
theorem left_le (G : List Nd) (p : Int) (s : St) : left G p s ≤ G.length := by
  unfold left
  exact Nat.le_trans (List.length_filter_le _ _) (by simp)
theorem vis_total {G : List Nd} (hG : WF G) (p : Int) (s : St) (x : Nat) (hx : x < G.length) : ∃ s', vis G p (2 * G.length + 2) x s = some s' :=
  (vis_ends hG p G.length s (left_le G p s) _).1 x hx (Nat.le_refl _)
end Go.Proofs.YtiapefdklojhdaaDoor
namespace Go.Proofs.YtiapefdklojhdaaDoor
open Go.RowKit Go.Shelf
def ptr (b : Nat) : Value := .pointer (some ⟨b, 0, none⟩)
def row (w : World) (b : Nat) (v : Value) (t : TypeId) : Prop := w.heap[b]? = some (.cells #[v] t (0, 0))
/-- What a graph of ways is made of: each node's value, where it writes how far it came, the lists of its set. -/
structure Lay where
  val : Nat → Value
  last : Nat → Nat
  nm : Nat → Value
  pt : Nat → Value
def finV (R : Nat) : Value := .func (.func 54) #[] #[ptr R]
def onceV (l o : Nat) : Value := .func (.func 78) #[] #[ptr l, ptr o]
def trampV (b : Nat) : Value := .func (.func 81) #[] #[ptr b]
def setF (r e n : Nat) : Value := .func (.func 66) #[] #[ptr r, ptr e, ptr n]
def forkF (b : Nat) : Value := .func (.func 80) #[] #[ptr b]
/-- A list of ways. -/
structure WA (w : World) (F : Nat → Prop) (v : Value) (l : List Value) : Prop where
  form : ∃ a cap, v = .slice a l.length cap ∧ ∀ k (h : k < l.length), ∃ b off cur, a = some ⟨b, off, none⟩ ∧ F b ∧ w.heap[b]? = some (.cells cur 90 (0, 0)) ∧ cur[off + k]? = some l[k]
/-- A node in memory. -/
inductive NodeIn (w : World) (base R : Nat) (Y : Lay) (F : Nat → Prop) (i : Nat) (l : Int) : Nd → Prop
  | fin : Y.val i = finV R → NodeIn w base R Y F i l .fin
  | set (nt : Bool) (N : List ByteArray) (P : List (Int × Int)) (nx o r e n : Nat) (k z : Value) : Y.val i = onceV (Y.last i) o → base ≤ Y.last i → row w (Y.last i) (.int .i64 l) 3 → row w o (setF r e n) 90 →
      row w r (ptr R) 101 → w.heap[e]? = some (.cells #[k, .bool nt, Y.nm i, Y.pt i, z] 28 (0, 0)) → row w n (Y.val nx) 90 → F o ∧ F r ∧ F e ∧ F n → NodeIn w base R Y F i l (.set nt N P nx)
  | fork (ys : List Nat) (o b : Nat) (v : Value) : Y.val i = onceV (Y.last i) o → base ≤ Y.last i → row w (Y.last i) (.int .i64 l) 3 → row w o (forkF b) 90 →
      row w b v 109 → WA w F v (ys.map Y.val) → F o ∧ F b → NodeIn w base R Y F i l (.fork ys)
  | tramp (y b : Nat) : Y.val i = trampV b → base ≤ b → row w b (Y.val y) 90 → F b → NodeIn w base R Y F i l (.tramp y)
  | hole (b : Nat) : Y.val i = trampV b → base ≤ b → row w b .nilFunc 90 → F b → NodeIn w base R Y F i l .hole
def Nd.once : Nd → Bool | .set _ _ _ _ => true | .fork _ => true | _ => false
/-- What is written while ways are gone: numbers, the reading, lists of steps. -/
structure Kp (base : Nat) (w w' : World) : Prop where
  bel : Below base w w'
  rows : ∀ (b : Nat) c t z, w.heap[b]? = some (.cells c t z) → t ≠ 3 → t ≠ 88 → t ≠ 104 → w'.heap[b]? = some (.cells c t z)
theorem Kp.refl (base : Nat) (w : World) : Kp base w w := ⟨Below.refl _ _, fun _ _ _ _ h _ _ _ => h⟩
theorem Kp.trans {base : Nat} {a b c : World} (h : Kp base a b) (k : Kp base b c) : Kp base a c := ⟨h.bel.trans k.bel, fun i x t z e h1 h2 h3 => k.rows i x t z (h.rows i x t z e h1 h2 h3) h1 h2 h3⟩
theorem Kp.ofBelow {base : Nat} {w w' : World} (h : Below w.heap.size w w') (hb : base ≤ w.heap.size) : Kp base w w' :=
  ⟨h.mono hb, fun b _ _ _ e _ _ _ => (h.block b (Array.getElem?_eq_some_iff.1 e).1).trans e⟩
theorem WA.kp {w w' : World} {F : Nat → Prop} {v : Value} {l : List Value} (h : WA w F v l) (k : ∀ (b : Nat) c z, F b → w.heap[b]? = some (.cells c 90 z) → w'.heap[b]? = some (.cells c 90 z)) : WA w' F v l := by
  obtain ⟨a, cap, e, h⟩ := h.form
  exact ⟨a, cap, e, fun i hi => by
    obtain ⟨b, off, cur, e1, e2, e3, e4⟩ := h i hi
    exact ⟨b, off, cur, e1, e2, k b _ _ e2 e3, e4⟩⟩
/-- A node stays as it is where the rows that it is made of stay, and its number is told. -/
theorem NodeIn.kp {w w' : World} {base R : Nat} {Y : Lay} {F : Nat → Prop} {i : Nat} {l l' : Int} {d : Nd} (h : NodeIn w base R Y F i l d) (k : ∀ (b : Nat) c t z, F b → w.heap[b]? = some (.cells c t z) → t ≠ 3 → t ≠ 88 → t ≠ 104 → w'.heap[b]? = some (.cells c t z))
    (hl : d.once = true → row w' (Y.last i) (.int .i64 l') 3) : NodeIn w' base R Y F i l' d := by
  cases h with
  | fin h => exact .fin h
  | set nt N P nx o r e n k' z h1 h2 h3 h4 h5 h6 h7 hF =>
    exact .set nt N P nx o r e n k' z h1 h2 (hl rfl) (k _ _ _ _ hF.1 h4 (by decide) (by decide) (by decide)) (k _ _ _ _ hF.2.1 h5 (by decide) (by decide) (by decide)) (k _ _ _ _ hF.2.2.1 h6 (by decide) (by decide) (by decide)) (k _ _ _ _ hF.2.2.2 h7 (by decide) (by decide) (by decide)) hF
  | fork ys o b v h1 h2 h3 h4 h5 h6 hF =>
    exact .fork ys o b v h1 h2 (hl rfl) (k _ _ _ _ hF.1 h4 (by decide) (by decide) (by decide)) (k _ _ _ _ hF.2 h5 (by decide) (by decide) (by decide)) (h6.kp (fun b c z hb e => k b c _ z hb e (by decide) (by decide) (by decide))) hF
  | tramp y b h1 h2 h3 hF => exact .tramp y b h1 h2 (k _ _ _ _ hF h3 (by decide) (by decide) (by decide)) hF
  | hole b h1 h2 h3 hF => exact .hole b h1 h2 (k _ _ _ _ hF h3 (by decide) (by decide) (by decide)) hF
theorem NodeIn.mono {w : World} {base R : Nat} {Y : Lay} {F F' : Nat → Prop} {i : Nat} {l : Int} {d : Nd} (h : NodeIn w base R Y F i l d) (hm : ∀ b, b < w.heap.size → F b → F' b) : NodeIn w base R Y F' i l d := by
  have lt : ∀ {b : Nat} {o : Obj}, w.heap[b]? = some o → b < w.heap.size := fun {b} {_} e => (Array.getElem?_eq_some_iff.1 e).1
  cases h with
  | fin h => exact .fin h
  | set nt N P nx o r e n k' z h1 h2 h3 h4 h5 h6 h7 hF => exact .set nt N P nx o r e n k' z h1 h2 h3 h4 h5 h6 h7 ⟨hm _ (lt h4) hF.1, hm _ (lt h5) hF.2.1, hm _ (lt h6) hF.2.2.1, hm _ (lt h7) hF.2.2.2⟩
  | fork ys o b v h1 h2 h3 h4 h5 h6 hF =>
    refine .fork ys o b v h1 h2 h3 h4 h5 ?_ ⟨hm _ (lt h4) hF.1, hm _ (lt h5) hF.2⟩
    obtain ⟨a, cap, e, h⟩ := h6.form
    exact ⟨a, cap, e, fun i hi => by
      obtain ⟨b, off, cur, e1, e2, e3, e4⟩ := h i hi
      exact ⟨b, off, cur, e1, hm _ (lt e3) e2, e3, e4⟩⟩
  | tramp y b h1 h2 h3 hF => exact .tramp y b h1 h2 h3 (hm _ (lt h3) hF)
  | hole b h1 h2 h3 hF => exact .hole b h1 h2 h3 (hm _ (lt h3) hF)
theorem NodeIn.lastRow {w : World} {base R : Nat} {Y : Lay} {F : Nat → Prop} {i : Nat} {l : Int} {d : Nd} (h : NodeIn w base R Y F i l d) (hd : d.once = true) : base ≤ Y.last i ∧ row w (Y.last i) (.int .i64 l) 3 := by
  cases h with
  | set nt N P nx o r e n k' z h1 h2 h3 => exact ⟨h2, h3⟩
  | fork ys o b v h1 h2 h3 => exact ⟨h2, h3⟩
  | fin => cases hd
  | tramp => cases hd
  | hole => cases hd
/-- A set's lists in memory, below the base. -/
structure SetIn (w : World) (base : Nat) (Y : Lay) (i : Nat) (N : List ByteArray) (P : List (Int × Int)) : Prop where
  is : ∃ a ca b cb, Y.nm i = .slice a N.length ca ∧ Y.pt i = .slice b P.length cb ∧ SQ w (fun g => g < base) a N ∧ RQ w (fun g => g < base) b P
  lN : N.length ≤ 1000000000
  lP : P.length ≤ 1000000000
theorem SetIn.below {w w' : World} {base : Nat} {Y : Lay} {i : Nat} {N : List ByteArray} {P : List (Int × Int)} (h : SetIn w base Y i N P) (k : Below base w w') : SetIn w' base Y i N P := by
  obtain ⟨a, ca, b, cb, e1, e2, h1, h2⟩ := h.is
  exact ⟨⟨a, ca, b, cb, e1, e2, h1.keeps (Keeps.ofBelow k), h2.keeps (Keeps.ofBelow k)⟩, h.lN, h.lP⟩
theorem NodeIn.func {w : World} {base R : Nat} {Y : Lay} {F : Nat → Prop} {i : Nat} {l : Int} {d : Nd} (h : NodeIn w base R Y F i l d) : ∃ f x y, Y.val i = .func f x y := by
  cases h with
  | fin h => exact ⟨_, _, _, h⟩
  | set nt N P nx o r e n k' z h1 => exact ⟨_, _, _, h1⟩
  | fork ys o b v h1 => exact ⟨_, _, _, h1⟩
  | tramp y b h1 => exact ⟨_, _, _, h1⟩
  | hole b h1 => exact ⟨_, _, _, h1⟩
/-- All nodes in memory, each with a number of its own. -/
structure GIn (w : World) (base R : Nat) (Y : Lay) (F : Nat → Nat → Prop) (G : List Nd) (last : Nat → Int) : Prop where
  node : ∀ (i : Nat) (d : Nd), G[i]? = some d → NodeIn w base R Y (F i) i (last i) d
  inj : ∀ (i j : Nat) (d e : Nd), G[i]? = some d → G[j]? = some e → d.once = true → e.once = true → Y.last i = Y.last j → i = j
  sets : ∀ (i : Nat) (nt : Bool) (N : List ByteArray) (P : List (Int × Int)) (nx : Nat), G[i]? = some (Nd.set nt N P nx) → SetIn w base Y i N P
theorem GIn.kp {w w' : World} {base R : Nat} {Y : Lay} {F : Nat → Nat → Prop} {G : List Nd} {last last' : Nat → Int} (h : GIn w base R Y F G last) (k : Kp base w w')
    (hl : ∀ (i : Nat) (d : Nd), G[i]? = some d → d.once = true → row w' (Y.last i) (.int .i64 (last' i)) 3) : GIn w' base R Y F G last' :=
  ⟨fun i d hi => (h.node i d hi).kp (fun b c t z _ => k.rows b c t z) (fun hd => hl i d hi hd), h.inj, fun i nt N P nx hi => (h.sets i nt N P nx hi).below k.bel⟩
/-- The four cells of a step that waits for a set. -/
def stepC (Y : Lay) (G : List Nd) (i : Nat) : List Value := match G[i]? with
  | some (.set nt _ _ nx) => [.bool nt, Y.nm i, Y.pt i, Y.val nx]
  | _ => []
/-- The reading in memory: what waits, what waited, where the end was met. -/
structure RIn (w : World) (base R : Nat) (Y : Lay) (G : List Nd) (wait waited : List Nat) (u : Value) (ended : Int) : Prop where
  is : ∃ v, w.heap[R]? = some (.cells #[v, u, .int .i64 ended] 88 (0, 0)) ∧ w.ownsRow base 104 4 v wait.length (wait.flatMap (stepC Y G)) ∧ w.ownsRow base 104 4 u waited.length (waited.flatMap (stepC Y G)) ∧ (∀ g, v.ownBlock = some g → u.ownBlock ≠ some g)
  low : base ≤ R
end Go.Proofs.YtiapefdklojhdaaDoor
namespace Go.Proofs.YtiapefdklojhdaaDoor
open Go.RowKit
section
variable {P : Program} {ops : Array Oper} {Q : Exit → Act → World → Prop} {md : Region.Mode} {S : World → Prop}
/-- An operation that yields a value is taken first. -/
theorem tkV {i : Nat} {oi : Oper} {d : Option Tmp} {v : Value} {fuel : Nat} {listed : Array Bool} {a : Act} {w : World} (hi : ops[i]? = some oi)
    (hs : Region.noSelect ops = true) (hf : Region.free md ops listed i = true) (hr : (Region.ready md ops listed).contains i = true) (hd : oi.dst = d)
    (hQ : ∀ c a w, Q (.panic c) (a.put d v) w → Q (.panic c) a w) (hw : Region.wanted oi (yielded ops a.tmps) = true) (hv : ∀ w, S w → (execOp a.eval oi).run P w = .ok (.value v) w) (hS : S w)
    (h : wpAnyH P md ops Q S fuel (listed.setIfInBounds i true) (a.put d v) w) : wpAnyH P md ops Q S (fuel + 1) listed a w := by
  subst hd
  exact wpAnyH_take hi hs hf hr hQ (.inl ⟨hw, hv⟩) hS h
/-- One that is not wanted. -/
theorem tkU {i : Nat} {oi : Oper} {d : Option Tmp} {fuel : Nat} {listed : Array Bool} {a : Act} {w : World} (hi : ops[i]? = some oi)
    (hs : Region.noSelect ops = true) (hf : Region.free md ops listed i = true) (hr : (Region.ready md ops listed).contains i = true) (hd : oi.dst = d)
    (hQ : ∀ c a w, Q (.panic c) (a.put d undef) w → Q (.panic c) a w) (hw : Region.wanted oi (yielded ops a.tmps) = false) (hS : S w)
    (h : wpAnyH P md ops Q S fuel (listed.setIfInBounds i true) (a.put d undef) w) : wpAnyH P md ops Q S (fuel + 1) listed a w := by
  subst hd
  exact wpAnyH_take hi hs hf hr hQ (.inr ⟨hw, rfl⟩) hS h
end
end Go.Proofs.YtiapefdklojhdaaDoor
namespace Go.Proofs.YtiapefdklojhdaaDoor
open Go.RowKit Go.Shelf
theorem lt_of_row {W : World} {k : Nat} {o : Obj} (h : W.heap[k]? = some o) : k < W.heap.size := (Array.getElem?_eq_some_iff.1 h).1
theorem own_blk {W W' : World} {lo t s n : Nat} {v : Value} {xs : List Value} (h : W.ownsRow lo t s v n xs) (hb : ∀ k, v.ownBlock = some k → W'.heap[k]? = W.heap[k]?) : W'.ownsRow lo t s v n xs := by
  refine ⟨h.1, ?_⟩
  rcases h.2 with h2 | ⟨g, cap, cur0, hv, hg, hr, r⟩
  · exact .inl h2
  · exact .inr ⟨g, cap, cur0, hv, hg, (hb g (by rw [hv]; rfl)).trans hr, r⟩
theorem own_type {W : World} {lo t s n : Nat} {v : Value} {xs : List Value} (h : W.ownsRow lo t s v n xs) (k : Nat) (hk : v.ownBlock = some k) : ∃ c, W.heap[k]? = some (.cells c t (0, 0)) ∧ lo ≤ k := by
  rcases h.2 with ⟨rfl, _⟩ | ⟨g, cap, cur0, rfl, hg, hr, _⟩
  · cases hk
  · cases hk; exact ⟨cur0, hr, hg⟩
/-- The nodes and the reading, as a state says. -/
structure SIn (w : World) (base R : Nat) (Y : Lay) (G : List Nd) (waited : List Nat) (u : Value) (s : St) : Prop where
  g : GIn w base R Y (fun _ _ => True) G s.last
  r : RIn w base R Y G s.wait waited u s.ended
def Vp (base R : Nat) (Y : Lay) (G : List Nd) (waited : List Nat) (u : Value) (w : World) (s' : St) (e : Ending) (w' : World) : Prop := e = .returned (.tuple #[]) ∧ SIn w' base R Y G waited u s' ∧ Kp base w w'
/-- A way is gone from a place. -/
def CallV (v : Value) (p : Int) (w : World) (Q : Ending → World → Prop) : Prop :=
  (∃ b, v = finV b ∧ Calls Tryd.prog 54 #[.int .i64 p, .pointer (some ⟨b, 0, none⟩)] w Q) ∨
  (∃ l o, v = onceV l o ∧ Calls Tryd.prog 78 #[.int .i64 p, .pointer (some ⟨l, 0, none⟩), .pointer (some ⟨o, 0, none⟩)] w Q) ∨
  (∃ b, v = trampV b ∧ Calls Tryd.prog 81 #[.int .i64 p, .pointer (some ⟨b, 0, none⟩)] w Q)
theorem CallV.mono {v : Value} {p : Int} {w : World} {Q Q' : Ending → World → Prop} (h : CallV v p w Q) (k : ∀ e w', Q e w' → Q' e w') : CallV v p w Q' := by
  rcases h with ⟨b, e, h⟩ | ⟨l, o, e, h⟩ | ⟨b, e, h⟩
  · exact .inl ⟨b, e, h.mono k⟩
  · exact .inr (.inl ⟨l, o, e, h.mono k⟩)
  · exact .inr (.inr ⟨b, e, h.mono k⟩)
set_option maxRecDepth 10000 in
theorem fin1 (p : Int) (R : Nat) (v u : Value) (n : Int) (w : World) (hR : w.heap[R]? = some (.cells #[v, u, .int .i64 n] 88 (0, 0))) :
    Calls Tryd.prog 54 #[.int .i64 p, .pointer (some ⟨R, 0, none⟩)] w fun e w' => e = .returned (.tuple #[]) ∧ w' = w.setCell ⟨R, 2, none⟩ (.int .i64 p) := by
  have c2 : w.cell? ⟨R, 2, none⟩ = some (.int .i64 n) := by rw [cell_of_row _ _ _ _ _ _ hR]; rfl
  have f2 : w.frozen? ⟨R, 2, none⟩ = false := frozen_of_row _ _ _ _ _ hR
  clear hR
  go_enter Tryd.func54, Tryd.ntmps54
  go_wp2
  go_end0
  exact ⟨rfl, rfl⟩
theorem kp_setR {base R : Nat} {w : World} {c : Array Value} (hR : w.heap[R]? = some (.cells c 88 (0, 0))) (hb : base ≤ R) (j : Nat) (x : Value) : Kp base w (w.setCell ⟨R, j, none⟩ x) :=
  ⟨(Below.refl base w).setCell (p := ⟨R, j, none⟩) hb _, fun b c' t z e h1 h2 h3 => (Below.heap_setCell w _ x b (by
    intro hb
    simp only at hb
    subst hb
    rw [hR] at e
    cases e
    exact h2 rfl)).trans e⟩
theorem row_setR {R b : Nat} {w : World} {c c' : Array Value} {t : TypeId} {z : Nat × Nat} (hR : w.heap[R]? = some (.cells c 88 (0, 0))) (j : Nat) (x : Value) (e : w.heap[b]? = some (.cells c' t z)) (ht : t ≠ 88) : (w.setCell ⟨R, j, none⟩ x).heap[b]? = some (.cells c' t z) :=
  (Below.heap_setCell w _ x b (by
    intro hb
    simp only at hb
    subst hb
    rw [hR] at e
    cases e
    exact ht rfl)).trans e
theorem own_setR {R lo s n : Nat} {w : World} {c : Array Value} {v : Value} {xs : List Value} (hR : w.heap[R]? = some (.cells c 88 (0, 0))) (j : Nat) (x : Value) (h : w.ownsRow lo 104 s v n xs) : (w.setCell ⟨R, j, none⟩ x).ownsRow lo 104 s v n xs :=
  own_blk h (fun k hk => by
    obtain ⟨c', e, _⟩ := own_type h k hk
    rw [row_setR hR j x e (by decide), e])
/-- The end is met. -/
theorem fin_any {base R : Nat} {Y : Lay} {G : List Nd} {waited : List Nat} {u : Value} {s : St} (p : Int) (w : World) (h : SIn w base R Y G waited u s) :
    Calls Tryd.prog 54 #[.int .i64 p, .pointer (some ⟨R, 0, none⟩)] w (Vp base R Y G waited u w { s with ended := p }) := by
  obtain ⟨v, hR, hv, hu, hd⟩ := h.r.is
  refine (fin1 p R v u s.ended w hR).mono ?_
  rintro e w' ⟨rfl, rfl⟩
  have k := kp_setR (base := base) hR h.r.low 2 (.int .i64 p)
  exact ⟨rfl, ⟨h.g.kp k (fun i d hi hd' => row_setR hR 2 _ (NodeIn.lastRow (h.g.node i d hi) hd').2 (by decide)), ⟨⟨v, heap_setCell_same _ R 2 _ _ _ hR, own_setR hR 2 _ hv, own_setR hR 2 _ hu, hd⟩, h.r.low⟩⟩, k⟩
theorem infoStep : (Tryd.prog.info? 104).map (fun i => (i.zero, i.size, i.bytes)) = some (some (.agg #[.bool false, .slice none 0 0, .slice none 0 0, .nilFunc]), 4, 64) := by kernel_rfl
theorem cell4_new (w : World) (a b c d : Value) (t : TypeId) : ∀ j u, [a, b, c, d][j]? = some u → (w.alloc (.cells #[a, b, c, d] t)).cell? ((⟨w.heap.size, 0, none⟩ : Addr).add j) = some u := by
  intro j u h
  rw [Addr.add_mid, cell_of_row _ _ _ _ _ _ (heap_alloc_new w _)]
  simpa using h
theorem step_append_own_at {P : Program} {ops : Array Oper} {o : Oper} {a : Act} {w : World} {K : Act → World → Prop} {Q : Exit → Act → World → Prop} {E : Prop} (hg : o.guard = none) (s x : Operand) (t : TypeId)
    (ho : o.op = .call { callee := .builtin .append, args := #[s, x], argTypes := #[t, t] })
    (base : Nat) (e : TypeId) (i : TypeInfo) (z : Value) (size bytes : Nat) (ht : P.underlying t = some (.slice e)) (hi : P.info? e = some i) (hz : i.zero = some z)
    (hsize : i.size = size) (hby : i.bytes = bytes) (hzs : z.cells.size = size) (hsz : 0 < size)
    (v : Value) (n : Nat) (xs : List Value) (hs : a.eval s = v) (hown : w.ownsRow base e size v n xs)
    (ad : Addr) (m c : Nat) (news : List Value) (hx : a.eval x = .slice (some ad) m c) (hl : news.length = m * size) (hnews : ∀ j u, news[j]? = some u → w.cell? (ad.add j) = some u) (h1 : ∀ u ∈ news, u.oneCell' = true)
    (h63 : n + m ≤ maxLen) (hbytes : (n + m) * bytes ≤ 140737488355328) (hbase : base ≤ w.heap.size)
    (h : ∀ v' w', w'.ownsRow base e size v' (n + m) (xs ++ news) → w.grownBy w' v.ownBlock → (v'.ownBlock = v.ownBlock ∨ v'.ownBlock = some w.heap.size) → K (a.put o.dst v') w') :
    if Region.wanted o (yielded ops a.tmps) = true then Oper.wp P o a w K Q else E := by
  have hw : Region.wanted o (yielded ops a.tmps) = true := by simp [Region.wanted, hg]
  rw [if_pos hw]
  obtain ⟨v', w', hr, h2, h3, _, h5⟩ := run_append_own_at (P := P) w base t o.type e i z size bytes ht hi hz hsize hby hzs hsz v n xs hown ad m c news hl hnews h1 h63 hbytes hbase
  unfold Oper.wp execOp
  simp only [ho, resolve, invoke, builtin, Sem.run_bind, Sem.run_pure, Result.andThen_ok, List.map_toArray, List.map_cons, List.map_nil, hs, hx, hr]
  exact h v' w' h2 h3 h5
/-- What a set that waits leaves. -/
structure Waits (base R : Nat) (w w' : World) (n : Nat) (xs ys : List Value) (u : Value) (en : Int) : Prop where
  is : ∃ v', w'.heap[R]? = some (.cells #[v', u, .int .i64 en] 88 (0, 0)) ∧ w'.ownsRow base 104 4 v' (n + 1) (xs ++ ys) ∧ (∀ g, v'.ownBlock = some g → u.ownBlock ≠ some g)
  bel : Below base w w'
  rows : ∀ (b : Nat) c t z, w.heap[b]? = some (.cells c t z) → t ≠ 88 → (t = 104 → u.ownBlock = some b) → w'.heap[b]? = some (.cells c t z)
theorem waits_of {base R n : Nat} {w w0 w1 : World} {v u v' : Value} {xs ys : List Value} {en : Int} (hb : base ≤ R) (hR : w.heap[R]? = some (.cells #[v, u, .int .i64 en] 88 (0, 0))) (hv : w.ownsRow base 104 4 v n xs) (hu : ∀ g, v.ownBlock = some g → u.ownBlock ≠ some g) (hul : ∀ g, u.ownBlock = some g → g < w.heap.size)
    (h0 : Below w.heap.size w w0) (hs : w0.heap.size = w.heap.size + 1) (hown : w1.ownsRow base 104 4 v' (n + 1) (xs ++ ys)) (hg : w0.grownBy w1 v.ownBlock) (hat : v'.ownBlock = v.ownBlock ∨ v'.ownBlock = some w0.heap.size) : Waits base R w (w1.setCell ⟨R, 0, none⟩ v') n xs ys u en := by
  have hRl := lt_of_row hR
  have hne : ∀ (b : Nat) c t z, w.heap[b]? = some (.cells c t z) → t ≠ 104 → some b ≠ v.ownBlock := fun b c t z e ht hq => by
    obtain ⟨c', e', _⟩ := own_type hv b hq.symm
    rw [e] at e'
    cases e'
    exact ht rfl
  have hk : ∀ (b : Nat), b < w.heap.size → some b ≠ v.ownBlock → w1.heap[b]? = w.heap[b]? := fun b hl hn => (hg.block b (by omega) hn).trans (h0.block b hl)
  have hR1 : w1.heap[R]? = some (.cells #[v, u, .int .i64 en] 88 (0, 0)) := (hk R hRl (hne R _ _ _ hR (by decide))).trans hR
  have hb1 : Below base w w1 := ⟨hg.os.trans h0.os, hg.tape.trans h0.tape, hg.output.trans h0.output, by have := hg.size; omega, fun b hl => hk b (by omega) (fun hq => by
    obtain ⟨_, _, hlo⟩ := own_type hv b hq.symm
    omega)⟩
  refine ⟨⟨v', heap_setCell_same _ R 0 _ _ _ hR1, own_setR hR1 0 _ hown, fun g e1 e2 => ?_⟩, hb1.setCell (p := ⟨R, 0, none⟩) hb _, fun b c t z e h1 h2 => ?_⟩
  · rcases hat with h | h
    · exact hu g (h.symm.trans e1) e2
    · rw [h] at e1
      cases e1
      have := hul _ e2
      omega
  · refine row_setR hR1 0 _ ((hk b (lt_of_row e) (fun hq => ?_)).trans e) h1
    obtain ⟨c', e', _⟩ := own_type hv b hq.symm
    rw [e] at e'
    cases e'
    exact hu b hq.symm (h2 rfl)
theorem rowR_grown {base R n : Nat} {w w0 w1 : World} {v : Value} {xs : List Value} {c : Array Value} (hR : w.heap[R]? = some (.cells c 88 (0, 0))) (hv : w.ownsRow base 104 4 v n xs)
    (h0 : Below w.heap.size w w0) (hg : w0.grownBy w1 v.ownBlock) : w1.heap[R]? = some (.cells c 88 (0, 0)) :=
  (hg.block R (Nat.lt_of_lt_of_le (lt_of_row hR) h0.size) (fun hq => by
    obtain ⟨c', e', _⟩ := own_type hv R hq.symm
    rw [hR] at e'
    cases e')).trans ((h0.block R (lt_of_row hR)).trans hR)
theorem rows_grown {base n : Nat} {w w0 w1 : World} {v : Value} {xs : List Value} (hv : w.ownsRow base 104 4 v n xs) (h0 : Below w.heap.size w w0) (hg : w0.grownBy w1 v.ownBlock) :
    ∀ (b : Nat) c t z, w.heap[b]? = some (.cells c t z) → t ≠ 88 → t ≠ 104 → w1.heap[b]? = some (.cells c t z) := fun b c t z e _ h2 =>
  (hg.block b (Nat.lt_of_lt_of_le (lt_of_row e) h0.size) (fun hq => by
    obtain ⟨c', e', _⟩ := own_type hv b hq.symm
    rw [e] at e'
    cases e'
    exact h2 rfl)).trans ((h0.block b (lt_of_row e)).trans e)
set_option maxRecDepth 10000 in
set_option maxHeartbeats 1600000 in
theorem set1 (p : Int) (base R r e n cn : Nat) (a1 a2 : Option Addr) (n1 c1 n2 c2 : Nat) (nt : Bool) (k z : Value) (fn : Fn) (fx fy : Array Value) (v u : Value) (en : Int) (xs : List Value) (w : World) (hcn : cn ≤ 1000000)
    (hb : base ≤ R) (hR : w.heap[R]? = some (.cells #[v, u, .int .i64 en] 88 (0, 0))) (hv : w.ownsRow base 104 4 v cn xs) (hu : ∀ g, v.ownBlock = some g → u.ownBlock ≠ some g) (hul : ∀ g, u.ownBlock = some g → g < w.heap.size)
    (hr : row w r (ptr R) 101) (he : w.heap[e]? = some (.cells #[k, .bool nt, .slice a1 n1 c1, .slice a2 n2 c2, z] 28 (0, 0))) (hn : row w n (.func fn fx fy) 90) :
    Calls Tryd.prog 66 #[.int .i64 p, .pointer (some ⟨r, 0, none⟩), .pointer (some ⟨e, 0, none⟩), .pointer (some ⟨n, 0, none⟩)] w fun e w' => e = .returned (.tuple #[]) ∧ Waits base R w w' cn xs [.bool nt, .slice a1 n1 c1, .slice a2 n2 c2, .func fn fx fy] u en := by
  obtain ⟨i0, hi, hz0, hz1, hz2⟩ := info_parts infoStep
  have hRl := lt_of_row hR
  unfold row ptr at hr
  unfold row at hn
  have c_r : w.cell? ⟨r, 0, none⟩ = some (.pointer (some ⟨R, 0, none⟩)) := by rw [cell_of_row _ _ _ _ _ _ hr]; rfl
  have c_1 : w.cell? ⟨e, 1, none⟩ = some (.bool nt) := by rw [cell_of_row _ _ _ _ _ _ he]; rfl
  have c_2 : w.cell? ⟨e, 2, none⟩ = some (.slice a1 n1 c1) := by rw [cell_of_row _ _ _ _ _ _ he]; rfl
  have c_3 : w.cell? ⟨e, 3, none⟩ = some (.slice a2 n2 c2) := by rw [cell_of_row _ _ _ _ _ _ he]; rfl
  have c_n : w.cell? ⟨n, 0, none⟩ = some (.func fn fx fy) := by rw [cell_of_row _ _ _ _ _ _ hn]; rfl
  have c_R : w.cell? ⟨R, 0, none⟩ = some v := by rw [cell_of_row _ _ _ _ _ _ hR]; rfl
  have f_R : w.frozen? ⟨R, 0, none⟩ = false := frozen_of_row _ _ _ _ _ hR
  have hvs : ∃ av cv, v = .slice av cn cv := by
    rcases hv.2 with ⟨rfl, rfl⟩ | ⟨g, cap, cur, rfl, _⟩
    · exact ⟨none, 0, rfl⟩
    · exact ⟨_, _, rfl⟩
  obtain ⟨av, cv, rfl⟩ := hvs
  have HSo : Hid (∀ (W : World), (∀ (b : Nat) c t z, w.heap[b]? = some (.cells c t z) → t ≠ 88 → t ≠ 104 → W.heap[b]? = some (.cells c t z)) →
      W.cell? ⟨r, 0, none⟩ = some (.pointer (some ⟨R, 0, none⟩)) ∧ W.cell? ⟨e, 1, none⟩ = some (.bool nt) ∧ W.cell? ⟨e, 2, none⟩ = some (.slice a1 n1 c1) ∧ W.cell? ⟨e, 3, none⟩ = some (.slice a2 n2 c2) ∧ W.cell? ⟨n, 0, none⟩ = some (.func fn fx fy)) := hid0 (fun W hW =>
    ⟨by rw [cell_of_row _ _ _ _ _ _ (hW _ _ _ _ hr (by decide) (by decide))]; rfl, by rw [cell_of_row _ _ _ _ _ _ (hW _ _ _ _ he (by decide) (by decide))]; rfl, by rw [cell_of_row _ _ _ _ _ _ (hW _ _ _ _ he (by decide) (by decide))]; rfl, by rw [cell_of_row _ _ _ _ _ _ (hW _ _ _ _ he (by decide) (by decide))]; rfl, by rw [cell_of_row _ _ _ _ _ _ (hW _ _ _ _ hn (by decide) (by decide))]; rfl⟩)
  have HK0 : Hid (∀ (b : Nat) c t z, w.heap[b]? = some (.cells c t z) → t ≠ 88 → t ≠ 104 → w.drew.heap[b]? = some (.cells c t z)) := hid0 (fun b c t z h _ _ => h)
  have HKa : Hid (∀ (o : Obj), ∀ (b : Nat) c t z, w.heap[b]? = some (.cells c t z) → t ≠ 88 → t ≠ 104 → (w.drew.alloc o).heap[b]? = some (.cells c t z)) := hid0 (fun o b c t z h _ _ => (Below.heap_alloc _ _ b (lt_of_row h)).trans h)
  have c_RA : ∀ (o : Obj), (w.drew.alloc o).cell? ⟨R, 0, none⟩ = some (.slice av cn cv) := fun o => by rw [cell_of_row (w.drew.alloc o) _ _ _ _ _ ((Below.heap_alloc w.drew o R hRl).trans hR)]; rfl
  have HV := hid0 hv
  have HR := hid0 hR
  have HU := hid0 hu
  have HUL := hid0 hul
  have HRL := hid0 hRl
  clear hv hR hu hul hr he hn c_r c_1 c_2 c_3 c_n
  go_enter Tryd.func66, Tryd.ntmps66
  refine wp_region_held_drew (S := (fun W => W.cell? ⟨r, 0, none⟩ = some (.pointer (some ⟨R, 0, none⟩)) ∧ W.cell? ⟨e, 1, none⟩ = some (.bool nt) ∧ W.cell? ⟨e, 2, none⟩ = some (.slice a1 n1 c1) ∧ W.cell? ⟨e, 3, none⟩ = some (.slice a2 n2 c2) ∧ W.cell? ⟨n, 0, none⟩ = some (.func fn fx fy))) (by kernel_rfl) ?_ (fun hHeld => ?_)
  · exact HSo.out _ HK0.out
  refine tkV (i := 0) (d := some 5) (v := ?_) rfl (by kernel_rfl) (by kernel_rfl) (by kernel_rfl) rfl (fun _ _ _ h => h) (by rfl) ?_ (by assumption) ?_
  rotate_left
  · (intro w hSw; (try dsimp only at hSw); (try simp only [List.getElem_toArray, List.getElem_cons_zero]); go_simp; try with_reducible rfl)
  simp only [Act.put, List.setIfInBounds_toArray, List.set_cons_zero, List.set_cons_succ]
  refine tkV (i := 1) (d := some 6) (v := ?_) rfl (by kernel_rfl) (by kernel_rfl) (by kernel_rfl) rfl (fun _ _ _ h => h) (by rfl) ?_ (by assumption) ?_
  rotate_left
  · (intro w hSw; (try dsimp only at hSw); (try simp only [List.getElem_toArray, List.getElem_cons_zero, List.getElem_cons_succ]); go_simp; try with_reducible rfl)
  simp only [Act.put, List.setIfInBounds_toArray, List.set_cons_zero, List.set_cons_succ]
  refine tkV (i := 2) (d := some 7) (v := ?_) rfl (by kernel_rfl) (by kernel_rfl) (by kernel_rfl) rfl (fun _ _ _ h => h) (by rfl) ?_ (by assumption) ?_
  rotate_left
  · (intro w hSw; (try dsimp only at hSw); (try simp only [List.getElem_toArray, List.getElem_cons_zero, List.getElem_cons_succ]); go_simp; try with_reducible rfl)
  simp only [Act.put, List.setIfInBounds_toArray, List.set_cons_zero, List.set_cons_succ]
  refine tkV (i := 3) (d := some 8) (v := ?_) rfl (by kernel_rfl) (by kernel_rfl) (by kernel_rfl) rfl (fun _ _ _ h => h) (by rfl) ?_ (by assumption) ?_
  rotate_left
  · (intro w hSw; (try dsimp only at hSw); (try simp only [List.getElem_toArray, List.getElem_cons_zero, List.getElem_cons_succ]); go_simp; try with_reducible rfl)
  simp only [Act.put, List.setIfInBounds_toArray, List.set_cons_zero, List.set_cons_succ]
  refine tkV (i := 5) (d := some 10) (v := ?_) rfl (by kernel_rfl) (by kernel_rfl) (by kernel_rfl) rfl (fun _ _ _ h => h) (by rfl) ?_ (by assumption) ?_
  rotate_left
  · (intro w hSw; (try dsimp only at hSw); (try simp only [List.getElem_toArray, List.getElem_cons_zero, List.getElem_cons_succ]); go_simp; try with_reducible rfl)
  simp only [Act.put, List.setIfInBounds_toArray, List.set_cons_zero, List.set_cons_succ]
  refine tkV (i := 6) (d := some 11) (v := ?_) rfl (by kernel_rfl) (by kernel_rfl) (by kernel_rfl) rfl (fun _ _ _ h => h) (by rfl) ?_ (by assumption) ?_
  rotate_left
  · (intro w hSw; (try dsimp only at hSw); (try simp only [List.getElem_toArray, List.getElem_cons_zero, List.getElem_cons_succ]); go_simp; try with_reducible rfl)
  simp only [Act.put, List.setIfInBounds_toArray, List.set_cons_zero, List.set_cons_succ]
  refine tkV (i := 7) (d := some 12) (v := ?_) rfl (by kernel_rfl) (by kernel_rfl) (by kernel_rfl) rfl (fun _ _ _ h => h) (by rfl) ?_ (by assumption) ?_
  rotate_left
  · (intro w hSw; (try dsimp only at hSw); (try simp only [List.getElem_toArray, List.getElem_cons_zero, List.getElem_cons_succ]); go_simp; try with_reducible rfl)
  simp only [Act.put, List.setIfInBounds_toArray, List.set_cons_zero, List.set_cons_succ]
  refine tkV (i := 8) (d := some 13) (v := ?_) rfl (by kernel_rfl) (by kernel_rfl) (by kernel_rfl) rfl (fun _ _ _ h => h) (by rfl) ?_ (by assumption) ?_
  rotate_left
  · (intro w hSw; (try dsimp only at hSw); (try simp only [List.getElem_toArray, List.getElem_cons_zero, List.getElem_cons_succ]); go_simp; try with_reducible rfl)
  simp only [Act.put, List.setIfInBounds_toArray, List.set_cons_zero, List.set_cons_succ]
  refine wpAnyH_ready (rs := [4, 9]) (by kernel_rfl) (by simp) (AllReadyH.cons rfl (fun K hK => ?_) (AllReadyH.cons rfl (fun K hK => ?_) AllReadyH.nil))
  · try simp only [List.getElem_toArray, List.getElem_cons_zero, List.getElem_cons_succ]
    go_simp
    refine hK.out _ _ ?_ (fun hHeld3 => ?_)
    · first | exact HSo.out _ HK0.out | exact HSo.out _ (HKa.out _) | exact HSo.out _ HK2.out | exact HSo.out _ HK3.out
    clear hK K
    try simp only [Act.put, List.setIfInBounds_toArray, List.set_cons_zero, List.set_cons_succ]
    refine wpAnyH_ready (rs := [9]) (by kernel_rfl) (by simp) (AllReadyH.cons rfl (fun K hK => ?_) AllReadyH.nil)
    try simp only [List.getElem_toArray, List.getElem_cons_zero, List.getElem_cons_succ]
    go_simp
    refine hK.out _ _ ?_ (fun hHeld4 => ?_)
    · first | exact HSo.out _ HK0.out | exact HSo.out _ (HKa.out _) | exact HSo.out _ HK2.out | exact HSo.out _ HK3.out
    clear hK K
    try simp only [Act.put, List.setIfInBounds_toArray, List.set_cons_zero, List.set_cons_succ]
    refine wpAnyH_ready (rs := [10]) (by kernel_rfl) (by simp) (AllReadyH.cons rfl (fun K hK => ?_) AllReadyH.nil)
    refine step_append_own_at (by rfl) _ _ 86 (by rfl) base 104 i0 (.agg #[.bool false, .slice none 0 0, .slice none 0 0, .nilFunc]) 4 64 Tryd.underlying86 hi hz0 hz1 hz2 rfl (by decide) (.slice av cn cv) cn xs (by rfl) (World.ownsRow.alloc (w := w.drew) HV.out _) ⟨_, 0, none⟩ 1 1 [.bool nt, .slice a1 n1 c1, .slice a2 n2 c2, .func fn fx fy] (by rfl) (by rfl) (cell4_new w.drew _ _ _ _ _) (fun u hu => by simp only [List.mem_cons, List.not_mem_nil, or_false] at hu; rcases hu with rfl | rfl | rfl | rfl <;> rfl) (by unfold maxLen; omega) (by omega) (by simp; have := HRL.out; omega) ?_
    intro v2 w2 hown2 hgrow2 hat2
    have HW := hid0 (waits_of (w0 := _) hb HR.out HV.out HU.out HUL.out (((Below.refl _ _).drew).alloc (Nat.le_refl _) _) (by simp) hown2 hgrow2 hat2)
    have hR2 := rowR_grown (w0 := _) HR.out HV.out (((Below.refl _ _).drew).alloc (Nat.le_refl _) _) hgrow2
    obtain ⟨g2, cap2, rfl, hju1, hju2⟩ := own_form hown2 (Nat.succ_pos _)
    have c_R2 : w2.cell? ⟨R, 0, none⟩ = some (.slice av cn cv) := by rw [cell_of_row _ _ _ _ _ _ hR2]; rfl
    have f_R2 : w2.frozen? ⟨R, 0, none⟩ = false := frozen_of_row _ _ _ _ _ hR2
    have HK2 := hid0 (rows_grown HV.out (((Below.refl _ _).drew).alloc (Nat.le_refl _) _) hgrow2)
    have HK3 : Hid (∀ (b : Nat) c t z, w.heap[b]? = some (.cells c t z) → t ≠ 88 → t ≠ 104 → (w2.setCell ⟨R, 0, none⟩ (.slice (some ⟨g2, 0, none⟩) (cn + 1) cap2)).heap[b]? = some (.cells c t z)) := hid0 (fun b c t z e h1 h2 => row_setR hR2 0 _ (HK2.out b c t z e h1 h2) h1)
    clear hown2 hgrow2 hat2 hR2 hju1 hju2
    refine hK.out _ _ ?_ (fun hHeld5 => ?_)
    · first | exact HSo.out _ HK0.out | exact HSo.out _ (HKa.out _) | exact HSo.out _ HK2.out | exact HSo.out _ HK3.out
    clear hK K
    (try simp only [Act.put]); (try simp only [List.setIfInBounds_toArray]); (try simp only [List.set_cons_succ]); (try simp only [List.set_cons_zero])
    refine tkV (i := 11) (d := some 16) (v := ?_) rfl (by kernel_rfl) (by kernel_rfl) (by kernel_rfl) rfl (fun _ _ _ h => h) (by rfl) ?_ (by assumption) ?_
    rotate_left
    · (intro w hSw; (try dsimp only at hSw); (try simp only [List.getElem_toArray, List.getElem_cons_zero, List.getElem_cons_succ]); go_simp; try with_reducible rfl)
    (try simp only [Act.put]); (try simp only [List.setIfInBounds_toArray]); (try simp only [List.set_cons_succ]); (try simp only [List.set_cons_zero])
    refine tkV (i := 12) (d := some 17) (v := ?_) rfl (by kernel_rfl) (by kernel_rfl) (by kernel_rfl) rfl (fun _ _ _ h => h) (by rfl) ?_ (by assumption) ?_
    rotate_left
    · (intro w hSw; (try dsimp only at hSw); (try simp only [List.getElem_toArray, List.getElem_cons_zero, List.getElem_cons_succ]); go_simp; try with_reducible rfl)
    (try simp only [Act.put]); (try simp only [List.setIfInBounds_toArray]); (try simp only [List.set_cons_succ]); (try simp only [List.set_cons_zero])
    refine wpAnyH_ready (rs := [13]) (by kernel_rfl) (by simp) (AllReadyH.cons rfl (fun K hK => ?_) AllReadyH.nil)
    try simp only [List.getElem_toArray, List.getElem_cons_zero, List.getElem_cons_succ]
    go_simp
    refine hK.out _ _ ?_ (fun hHeld6 => ?_)
    · first | exact HSo.out _ HK0.out | exact HSo.out _ (HKa.out _) | exact HSo.out _ HK2.out | exact HSo.out _ HK3.out
    clear hK K
    try simp only [Act.put]
    refine wpAnyH_done (by kernel_rfl) ?_ _
    go_end0
    exact ⟨rfl, HW.out⟩
  · try simp only [List.getElem_toArray, List.getElem_cons_zero, List.getElem_cons_succ]
    go_simp
    refine hK.out _ _ ?_ (fun hHeld3 => ?_)
    · first | exact HSo.out _ HK0.out | exact HSo.out _ (HKa.out _) | exact HSo.out _ HK2.out | exact HSo.out _ HK3.out
    clear hK K
    try simp only [Act.put, List.setIfInBounds_toArray, List.set_cons_zero, List.set_cons_succ]
    refine wpAnyH_ready (rs := [4]) (by kernel_rfl) (by simp) (AllReadyH.cons rfl (fun K hK => ?_) AllReadyH.nil)
    try simp only [List.getElem_toArray, List.getElem_cons_zero, List.getElem_cons_succ]
    go_simp
    refine hK.out _ _ ?_ (fun hHeld4 => ?_)
    · first | exact HSo.out _ HK0.out | exact HSo.out _ (HKa.out _) | exact HSo.out _ HK2.out | exact HSo.out _ HK3.out
    clear hK K
    try simp only [Act.put, List.setIfInBounds_toArray, List.set_cons_zero, List.set_cons_succ]
    refine wpAnyH_ready (rs := [10]) (by kernel_rfl) (by simp) (AllReadyH.cons rfl (fun K hK => ?_) AllReadyH.nil)
    refine step_append_own_at (by rfl) _ _ 86 (by rfl) base 104 i0 (.agg #[.bool false, .slice none 0 0, .slice none 0 0, .nilFunc]) 4 64 Tryd.underlying86 hi hz0 hz1 hz2 rfl (by decide) (.slice av cn cv) cn xs (by rfl) (World.ownsRow.alloc (w := w.drew) HV.out _) ⟨_, 0, none⟩ 1 1 [.bool nt, .slice a1 n1 c1, .slice a2 n2 c2, .func fn fx fy] (by rfl) (by rfl) (cell4_new w.drew _ _ _ _ _) (fun u hu => by simp only [List.mem_cons, List.not_mem_nil, or_false] at hu; rcases hu with rfl | rfl | rfl | rfl <;> rfl) (by unfold maxLen; omega) (by omega) (by simp; have := HRL.out; omega) ?_
    intro v2 w2 hown2 hgrow2 hat2
    have HW := hid0 (waits_of (w0 := _) hb HR.out HV.out HU.out HUL.out (((Below.refl _ _).drew).alloc (Nat.le_refl _) _) (by simp) hown2 hgrow2 hat2)
    have hR2 := rowR_grown (w0 := _) HR.out HV.out (((Below.refl _ _).drew).alloc (Nat.le_refl _) _) hgrow2
    obtain ⟨g2, cap2, rfl, hju1, hju2⟩ := own_form hown2 (Nat.succ_pos _)
    have c_R2 : w2.cell? ⟨R, 0, none⟩ = some (.slice av cn cv) := by rw [cell_of_row _ _ _ _ _ _ hR2]; rfl
    have f_R2 : w2.frozen? ⟨R, 0, none⟩ = false := frozen_of_row _ _ _ _ _ hR2
    have HK2 := hid0 (rows_grown HV.out (((Below.refl _ _).drew).alloc (Nat.le_refl _) _) hgrow2)
    have HK3 : Hid (∀ (b : Nat) c t z, w.heap[b]? = some (.cells c t z) → t ≠ 88 → t ≠ 104 → (w2.setCell ⟨R, 0, none⟩ (.slice (some ⟨g2, 0, none⟩) (cn + 1) cap2)).heap[b]? = some (.cells c t z)) := hid0 (fun b c t z e h1 h2 => row_setR hR2 0 _ (HK2.out b c t z e h1 h2) h1)
    clear hown2 hgrow2 hat2 hR2 hju1 hju2
    refine hK.out _ _ ?_ (fun hHeld5 => ?_)
    · first | exact HSo.out _ HK0.out | exact HSo.out _ (HKa.out _) | exact HSo.out _ HK2.out | exact HSo.out _ HK3.out
    clear hK K
    (try simp only [Act.put]); (try simp only [List.setIfInBounds_toArray]); (try simp only [List.set_cons_succ]); (try simp only [List.set_cons_zero])
    refine tkV (i := 11) (d := some 16) (v := ?_) rfl (by kernel_rfl) (by kernel_rfl) (by kernel_rfl) rfl (fun _ _ _ h => h) (by rfl) ?_ (by assumption) ?_
    rotate_left
    · (intro w hSw; (try dsimp only at hSw); (try simp only [List.getElem_toArray, List.getElem_cons_zero, List.getElem_cons_succ]); go_simp; try with_reducible rfl)
    (try simp only [Act.put]); (try simp only [List.setIfInBounds_toArray]); (try simp only [List.set_cons_succ]); (try simp only [List.set_cons_zero])
    refine tkV (i := 12) (d := some 17) (v := ?_) rfl (by kernel_rfl) (by kernel_rfl) (by kernel_rfl) rfl (fun _ _ _ h => h) (by rfl) ?_ (by assumption) ?_
    rotate_left
    · (intro w hSw; (try dsimp only at hSw); (try simp only [List.getElem_toArray, List.getElem_cons_zero, List.getElem_cons_succ]); go_simp; try with_reducible rfl)
    (try simp only [Act.put]); (try simp only [List.setIfInBounds_toArray]); (try simp only [List.set_cons_succ]); (try simp only [List.set_cons_zero])
    refine wpAnyH_ready (rs := [13]) (by kernel_rfl) (by simp) (AllReadyH.cons rfl (fun K hK => ?_) AllReadyH.nil)
    try simp only [List.getElem_toArray, List.getElem_cons_zero, List.getElem_cons_succ]
    go_simp
    refine hK.out _ _ ?_ (fun hHeld6 => ?_)
    · first | exact HSo.out _ HK0.out | exact HSo.out _ (HKa.out _) | exact HSo.out _ HK2.out | exact HSo.out _ HK3.out
    clear hK K
    try simp only [Act.put]
    refine wpAnyH_done (by kernel_rfl) ?_ _
    go_end0
    exact ⟨rfl, HW.out⟩
end Go.Proofs.YtiapefdklojhdaaDoor
