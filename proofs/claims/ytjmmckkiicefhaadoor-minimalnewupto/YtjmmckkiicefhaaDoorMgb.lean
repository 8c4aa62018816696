/-
  MjPM, MjDM, MjAM, MjAW, MjCM.
-/
import Derived.Test.YtjmmckkiicefhaaDoorMga
import Derived.Laws.BitsAllLaws
import Derived.BigRegion
import Derived.Laws.OwnMore
namespace Go.Proofs.YtjmmckkiicefhaaDoor
def spF (sp : List (Nat × Nat)) (k : Nat) : Nat × Nat := sp.getD k (0, 0)
def spS (sp : List (Nat × Nat)) : Nat := (sp.map fun x => x.2 - x.1).sum
/-- States in a row, those of one class side by side. -/
structure Prt (n : Nat) (ro pl cl : Nat → Nat) (sp : List (Nat × Nat)) : Prop where
  rl : ∀ i, i < n → ro i < n ∧ pl (ro i) = i
  lr : ∀ s, s < n → pl s < n ∧ ro (pl s) = s
  cs : ∀ s, s < n → cl s < sp.length ∧ (spF sp (cl s)).1 ≤ pl s ∧ pl s < (spF sp (cl s)).2
  sz : ∀ k, k < sp.length → (spF sp k).1 < (spF sp k).2 ∧ (spF sp k).2 ≤ n
  on : ∀ k i, k < sp.length → (spF sp k).1 ≤ i → i < (spF sp k).2 → cl (ro i) = k
  sum : spS sp = n
theorem sum_ge : ∀ (l : List Nat), (∀ x ∈ l, 1 ≤ x) → l.length ≤ l.sum
  | [], _ => Nat.le_refl _
  | x :: l, h => by
    have h1 := h x (.head _)
    have h2 := sum_ge l (fun y hy => h y (.tail _ hy))
    rw [List.length_cons, List.sum_cons]
    omega
theorem Prt.few {n : Nat} {ro pl cl : Nat → Nat} {sp : List (Nat × Nat)} (h : Prt n ro pl cl sp) : sp.length ≤ n := by
  have h1 := sum_ge (sp.map fun x => x.2 - x.1) (fun x hx => by
    obtain ⟨y, hy, rfl⟩ := List.mem_map.1 hx
    obtain ⟨k, hk, rfl⟩ := List.getElem_of_mem hy
    have := (h.sz k hk).1
    unfold spF at this
    rw [List.getD_eq_getElem?_getD, List.getElem?_eq_getElem hk] at this
    simp only [Option.getD_some] at this
    omega)
  have h2 := h.sum
  unfold spS at h2
  rw [List.length_map] at h1
  omega
theorem prt_new (n : Nat) (hn : 0 < n) : Prt n (fun s => s) (fun s => s) (fun _ => 0) [(0, n)] :=
  ⟨fun i hi => ⟨hi, rfl⟩, fun i hi => ⟨hi, rfl⟩, fun s hs => ⟨by simp, Nat.zero_le _, hs⟩, fun k hk => by
    obtain rfl : k = 0 := by simpa using hk
    exact ⟨hn, Nat.le_refl _⟩, fun k i hk _ _ => by simp at hk; exact hk.symm, by simp [spS]⟩
/-- Two places are exchanged. -/
def swR (ro : Nat → Nat) (i j : Nat) : Nat → Nat := putF (putF ro i (ro j)) j (ro i)
def swP (ro pl : Nat → Nat) (i j : Nat) : Nat → Nat := putF (putF pl (ro i) j) (ro j) i
theorem Prt.swap {n : Nat} {ro pl cl : Nat → Nat} {sp : List (Nat × Nat)} (h : Prt n ro pl cl sp) {i j : Nat} (hi : i < n) (hj : j < n) (he : cl (ro i) = cl (ro j)) : Prt n (swR ro i j) (swP ro pl i j) cl sp := by
  obtain ⟨i1, i2⟩ := h.rl i hi
  obtain ⟨j1, j2⟩ := h.rl j hj
  have hinj : ro i = ro j → i = j := fun e => by rw [← i2, ← j2, e]
  have hro : ∀ x, x < n → swR ro i j x < n ∧ swP ro pl i j (swR ro i j x) = x := fun x hx => by
    obtain ⟨x1, x2⟩ := h.rl x hx
    unfold swR swP putF
    by_cases e1 : x = j
    · subst e1
      simp only [if_true]
      refine ⟨i1, ?_⟩
      by_cases e3 : ro i = ro x
      · rw [if_pos e3]; exact hinj e3
      · rw [if_neg e3]
    · simp only [if_neg e1]
      by_cases e2 : x = i
      · subst e2
        simp only [if_true]
        exact ⟨j1, trivial⟩
      · simp only [if_neg e2]
        refine ⟨x1, ?_⟩
        rw [if_neg (fun e => e1 (by rw [← x2, ← j2, e])), if_neg (fun e => e2 (by rw [← x2, ← i2, e]))]
        exact x2
  have hpl : ∀ s, s < n → swP ro pl i j s < n ∧ swR ro i j (swP ro pl i j s) = s := fun s hs => by
    obtain ⟨s1, s2⟩ := h.lr s hs
    unfold swP swR putF
    by_cases e1 : s = ro j
    · rw [if_pos e1]
      refine ⟨hi, ?_⟩
      by_cases e3 : i = j
      · rw [if_pos e3, e1, e3]
      · rw [if_neg e3, if_pos rfl, e1]
    · rw [if_neg e1]
      by_cases e2 : s = ro i
      · rw [if_pos e2]
        exact ⟨hj, by rw [if_pos rfl, e2]⟩
      · rw [if_neg e2]
        refine ⟨s1, ?_⟩
        rw [if_neg (fun e => e1 (by rw [← s2, e])), if_neg (fun e => e2 (by rw [← s2, e]))]
        exact s2
  have hcl : ∀ x, x < n → cl (swR ro i j x) = cl (ro x) := fun x _ => by
    unfold swR putF
    by_cases e1 : x = j
    · rw [if_pos e1, he, e1]
    · rw [if_neg e1]
      by_cases e2 : x = i
      · rw [if_pos e2, ← he, e2]
      · rw [if_neg e2]
  refine ⟨hro, hpl, fun s hs => ?_, h.sz, fun k x hk h1 h2 => ?_, h.sum⟩
  · obtain ⟨p1, p2⟩ := hpl s hs
    have hc := hcl _ p1
    rw [p2] at hc
    obtain ⟨c1, c2, c3⟩ := h.cs _ (h.rl _ p1).1
    rw [(h.rl _ p1).2, ← hc] at c2 c3
    exact ⟨by rw [hc]; exact c1, c2, c3⟩
  · have := (h.sz k hk).2
    rw [hcl x (by omega)]
    exact h.on k x hk h1 h2
theorem spF_set {sp : List (Nat × Nat)} {k : Nat} (hk : k < sp.length) (x y : Nat × Nat) (j : Nat) : spF (sp.set k x ++ [y]) j = if j = k then x else if j = sp.length then y else spF sp j := by
  unfold spF
  rw [List.getD_eq_getElem?_getD, List.getD_eq_getElem?_getD]
  by_cases e1 : j = k
  · subst e1
    rw [if_pos rfl, List.getElem?_append_left (by simpa using hk), List.getElem?_set_self hk]
    rfl
  · rw [if_neg e1]
    by_cases e2 : j = sp.length
    · subst e2
      rw [if_pos rfl, List.getElem?_append_right (by simp)]
      simp
    · rw [if_neg e2]
      rcases Nat.lt_or_ge j sp.length with h | h
      · rw [List.getElem?_append_left (by simpa using h), List.getElem?_set_ne (fun e => e1 e.symm)]
      · rw [List.getElem?_append_right (by simpa using h), List.getElem?_eq_none (by simp; omega), List.getElem?_eq_none h]
theorem sum_set : ∀ (l : List Nat) (k : Nat) (h : k < l.length) (v : Nat), (l.set k v).sum + l[k] = l.sum + v
  | x :: l, 0, _, v => by simp; omega
  | x :: l, k + 1, h, v => by
    have := sum_set l k (by simpa using h) v
    simp only [List.set_cons_succ, List.sum_cons, List.getElem_cons_succ]
    omega
/-- A class is parted: what stands in the lesser piece gets a new number. -/
theorem Prt.split {n : Nat} {ro pl cl : Nat → Nat} {sp : List (Nat × Nat)} (h : Prt n ro pl cl sp) {k : Nat} (hk : k < sp.length) {mo le : Nat × Nat}
    (hs : ∃ x, (spF sp k).1 < x ∧ x < (spF sp k).2 ∧ ((mo = ((spF sp k).1, x) ∧ le = (x, (spF sp k).2)) ∨ (le = ((spF sp k).1, x) ∧ mo = (x, (spF sp k).2)))) :
    Prt n ro pl (fun s => if le.1 ≤ pl s ∧ pl s < le.2 then sp.length else cl s) (sp.set k mo ++ [le]) := by
  obtain ⟨x, x1, x2, hx⟩ := hs
  obtain ⟨z1, z2⟩ := h.sz k hk
  have hlen : (sp.set k mo ++ [le]).length = sp.length + 1 := by simp
  have hin : ∀ s, s < n → le.1 ≤ pl s → pl s < le.2 → cl s = k := fun s hs a b => by
    have h1 := h.on k (pl s) hk (by rcases hx with ⟨e1, e2⟩ | ⟨e1, e2⟩ <;> (subst e1 e2; simp only at a b; omega)) (by rcases hx with ⟨e1, e2⟩ | ⟨e1, e2⟩ <;> (subst e1 e2; simp only at a b; omega))
    rw [(h.lr s hs).2] at h1
    exact h1
  refine ⟨h.rl, h.lr, fun s hs => ?_, fun j hj => ?_, fun j i hj a b => ?_, ?_⟩
  · obtain ⟨c1, c2, c3⟩ := h.cs s hs
    rw [hlen, spF_set hk]
    by_cases e : le.1 ≤ pl s ∧ pl s < le.2
    · simp only [if_pos e]
      rw [if_neg (by omega), if_pos trivial]
      exact ⟨by omega, e.1, e.2⟩
    · simp only [if_neg e]
      by_cases e2 : cl s = k
      · rw [if_pos e2]
        rw [e2] at c2 c3
        refine ⟨by omega, ?_⟩
        rcases hx with ⟨e3, e4⟩ | ⟨e3, e4⟩ <;> (subst e3 e4; simp only at e ⊢; omega)
      · rw [if_neg e2, if_neg (by omega)]
        exact ⟨by omega, c2, c3⟩
  · rw [hlen] at hj
    rw [spF_set hk]
    by_cases e1 : j = k
    · rw [if_pos e1]
      rcases hx with ⟨e3, e4⟩ | ⟨e3, e4⟩ <;> (subst e3 e4; simp only; omega)
    · rw [if_neg e1]
      by_cases e2 : j = sp.length
      · rw [if_pos e2]
        rcases hx with ⟨e3, e4⟩ | ⟨e3, e4⟩ <;> (subst e3 e4; simp only; omega)
      · rw [if_neg e2]
        exact h.sz j (by omega)
  · rw [hlen] at hj
    rw [spF_set hk] at a b
    show (if le.1 ≤ pl (ro i) ∧ pl (ro i) < le.2 then sp.length else cl (ro i)) = j
    by_cases e1 : j = k
    · rw [if_pos e1] at a b
      have hi : i < n := by rcases hx with ⟨e3, e4⟩ | ⟨e3, e4⟩ <;> (subst e3 e4; simp only at a b; omega)
      rw [(h.rl i hi).2, if_neg (by rcases hx with ⟨e3, e4⟩ | ⟨e3, e4⟩ <;> (subst e3 e4; simp only at a b ⊢; omega)), e1]
      exact h.on k i hk (by rcases hx with ⟨e3, e4⟩ | ⟨e3, e4⟩ <;> (subst e3 e4; simp only at a b; omega)) (by rcases hx with ⟨e3, e4⟩ | ⟨e3, e4⟩ <;> (subst e3 e4; simp only at a b; omega))
    · rw [if_neg e1] at a b
      by_cases e2 : j = sp.length
      · rw [if_pos e2] at a b
        have hi : i < n := by rcases hx with ⟨e3, e4⟩ | ⟨e3, e4⟩ <;> (subst e3 e4; simp only at a b; omega)
        rw [(h.rl i hi).2, if_pos ⟨a, b⟩, e2]
      · rw [if_neg e2] at a b
        have hjl : j < sp.length := by omega
        have hi : i < n := by have := (h.sz j hjl).2; omega
        have hc := h.on j i hjl a b
        rw [if_neg (fun e => e1 (by rw [← hc]; exact hin _ (h.rl i hi).1 e.1 e.2))]
        exact hc
  · have h1 := h.sum
    unfold spS at h1 ⊢
    rw [List.map_append, List.sum_append, List.map_set]
    have h2 := sum_set (sp.map fun x => x.2 - x.1) k (by simpa using hk) (mo.2 - mo.1)
    have h3 : (sp.map fun x => x.2 - x.1)[k]'(by simpa using hk) = (spF sp k).2 - (spF sp k).1 := by
      unfold spF
      rw [List.getElem_map, List.getD_eq_getElem?_getD, List.getElem?_eq_getElem hk]
      rfl
    rw [h3] at h2
    simp only [List.map_cons, List.map_nil, List.sum_cons, List.sum_nil]
    rcases hx with ⟨e3, e4⟩ | ⟨e3, e4⟩ <;> (subst e3 e4; simp only at h2 ⊢; omega)
/-- While the states of S are put to their class's end: t of them stand there. -/
structure Cut1 (n : Nat) (S : List Nat) (k f to t : Nat) (ro pl cl : Nat → Nat) (sp : List (Nat × Nat)) : Prop where
  prt : Prt n ro pl cl sp
  k' : k < sp.length
  sp' : spF sp k = (f, to)
  room : f + t ≤ to
  ends : ∀ i, to - t ≤ i → i < to → ro i ∈ S.take t
  back : ∀ x ∈ S.take t, to - t ≤ pl x
/-- What may be cut off: states of one class. -/
structure Cuttable (n : Nat) (cl : Nat → Nat) (S : List Nat) : Prop where
  ne : S ≠ []
  nd : S.Nodup
  lt : ∀ x ∈ S, x < n
  one : ∀ x ∈ S, ∀ y ∈ S, cl x = cl y
theorem cut1_zero {n : Nat} {S : List Nat} {ro pl cl : Nat → Nat} {sp : List (Nat × Nat)} (h : Prt n ro pl cl sp) (hS : Cuttable n cl S) {k : Nat} (hk : ∀ x ∈ S, cl x = k) : Cut1 n S k (spF sp k).1 (spF sp k).2 0 ro pl cl sp := by
  obtain ⟨x, hx⟩ := List.exists_mem_of_ne_nil _ hS.ne
  have hc := (h.cs x (hS.lt x hx)).1
  rw [hk x hx] at hc
  exact ⟨h, hc, rfl, by have := (h.sz k hc).1; omega, fun i a b => by omega, fun x hx => by simp at hx⟩
theorem Cut1.at {n : Nat} {S : List Nat} {k f to t : Nat} {ro pl cl : Nat → Nat} {sp : List (Nat × Nat)} (h : Cut1 n S k f to t ro pl cl sp) (hS : Cuttable n cl S) (hk : ∀ x ∈ S, cl x = k) (ht : t < S.length) : f ≤ pl S[t] ∧ pl S[t] < to - t ∧ to ≤ n ∧ S[t] < n := by
  have hm : S[t] ∈ S := List.getElem_mem ht
  have hlt := hS.lt _ hm
  obtain ⟨c1, c2, c3⟩ := h.prt.cs _ hlt
  rw [hk _ hm, h.sp'] at c2 c3
  have hto := (h.prt.sz k h.k').2
  rw [h.sp'] at hto
  simp only at c2 c3 hto
  refine ⟨c2, Nat.lt_of_not_le fun hge => ?_, hto, hlt⟩
  have := h.ends _ hge c3
  rw [(h.prt.lr _ hlt).2] at this
  obtain ⟨j, hj, e⟩ := List.getElem_of_mem this
  rw [List.length_take] at hj
  rw [List.getElem_take] at e
  have hp := List.pairwise_iff_getElem.1 (List.nodup_iff_pairwise_ne.1 hS.nd) j t (by omega) ht (by omega)
  exact hp e
theorem Cut1.step {n : Nat} {S : List Nat} {k f to t : Nat} {ro pl cl : Nat → Nat} {sp : List (Nat × Nat)} (h : Cut1 n S k f to t ro pl cl sp) (hS : Cuttable n cl S) (hk : ∀ x ∈ S, cl x = k) (ht : t < S.length) : Cut1 n S k f to (t + 1) (swR ro (pl S[t]) (to - (t + 1))) (swP ro pl (pl S[t]) (to - (t + 1))) cl sp := by
  obtain ⟨a1, a2, a3, a4⟩ := h.at hS hk ht
  have hm : S[t] ∈ S := List.getElem_mem ht
  obtain ⟨p1, p2⟩ := h.prt.lr _ a4
  have hjn : to - (t + 1) < n := by omega
  obtain ⟨j1, j2⟩ := h.prt.rl _ hjn
  have hcj : cl (ro (to - (t + 1))) = k := h.prt.on k _ h.k' (by rw [h.sp']; simp only; omega) (by rw [h.sp']; simp only; omega)
  have htk : S.take (t + 1) = S.take t ++ [S[t]] := List.take_succ_eq_append_getElem ht
  refine ⟨h.prt.swap p1 hjn (by rw [p2, hcj]; exact hk _ hm), h.k', h.sp', by omega, fun i a b => ?_, fun x hx => ?_⟩
  · rw [htk]
    unfold swR putF
    by_cases e : i = to - (t + 1)
    · rw [if_pos e, p2]; exact List.mem_append_right _ (List.mem_singleton.2 rfl)
    · rw [if_neg e, if_neg (by omega)]
      exact List.mem_append_left _ (h.ends i (by omega) b)
  · rw [htk] at hx
    unfold swP putF
    rw [p2]
    rcases List.mem_append.1 hx with hx | hx
    · have hb := h.back x hx
      rw [if_neg (fun e => by rw [e, j2] at hb; omega)]
      by_cases e : x = S[t]
      · rw [if_pos e]; exact Nat.le_refl _
      · rw [if_neg e]; omega
    · obtain rfl := List.mem_singleton.1 hx
      by_cases e : S[t] = ro (to - (t + 1))
      · rw [if_pos e]
        have : pl S[t] = to - (t + 1) := by rw [e, j2]
        omega
      · rw [if_neg e, if_pos rfl]; exact Nat.le_refl _
/-- At the end just the states of S stand there. -/
theorem Cut1.mem {n : Nat} {S : List Nat} {k f to : Nat} {ro pl cl : Nat → Nat} {sp : List (Nat × Nat)} (h : Cut1 n S k f to S.length ro pl cl sp) (hk : ∀ x ∈ S, cl x = k) (_hS : Cuttable n cl S) {x : Nat} (hx : x < n) : x ∈ S ↔ to - S.length ≤ pl x ∧ pl x < to := by
  constructor
  · intro hm
    refine ⟨h.back x (by rw [List.take_length]; exact hm), ?_⟩
    have := (h.prt.cs x hx).2.2
    rw [hk x hm, h.sp'] at this
    exact this
  · rintro ⟨a, b⟩
    have := h.ends _ a b
    rw [List.take_length, (h.prt.lr x hx).2] at this
    exact this
/-- What a cut does. -/
structure CutR (n : Nat) (S : List Nat) (cl cl' : Nat → Nat) (add : List Nat) (K K' : Nat) : Prop where
  eqv : ∀ s t, s < n → t < n → (cl' s = cl' t ↔ (cl s = cl t ∧ (s ∈ S ↔ t ∈ S)))
  nd : add.Nodup
  new : ∀ x ∈ add, x < n ∧ cl' x = K
  old : ∀ x, x < n → x ∉ add → cl' x = cl x
  cnt : (K' = K ∧ add = []) ∨ K' = K + 1
/-- The states that stand from one place to another. -/
def seg (ro : Nat → Nat) (a b : Nat) : List Nat := (List.range (b - a)).map fun i => ro (a + i)
theorem seg_mem {n : Nat} {ro pl cl : Nat → Nat} {sp : List (Nat × Nat)} (h : Prt n ro pl cl sp) {a b : Nat} (hb : b ≤ n) {x : Nat} (hx : x < n) : x ∈ seg ro a b ↔ a ≤ pl x ∧ pl x < b := by
  unfold seg
  rw [List.mem_map]
  constructor
  · rintro ⟨i, hi, rfl⟩
    have hi := List.mem_range.1 hi
    rw [(h.rl (a + i) (by omega)).2]
    omega
  · rintro ⟨h1, h2⟩
    exact ⟨pl x - a, List.mem_range.2 (by omega), by rw [show a + (pl x - a) = pl x by omega]; exact (h.lr x hx).2⟩
theorem seg_nodup {n : Nat} {ro pl cl : Nat → Nat} {sp : List (Nat × Nat)} (h : Prt n ro pl cl sp) {a b : Nat} (hb : b ≤ n) : (seg ro a b).Nodup := by
  unfold seg
  rw [List.nodup_iff_pairwise_ne, List.pairwise_iff_getElem]
  intro i j hi hj hij
  simp only [List.length_map, List.length_range] at hi hj
  simp only [List.getElem_map, List.getElem_range]
  intro e
  have e1 := (h.rl (a + i) (by omega)).2
  have e2 := (h.rl (a + j) (by omega)).2
  rw [e] at e1
  omega
theorem seg_lt {n : Nat} {ro pl cl : Nat → Nat} {sp : List (Nat × Nat)} (h : Prt n ro pl cl sp) {a b : Nat} (hb : b ≤ n) : ∀ x ∈ seg ro a b, x < n := by
  intro x hx
  unfold seg at hx
  obtain ⟨i, hi, rfl⟩ := List.mem_map.1 hx
  exact (h.rl (a + i) (by have := List.mem_range.1 hi; omega)).1
/-- All of a class is cut off: nothing happens. -/
theorem Cut1.none {n : Nat} {S : List Nat} {k f to : Nat} {ro pl cl : Nat → Nat} {sp : List (Nat × Nat)} (h : Cut1 n S k f to S.length ro pl cl sp) (hk : ∀ x ∈ S, cl x = k) (hS : Cuttable n cl S) (he : to - S.length ≤ f) : CutR n S cl cl [] sp.length sp.length := by
  have hall : ∀ x, x < n → (x ∈ S ↔ cl x = k) := fun x hx => by
    rw [h.mem hk hS hx]
    constructor
    · rintro ⟨a, b⟩
      have := h.prt.on k (pl x) h.k' (by rw [h.sp']; simp only; have := h.room; omega) (by rw [h.sp']; exact b)
      rw [(h.prt.lr x hx).2] at this
      exact this
    · intro e
      have := (h.prt.cs x hx).2
      rw [e, h.sp'] at this
      simp only at this
      omega
  exact ⟨fun s t hs ht => ⟨fun e => ⟨e, by rw [hall s hs, hall t ht, e]⟩, fun e => e.1⟩, List.nodup_nil, fun x hx => (by cases hx), fun _ _ _ => rfl, .inl ⟨rfl, rfl⟩⟩
/-- A part is cut off. -/
theorem Cut1.some {n : Nat} {S : List Nat} {k f to : Nat} {ro pl cl : Nat → Nat} {sp : List (Nat × Nat)} (h : Cut1 n S k f to S.length ro pl cl sp) (hk : ∀ x ∈ S, cl x = k) (hS : Cuttable n cl S) (he : f < to - S.length) {mo le : Nat × Nat}
    (hx : (mo = (f, to - S.length) ∧ le = (to - S.length, to)) ∨ (le = (f, to - S.length) ∧ mo = (to - S.length, to))) :
    Prt n ro pl (fun s => if le.1 ≤ pl s ∧ pl s < le.2 then sp.length else cl s) (sp.set k mo ++ [le]) ∧ CutR n S cl (fun s => if le.1 ≤ pl s ∧ pl s < le.2 then sp.length else cl s) (seg ro le.1 le.2) sp.length (sp.length + 1) ∧ le.1 ≤ le.2 ∧ le.2 ≤ n := by
  have hlen : 0 < S.length := List.length_pos_iff.2 hS.ne
  have hroom := h.room
  have hto := (h.prt.sz k h.k').2
  rw [h.sp'] at hto
  simp only at hto
  have hp := h.prt.split h.k' (mo := mo) (le := le) ⟨to - S.length, by rw [h.sp']; exact he, by rw [h.sp']; simp only; omega, by rw [h.sp']; exact hx⟩
  have hle2 : le.2 ≤ n ∧ le.1 ≤ le.2 := by rcases hx with ⟨e1, e2⟩ | ⟨e1, e2⟩ <;> (subst e1 e2; simp only; omega)
  have hcls : ∀ x, x < n → (f ≤ pl x ∧ pl x < to ↔ cl x = k) := fun x hx' => by
    constructor
    · rintro ⟨a, b⟩
      have := h.prt.on k (pl x) h.k' (by rw [h.sp']; exact a) (by rw [h.sp']; exact b)
      rw [(h.prt.lr x hx').2] at this
      exact this
    · intro e
      have := (h.prt.cs x hx').2
      rw [e, h.sp'] at this
      exact this
  refine ⟨hp, ⟨fun s t hs ht => ?_, seg_nodup h.prt hle2.1, fun x hx' => ?_, fun x hx' hn => ?_, .inr rfl⟩, hle2.2, hle2.1⟩
  · have ms := h.mem hk hS hs
    have mt := h.mem hk hS ht
    have cs := hcls s hs
    have ct := hcls t ht
    have ks := (h.prt.cs s hs).1
    have kt := (h.prt.cs t ht).1
    show (if le.1 ≤ pl s ∧ pl s < le.2 then sp.length else cl s) = (if le.1 ≤ pl t ∧ pl t < le.2 then sp.length else cl t) ↔ _
    rw [ms, mt]
    rcases hx with ⟨e1, e2⟩ | ⟨e1, e2⟩
    · subst e1 e2
      simp only
      by_cases a : to - S.length ≤ pl s ∧ pl s < to
      · rw [if_pos a]
        by_cases b : to - S.length ≤ pl t ∧ pl t < to
        · rw [if_pos b]
          exact ⟨fun _ => ⟨by rw [cs.1 (by omega), ct.1 (by omega)], ⟨fun _ => b, fun _ => a⟩⟩, fun _ => rfl⟩
        · rw [if_neg b]
          exact ⟨fun e => by omega, fun e => absurd (e.2.1 a) b⟩
      · rw [if_neg a]
        by_cases b : to - S.length ≤ pl t ∧ pl t < to
        · rw [if_pos b]
          exact ⟨fun e => by omega, fun e => absurd (e.2.2 b) a⟩
        · rw [if_neg b]
          exact ⟨fun e => ⟨e, ⟨fun q => absurd q a, fun q => absurd q b⟩⟩, fun e => e.1⟩
    · subst e1 e2
      simp only
      by_cases a : f ≤ pl s ∧ pl s < to - S.length
      · rw [if_pos a]
        have ha : cl s = k := cs.1 (by omega)
        by_cases b : f ≤ pl t ∧ pl t < to - S.length
        · rw [if_pos b]
          exact ⟨fun _ => ⟨by rw [ha, ct.1 (by omega)], ⟨fun q => by omega, fun q => by omega⟩⟩, fun _ => rfl⟩
        · rw [if_neg b]
          refine ⟨fun e => by omega, fun e => ?_⟩
          have := ct.2 (by rw [← e.1, ha])
          have := e.2.2 (by omega)
          omega
      · rw [if_neg a]
        by_cases b : f ≤ pl t ∧ pl t < to - S.length
        · rw [if_pos b]
          have hb : cl t = k := ct.1 (by omega)
          refine ⟨fun e => by omega, fun e => ?_⟩
          have := cs.2 (by rw [e.1, hb])
          have := e.2.1 (by omega)
          omega
        · rw [if_neg b]
          refine ⟨fun e => ⟨e, ⟨fun q => ?_, fun q => ?_⟩⟩, fun e => e.1⟩
          · have := ct.2 (by rw [← e]; exact cs.1 (by omega))
            omega
          · have := cs.2 (by rw [e]; exact ct.1 (by omega))
            omega
  · have hxn := seg_lt h.prt hle2.1 x hx'
    exact ⟨hxn, if_pos ((seg_mem h.prt hle2.1 hxn).1 hx')⟩
  · exact if_neg (fun q => hn ((seg_mem h.prt hle2.1 hx').2 q))
/-- What many cuts do, where the queue was empty. -/
structure CutsR (n : Nat) (L : List (List Nat)) (cl cl' : Nat → Nat) (q : List Nat) (K K' : Nat) (wt : Nat → Nat) (T : Nat) : Prop where
  eqv : ∀ s t, s < n → t < n → (cl' s = cl' t ↔ (cl s = cl t ∧ ∀ S ∈ L, (s ∈ S ↔ t ∈ S)))
  new : ∀ x ∈ q, x < n ∧ K ≤ cl' x
  old : ∀ x, x < n → x ∉ q → cl' x = cl x
  cnt : K ≤ K' ∧ (K' = K → q = [])
  len : q.length ≤ L.length * n
  wgt : (q.map wt).sum ≤ L.length * T
theorem cutsR_nil (n : Nat) (cl : Nat → Nat) (K : Nat) (cnt : Nat → Nat) (T : Nat) : CutsR n [] cl cl [] K K cnt T :=
  ⟨fun s t _ _ => ⟨fun e => ⟨e, fun S h => (by cases h)⟩, fun e => e.1⟩, fun x h => (by cases h), fun _ _ _ => rfl, ⟨Nat.le_refl _, fun _ => rfl⟩, by simp, by simp⟩
theorem CutsR.snoc {n : Nat} {L : List (List Nat)} {cl cl' cl2 : Nat → Nat} {q add : List Nat} {K K' K2 : Nat} {cnt : Nat → Nat} {T : Nat} {S : List Nat} (h : CutsR n L cl cl' q K K' cnt T) (hc : CutR n S cl' cl2 add K' K2) (hT : ∀ l : List Nat, l.Nodup → (∀ x ∈ l, x < n) → (l.map cnt).sum ≤ T) : CutsR n (L ++ [S]) cl cl2 (q ++ add) K K2 cnt T := by
  have hadd : ∀ x ∈ add, x < n := fun x hx => (hc.new x hx).1
  have hk := h.cnt.1
  refine ⟨fun s t hs ht => ?_, fun x hx => ?_, fun x hx hn => ?_, ?_, ?_, ?_⟩
  · rw [hc.eqv s t hs ht, h.eqv s t hs ht]
    constructor
    · rintro ⟨⟨e1, e2⟩, e3⟩
      refine ⟨e1, fun S' hS' => ?_⟩
      rcases List.mem_append.1 hS' with hS' | hS'
      · exact e2 S' hS'
      · obtain rfl := List.mem_singleton.1 hS'
        exact e3
    · rintro ⟨e1, e2⟩
      exact ⟨⟨e1, fun S' hS' => e2 S' (List.mem_append_left _ hS')⟩, e2 S (by simp)⟩
  · by_cases ha : x ∈ add
    · obtain ⟨a, b⟩ := hc.new x ha
      exact ⟨a, by omega⟩
    · rcases List.mem_append.1 hx with hx | hx
      · obtain ⟨a, b⟩ := h.new x hx
        exact ⟨a, by rw [hc.old x a ha]; exact b⟩
      · exact absurd hx ha
  · rw [List.mem_append, not_or] at hn
    rw [hc.old x hx hn.2]
    exact h.old x hx hn.1
  · rcases hc.cnt with ⟨e1, e2⟩ | e1
    · refine ⟨by omega, fun e => ?_⟩
      rw [h.cnt.2 (by omega), e2]
      rfl
    · exact ⟨by omega, fun e => by omega⟩
  · rw [List.length_append, List.length_append, Nat.add_mul]
    have := h.len
    have := nodup_le n add hc.nd hadd
    simp
    omega
  · rw [List.map_append, List.sum_append, List.length_append, Nat.add_mul]
    have := h.wgt
    have := hT add hc.nd hadd
    simp
    omega
/-- Lists that can be cut off one behind the other. -/
structure Cutlist (n : Nat) (cl : Nat → Nat) (L : List (List Nat)) : Prop where
  each : ∀ S ∈ L, Cuttable n cl S
  apart : ∀ i j (hi : i < L.length) (hj : j < L.length), i ≠ j → ∀ x ∈ L[i], x ∉ L[j]
theorem CutsR.next {n : Nat} {L : List (List Nat)} {cl cl' : Nat → Nat} {q : List Nat} {K K' : Nat} {cnt : Nat → Nat} {T : Nat} {j : Nat} (h : CutsR n (L.take j) cl cl' q K K' cnt T) (hL : Cutlist n cl L) (hj : j < L.length) : Cuttable n cl' L[j] := by
  have hm : L[j] ∈ L := List.getElem_mem hj
  obtain ⟨a, b, c, d⟩ := hL.each _ hm
  refine ⟨a, b, c, fun x hx y hy => ?_⟩
  rw [h.eqv x y (c x hx) (c y hy)]
  refine ⟨d x hx y hy, fun S hS => ?_⟩
  obtain ⟨i, hi, e⟩ := List.getElem_of_mem hS
  rw [List.length_take] at hi
  rw [List.getElem_take] at e
  subst e
  exact ⟨fun hh => absurd hh (hL.apart j i hj (by omega) (by omega) x hx), fun hh => absurd hh (hL.apart j i hj (by omega) (by omega) y hy)⟩
/-- Classes that are being made finer: the queue's states have got new numbers since. -/
structure Ref (m n : Nat) (F : Nat → Nat) (out : Nat → List Int) (cl old : Nat → Nat) (K0 : Nat) (q : List Nat) : Prop where
  new : ∀ x ∈ q, x < n ∧ K0 ≤ cl x
  nq : ∀ x, x < n → x ∉ q → cl x = old x
  ol : ∀ x, x < n → old x < K0
  st : ∀ s t, s < n → t < n → cl s = cl t → ∀ c, c < m → old (F (s * m + c)) = old (F (t * m + c))
  ou : ∀ s t, s < n → t < n → cl s = cl t → out s = out t
  wide : ∀ s t, s < n → t < n → SameL m (fun x c => F (x * m + c)) (fun x c => F (x * m + c)) out out s t → cl s = cl t
section
variable {m n : Nat} {F : Nat → Nat} {out : Nat → List Int} {cl old : Nat → Nat} {K0 : Nat} {q : List Nat}
theorem Ref.cls (h : Ref m n F out cl old K0 []) (hF : ∀ i c, i < n → c < m → F (i * m + c) < n) : Cls m n F out cl :=
  ⟨h.ou, fun s t hs ht e c hc => by
    rw [h.nq _ (hF s c hs hc) (List.not_mem_nil), h.nq _ (hF t c ht hc) (List.not_mem_nil)]
    exact h.st s t hs ht e c hc, h.wide⟩
/-- Lists by what the states tell. -/
theorem ref_begin {L : List (List Nat)} {cl' : Nat → Nat} {K' T : Nat} {cnt : Nat → Nat} (hc : CutsR n L (fun _ => 0) cl' q 1 K' cnt T) (hL : ∀ S ∈ L, ∀ s ∈ S, ∀ t, t < n → (t ∈ S ↔ out t = out s)) (hA : ∀ s, s < n → ∃ S ∈ L, s ∈ S) : Ref m n F out cl' (fun _ => 0) 1 q := by
  refine ⟨hc.new, hc.old, fun x _ => Nat.zero_lt_one, fun s t _ _ _ c _ => rfl, fun s t hs ht e => ?_, fun s t hs ht e => ?_⟩
  · obtain ⟨S, h1, h2⟩ := hA s hs
    have := ((hc.eqv s t hs ht).1 e).2 S h1
    exact ((hL S h1 s h2 t ht).1 (this.1 h2)).symm
  · rw [hc.eqv s t hs ht]
    refine ⟨rfl, fun S hS => ⟨fun hm => ?_, fun hm => ?_⟩⟩
    · exact (hL S hS s hm t ht).2 e.nil.symm
    · exact (hL S hS t hm s hs).2 e.nil
/-- The symbols by which a state goes to one of the queue, and the classes there. -/
def prs (m : Nat) (F cl : Nat → Nat) (q : List Nat) (s : Nat) : List (Nat × Nat) := ((List.range m).filter fun c => decide (F (s * m + c) ∈ q)).map fun c => (c, cl (F (s * m + c)))
theorem prs_mem {s c v : Nat} : (c, v) ∈ prs m F cl q s ↔ c < m ∧ F (s * m + c) ∈ q ∧ v = cl (F (s * m + c)) := by
  unfold prs
  rw [List.mem_map]
  constructor
  · rintro ⟨d, hd, e⟩
    rw [List.mem_filter, List.mem_range, decide_eq_true_eq] at hd
    injection e with e1 e2
    subst e1
    exact ⟨hd.1, hd.2, e2.symm⟩
  · rintro ⟨h1, h2, rfl⟩
    exact ⟨c, List.mem_filter.2 ⟨List.mem_range.2 h1, decide_eq_true h2⟩, rfl⟩
def keyL (m : Nat) (F cl : Nat → Nat) (q : List Nat) (s : Nat) : List Nat := cl s :: (prs m F cl q s).flatMap fun p => [p.1, p.2]
theorem pairs_inj : ∀ (a b : List (Nat × Nat)), (a.flatMap fun p => [p.1, p.2]) = (b.flatMap fun p => [p.1, p.2]) → a = b
  | [], [], _ => rfl
  | [], _ :: _, h => by simp at h
  | _ :: _, [], h => by simp at h
  | x :: a, y :: b, h => by
    simp only [List.flatMap_cons, List.cons_append, List.nil_append, List.cons.injEq] at h
    rw [pairs_inj a b h.2.2, Prod.ext h.1 h.2.1]
theorem keyL_inj {s t : Nat} (h : keyL m F cl q s = keyL m F cl q t) : cl s = cl t ∧ prs m F cl q s = prs m F cl q t := by
  unfold keyL at h
  injection h with h1 h2
  exact ⟨h1, pairs_inj _ _ h2⟩
/-- One round: lists by the class and the classes of the successors that are in the queue. -/
theorem Ref.round {L : List (List Nat)} {cl' : Nat → Nat} {q' : List Nat} {K K' T : Nat} {cnt : Nat → Nat} (h : Ref m n F out cl old K0 q) (hF : ∀ i c, i < n → c < m → F (i * m + c) < n) (hK : ∀ x, x < n → cl x < K) (hc : CutsR n L cl cl' q' K K' cnt T)
    (hL : ∀ S ∈ L, ∀ s ∈ S, s < n ∧ prs m F cl q s ≠ [] ∧ ∀ t, t < n → (t ∈ S ↔ (prs m F cl q t ≠ [] ∧ keyL m F cl q t = keyL m F cl q s))) (hA : ∀ s, s < n → prs m F cl q s ≠ [] → ∃ S ∈ L, s ∈ S) : Ref m n F out cl' cl K q' := by
  have hq : ∀ x, x < n → (x ∈ q ↔ K0 ≤ cl x) := fun x hx => ⟨fun hm => (h.new x hm).2, fun hk => by
    apply Classical.byContradiction
    intro hn
    have h1 := h.nq x hx hn
    have h2 := h.ol x hx
    omega⟩
  refine ⟨hc.new, hc.old, hK, fun s t hs ht e c hcm => ?_, fun s t hs ht e => h.ou s t hs ht ((hc.eqv s t hs ht).1 e).1, fun s t hs ht e => ?_⟩
  · obtain ⟨e1, e2⟩ := (hc.eqv s t hs ht).1 e
    have hsame : prs m F cl q s = prs m F cl q t := by
      by_cases ha : prs m F cl q s = []
      · rw [ha]
        apply Classical.byContradiction
        intro hb
        obtain ⟨S, h1, h2⟩ := hA t ht (fun q => hb q.symm)
        exact (hL S h1 s ((e2 S h1).2 h2)).2.1 ha
      · obtain ⟨S, h1, h2⟩ := hA s hs ha
        have h3 := ((hL S h1 s h2).2.2 t ht).1 ((e2 S h1).1 h2)
        exact (keyL_inj h3.2).2.symm
    by_cases hin : F (s * m + c) ∈ q
    · have h1 : (c, cl (F (s * m + c))) ∈ prs m F cl q s := prs_mem.2 ⟨hcm, hin, rfl⟩
      rw [hsame] at h1
      exact (prs_mem.1 h1).2.2
    · have h2 : F (t * m + c) ∉ q := fun hm => by
        have h1 : (c, cl (F (t * m + c))) ∈ prs m F cl q t := prs_mem.2 ⟨hcm, hm, rfl⟩
        rw [← hsame] at h1
        exact hin (prs_mem.1 h1).2.1
      rw [h.nq _ (hF s c hs hcm) hin, h.nq _ (hF t c ht hcm) h2]
      exact h.st s t hs ht e1 c hcm
  · rw [hc.eqv s t hs ht]
    have e1 := h.wide s t hs ht e
    have hcl : ∀ c, c < m → cl (F (s * m + c)) = cl (F (t * m + c)) := fun c hcm => h.wide _ _ (hF s c hs hcm) (hF t c ht hcm) (e.step hcm)
    have hpr : prs m F cl q s = prs m F cl q t := by
      unfold prs
      have hfil : (List.range m).filter (fun c => decide (F (s * m + c) ∈ q)) = (List.range m).filter (fun c => decide (F (t * m + c) ∈ q)) := by
        apply List.filter_congr
        intro c hcm
        have hcm := List.mem_range.1 hcm
        have := hcl c hcm
        congr 1
        exact propext (by rw [hq _ (hF s c hs hcm), hq _ (hF t c ht hcm), this])
      rw [hfil]
      apply List.map_congr_left
      intro c hcm
      rw [hcl c (List.mem_range.1 (List.mem_filter.1 hcm).1)]
    have hkey : keyL m F cl q s = keyL m F cl q t := by unfold keyL; rw [e1, hpr]
    refine ⟨e1, fun S hS => ⟨fun hm => ?_, fun hm => ?_⟩⟩
    · obtain ⟨_, a, b⟩ := hL S hS s hm
      exact (b t ht).2 ⟨by rw [← hpr]; exact a, hkey.symm⟩
    · obtain ⟨_, a, b⟩ := hL S hS t hm
      exact (b s hs).2 ⟨by rw [hpr]; exact a, hkey⟩
end
end Go.Proofs.YtjmmckkiicefhaaDoor
namespace Go.Proofs.YtjmmckkiicefhaaDoor
/-- The bytes of a number: seven bits each, the last alone below 128. -/
def encN (n : Nat) : List UInt8 := if n < 128 then [UInt8.ofNat n] else UInt8.ofNat (n % 128 + 128) :: encN (n / 128)
termination_by n
decreasing_by omega
theorem encN_small {n : Nat} (h : n < 128) : encN n = [UInt8.ofNat n] := by rw [encN, if_pos h]
theorem encN_big {n : Nat} (h : ¬ n < 128) : encN n = UInt8.ofNat (n % 128 + 128) :: encN (n / 128) := by rw [encN, if_neg h]
theorem u8_toN (x : Nat) (h : x < 256) : (UInt8.ofNat x).toNat = x := by rw [UInt8.toNat_ofNat']; omega
theorem u8_injN {x y : Nat} (hx : x < 256) (hy : y < 256) (h : UInt8.ofNat x = UInt8.ofNat y) : x = y := by rw [← u8_toN x hx, ← u8_toN y hy, h]
theorem encN_pre : ∀ (a b : Nat) (x y : List UInt8), encN a ++ x = encN b ++ y → a = b ∧ x = y := by
  intro a
  induction a using Nat.strongRecOn with
  | _ a ih =>
    intro b x y h
    by_cases ha : a < 128
    · rw [encN_small ha] at h
      by_cases hb : b < 128
      · rw [encN_small hb] at h
        simp only [List.cons_append, List.nil_append, List.cons.injEq] at h
        exact ⟨u8_injN (by omega) (by omega) h.1, h.2⟩
      · rw [encN_big hb] at h
        simp only [List.cons_append, List.nil_append, List.cons.injEq] at h
        have := u8_injN (by omega) (by omega) h.1
        omega
    · rw [encN_big ha] at h
      by_cases hb : b < 128
      · rw [encN_small hb] at h
        simp only [List.cons_append, List.nil_append, List.cons.injEq] at h
        have := u8_injN (by omega) (by omega) h.1
        omega
      · rw [encN_big hb] at h
        simp only [List.cons_append, List.cons.injEq] at h
        have h1 := u8_injN (by omega) (by omega) h.1
        obtain ⟨h2, h3⟩ := ih (a / 128) (by omega) (b / 128) x y h.2
        exact ⟨by omega, h3⟩
theorem encN_len : ∀ (k n : Nat), n < 128 ^ k → 1 ≤ k → (encN n).length ≤ k
  | 0, _, _, h => by omega
  | k + 1, n, hn, _ => by
    by_cases h : n < 128
    · rw [encN_small h]; simp
    · rw [encN_big h, List.length_cons]
      have h1 : n / 128 < 128 ^ k := by
        rw [Nat.div_lt_iff_lt_mul (by omega)]
        rw [Nat.pow_succ] at hn
        exact hn
      have hk : 1 ≤ k := by
        rcases Nat.eq_zero_or_pos k with rfl | h2
        · simp at h1; omega
        · exact h2
      have := encN_len k (n / 128) h1 hk
      omega
theorem encN_ten {n : Nat} (h : n < 9223372036854775808) : (encN n).length ≤ 10 := encN_len 10 n (by omega) (by omega)
theorem encN_ne (n : Nat) : encN n ≠ [] := by
  by_cases h : n < 128
  · rw [encN_small h]; simp
  · rw [encN_big h]; simp
/-- The bytes of numbers. -/
def encL (l : List Nat) : List UInt8 := l.flatMap encN
theorem encL_cons (n : Nat) (l : List Nat) : encL (n :: l) = encN n ++ encL l := by unfold encL; rw [List.flatMap_cons]
theorem encL_snoc (l : List Nat) (n : Nat) : encL (l ++ [n]) = encL l ++ encN n := by unfold encL; rw [List.flatMap_append]; simp
theorem encL_inj : ∀ (a b : List Nat), encL a = encL b → a = b
  | [], [], _ => rfl
  | [], y :: b, h => by
    rw [encL_cons] at h
    have : encN y ++ encL b = [] := h.symm
    rw [List.append_eq_nil_iff] at this
    exact absurd this.1 (encN_ne y)
  | x :: a, [], h => by
    rw [encL_cons] at h
    have h' : encN x ++ encL a = [] := h
    rw [List.append_eq_nil_iff] at h'
    exact absurd h'.1 (encN_ne x)
  | x :: a, y :: b, h => by
    rw [encL_cons, encL_cons] at h
    obtain ⟨h1, h2⟩ := encN_pre x y _ _ h
    rw [h1, encL_inj a b h2]
theorem encL_len (l : List Nat) (h : ∀ x ∈ l, x < 9223372036854775808) : (encL l).length ≤ l.length * 10 := by
  induction l with
  | nil => simp [encL]
  | cons x l ih =>
    rw [encL_cons, List.length_append, List.length_cons]
    have h1 := encN_ten (h x (.head _))
    have h2 := ih (fun y hy => h y (.tail _ hy))
    omega
/-- A state is put to the group of its text. -/
def gput (ks : List (List UInt8)) (Ls : List (List Nat)) (k : List UInt8) (s : Nat) : List (List UInt8) × List (List Nat) :=
  if k ∈ ks then (ks, Ls.set (ks.idxOf k) (Ls.getD (ks.idxOf k) [] ++ [s])) else (ks ++ [k], Ls ++ [[s]])
/-- What groups hold: of a row of texts and states. -/
structure GI (ks : List (List UInt8)) (Ls : List (List Nat)) (seq : List (List UInt8 × Nat)) : Prop where
  len : ks.length = Ls.length
  nd : ks.Nodup
  mem : ∀ i (hi : i < ks.length), ∀ s, s ∈ Ls.getD i [] ↔ (ks[i], s) ∈ seq
  all : ∀ x ∈ seq, x.1 ∈ ks
  ne : ∀ i, i < ks.length → Ls.getD i [] ≠ []
  up : ∀ i, i < ks.length → (Ls.getD i []).Nodup
theorem gi_nil : GI [] [] [] := ⟨rfl, List.nodup_nil, fun i h => absurd h (Nat.not_lt_zero _), fun x h => (by cases h), fun i h => absurd h (Nat.not_lt_zero _), fun i h => absurd h (Nat.not_lt_zero _)⟩
theorem GI.put {ks : List (List UInt8)} {Ls : List (List Nat)} {seq : List (List UInt8 × Nat)} (h : GI ks Ls seq) (k : List UInt8) (s : Nat) (hs : ∀ x ∈ seq, x.2 ≠ s) : GI (gput ks Ls k s).1 (gput ks Ls k s).2 (seq ++ [(k, s)]) := by
  unfold gput
  by_cases hk : k ∈ ks
  · rw [if_pos hk]
    have hi := List.idxOf_lt_length_iff.2 hk
    have hg : ∀ j, (Ls.set (ks.idxOf k) (Ls.getD (ks.idxOf k) [] ++ [s])).getD j [] = if j = ks.idxOf k then Ls.getD (ks.idxOf k) [] ++ [s] else Ls.getD j [] := fun j => by
      rw [List.getD_eq_getElem?_getD]
      by_cases e : j = ks.idxOf k
      · rw [if_pos e, e, List.getElem?_set_self (by rw [← h.len]; exact hi)]; rfl
      · rw [if_neg e, List.getElem?_set_ne (fun q => e q.symm), List.getD_eq_getElem?_getD]
    have hki : ks[ks.idxOf k] = k := List.getElem_idxOf hi
    refine ⟨by rw [List.length_set]; exact h.len, h.nd, fun i hi' t => ?_, fun x hx => ?_, fun i hi' => ?_, fun i hi' => ?_⟩
    · rw [hg, List.mem_append, List.mem_singleton]
      by_cases e : i = ks.idxOf k
      · subst e
        rw [if_pos rfl, List.mem_append, List.mem_singleton, h.mem _ hi, hki]
        simp
      · rw [if_neg e, h.mem i hi']
        constructor
        · exact .inl
        · rintro (hx | hx)
          · exact hx
          · exfalso
            injection hx with hx _
            apply e
            have := List.pairwise_iff_getElem.1 (List.nodup_iff_pairwise_ne.1 h.nd)
            rcases Nat.lt_trichotomy i (ks.idxOf k) with hl | hl | hl
            · exact absurd (hx.trans hki.symm) (this i _ hi' hi hl)
            · exact hl
            · exact absurd (hki.trans hx.symm) (this _ i hi hi' hl)
    · rcases List.mem_append.1 hx with hx | hx
      · exact h.all x hx
      · rw [List.mem_singleton.1 hx]; exact hk
    · rw [hg]
      split
      · simp
      · exact h.ne i hi'
    · rw [hg]
      split
      · rw [List.nodup_append]
        refine ⟨h.up _ hi, by simp, fun a ha b hb => ?_⟩
        rw [List.mem_singleton.1 hb]
        have := (h.mem _ hi a).1 ha
        exact hs _ this
      · exact h.up i hi'
  · rw [if_neg hk]
    have hg : ∀ j, j < ks.length + 1 → (Ls ++ [[s]]).getD j [] = if j = ks.length then [s] else Ls.getD j [] := fun j hj => by
      rw [List.getD_eq_getElem?_getD]
      by_cases e : j = ks.length
      · rw [if_pos e, e, h.len, List.getElem?_append_right (Nat.le_refl _)]; simp
      · rw [if_neg e, List.getElem?_append_left (by rw [← h.len]; omega), List.getD_eq_getElem?_getD]
    refine ⟨by simp [h.len], ?_, fun i hi' t => ?_, fun x hx => ?_, fun i hi' => ?_, fun i hi' => ?_⟩
    · rw [List.nodup_append]
      exact ⟨h.nd, by simp, fun a ha b hb e => hk (by rw [← List.mem_singleton.1 hb, ← e]; exact ha)⟩
    · rw [List.length_append, List.length_singleton] at hi'
      rw [hg i hi', List.mem_append, List.mem_singleton]
      by_cases e : i = ks.length
      · subst e
        rw [if_pos rfl, List.getElem_append_right (Nat.le_refl _)]
        simp only [Nat.sub_self, List.getElem_cons_zero, List.mem_singleton]
        constructor
        · rintro rfl; exact .inr rfl
        · rintro (hx | hx)
          · exact absurd (h.all _ hx) hk
          · injection hx
      · rw [if_neg e, List.getElem_append_left (by omega), h.mem i (by omega)]
        constructor
        · exact .inl
        · rintro (hx | hx)
          · exact hx
          · exfalso
            injection hx with hx _
            exact hk (by rw [← hx]; exact List.getElem_mem _)
    · rcases List.mem_append.1 hx with hx | hx
      · exact List.mem_append_left _ (h.all x hx)
      · rw [List.mem_singleton.1 hx]; simp
    · rw [List.length_append, List.length_singleton] at hi'
      rw [hg i hi']
      split
      · simp
      · exact h.ne i (by omega)
    · rw [List.length_append, List.length_singleton] at hi'
      rw [hg i hi']
      split
      · simp
      · exact h.up i (by omega)
theorem gput_len (ks : List (List UInt8)) (Ls : List (List Nat)) (k : List UInt8) (s : Nat) : (gput ks Ls k s).1.length ≤ ks.length + 1 := by
  unfold gput
  split
  · exact Nat.le_succ _
  · simp
/-- No two groups have a state in common. -/
theorem GI.apart {ks : List (List UInt8)} {Ls : List (List Nat)} {seq : List (List UInt8 × Nat)} (h : GI ks Ls seq) (hd : ∀ x ∈ seq, ∀ y ∈ seq, x.2 = y.2 → x.1 = y.1) : ∀ i j (hi : i < Ls.length) (hj : j < Ls.length), i ≠ j → ∀ x ∈ Ls[i], x ∉ Ls[j] := by
  intro i j hi hj hij x hx hy
  have hgi : Ls.getD i [] = Ls[i] := by rw [List.getD_eq_getElem?_getD, List.getElem?_eq_getElem hi]; rfl
  have hgj : Ls.getD j [] = Ls[j] := by rw [List.getD_eq_getElem?_getD, List.getElem?_eq_getElem hj]; rfl
  have h1 := (h.mem i (by rw [h.len]; exact hi) x).1 (by rw [hgi]; exact hx)
  have h2 := (h.mem j (by rw [h.len]; exact hj) x).1 (by rw [hgj]; exact hy)
  have h3 := hd _ h1 _ h2 rfl
  simp only at h3
  have := List.pairwise_iff_getElem.1 (List.nodup_iff_pairwise_ne.1 h.nd)
  rcases Nat.lt_trichotomy i j with hl | hl | hl
  · exact this i j _ _ hl h3
  · exact hij hl
  · exact this j i _ _ hl h3.symm
end Go.Proofs.YtjmmckkiicefhaaDoor
namespace Go.Proofs.YtjmmckkiicefhaaDoor
open Go.RowKit Go.Shelf
/-- Spans as cells. -/
def spV (l : List (Nat × Nat)) : List Value := l.flatMap fun x => [.int .i64 (x.1 : Int), .int .i64 (x.2 : Int)]
theorem spV_len (l : List (Nat × Nat)) : (spV l).length = l.length * 2 := by
  induction l with
  | nil => rfl
  | cons x l ih => unfold spV at *; rw [List.flatMap_cons, List.length_append, ih, List.length_cons]; simp; omega
theorem spV_snoc (l : List (Nat × Nat)) (x : Nat × Nat) : spV (l ++ [x]) = spV l ++ [.int .i64 (x.1 : Int), .int .i64 (x.2 : Int)] := by
  unfold spV
  rw [List.flatMap_append]
  simp
theorem spV_at : ∀ (l : List (Nat × Nat)) (k : Nat), k < l.length → (spV l)[k * 2]? = some (.int .i64 ((spF l k).1 : Int)) ∧ (spV l)[k * 2 + 1]? = some (.int .i64 ((spF l k).2 : Int))
  | [], k, h => absurd h (Nat.not_lt_zero _)
  | x :: l, 0, _ => by unfold spV spF; rw [List.flatMap_cons]; simp
  | x :: l, k + 1, h => by
    have ih := spV_at l k (by simpa using h)
    have e : spV (x :: l) = [.int .i64 (x.1 : Int), .int .i64 (x.2 : Int)] ++ spV l := by unfold spV; rw [List.flatMap_cons]
    have g : spF (x :: l) (k + 1) = spF l k := by unfold spF; simp
    rw [e, g]
    have s0 : (k + 1) * 2 = 2 + k * 2 := by omega
    refine ⟨?_, ?_⟩
    · rw [s0, List.getElem?_append_right (by simp)]; simpa using ih.1
    · rw [s0, List.getElem?_append_right (by simp; omega)]; have := ih.2; simp only [List.length_cons, List.length_nil]; rw [show 2 + k * 2 + 1 - (0 + 1 + 1) = k * 2 + 1 by omega]; exact this
theorem spV_set : ∀ (l : List (Nat × Nat)) (k : Nat), k < l.length → ∀ x : Nat × Nat, spV (l.set k x) = ((spV l).set (k * 2) (.int .i64 (x.1 : Int))).set (k * 2 + 1) (.int .i64 (x.2 : Int))
  | [], k, h, _ => absurd h (Nat.not_lt_zero _)
  | y :: l, 0, _, x => by unfold spV; rw [List.set_cons_zero, List.flatMap_cons, List.flatMap_cons]; simp
  | y :: l, k + 1, h, x => by
    have ih := spV_set l k (by simpa using h) x
    have e : ∀ (y : Nat × Nat) (l : List (Nat × Nat)), spV (y :: l) = .int .i64 (y.1 : Int) :: .int .i64 (y.2 : Int) :: spV l := fun y l => by unfold spV; rw [List.flatMap_cons]; rfl
    rw [List.set_cons_succ, e, e, ih]
    have s0 : (k + 1) * 2 = k * 2 + 1 + 1 := by omega
    rw [s0, List.set_cons_succ, List.set_cons_succ, List.set_cons_succ, List.set_cons_succ]
theorem infoSp : (Tryd.prog.info? 74).map (fun i => (i.zero, i.size, i.bytes)) = some (some (.agg #[.int .i64 0, .int .i64 0]), 2, 16) := by kernel_rfl
def natI (q : List Nat) : List Int := q.map fun x => ((x : Nat) : Int)
theorem natI_len (q : List Nat) : (natI q).length = q.length := by simp [natI]
/-- Blocks from lo on that do not lie in the gap. -/
def gapF (lo l0 h0 j0 j1 : Nat) (k : Nat) : Prop := lo ≤ k ∧ (k < l0 ∨ h0 ≤ k) ∧ (k < j0 ∨ j1 ≤ k)
/-- The parts in memory. -/
structure Pt (W : World) (lo l0 h0 j0 j1 P R L C n : Nat) (ro pl cl : Nat → Nat) (vs : Value) (sp : List (Nat × Nat)) (vq : Value) (q : List Nat) : Prop where
  blk : W.heap[P]? = some (.cells #[.slice (some ⟨R, 0, none⟩) n n, .slice (some ⟨L, 0, none⟩) n n, .slice (some ⟨C, 0, none⟩) n n, vs, vq] 67 (0, 0))
  row : Ov W R n ro
  place : Ov W L n pl
  class' : Ov W C n cl
  spans : W.ownsRow lo 74 2 vs sp.length (spV sp)
  queue : OwnI W lo vq (natI q)
  gs : ∀ k, vs.ownBlock = some k → gapF lo l0 h0 j0 j1 k
  gq : ∀ k, vq.ownBlock = some k → gapF lo l0 h0 j0 j1 k
  ne : P ≠ R ∧ P ≠ L ∧ P ≠ C ∧ R ≠ L ∧ R ≠ C ∧ L ≠ C
  g4 : gapF lo l0 h0 j0 j1 P ∧ gapF lo l0 h0 j0 j1 R ∧ gapF lo l0 h0 j0 j1 L ∧ gapF lo l0 h0 j0 j1 C
  nq : ∀ k, vq.ownBlock = some k → k ≠ R ∧ k ≠ L ∧ k ≠ C
  big : h0 ≤ W.heap.size
  lol : lo ≤ l0
  bj : j1 ≤ W.heap.size
theorem own_ty {W : World} {lo t s n k : Nat} {v : Value} {xs : List Value} (h : W.ownsRow lo t s v n xs) (hk : v.ownBlock = some k) : ∃ cs, W.heap[k]? = some (.cells cs t (0, 0)) := by
  rcases h.2 with ⟨rfl, _⟩ | ⟨g, cap, cur, rfl, _, hr, _⟩
  · cases hk
  · have : g = k := by simpa [Value.ownBlock] using hk
    subst this
    exact ⟨_, hr⟩
theorem own_neq {W : World} {lo t s n lo' t' s' n' k k' : Nat} {v v' : Value} {xs xs' : List Value} (h : W.ownsRow lo t s v n xs) (h' : W.ownsRow lo' t' s' v' n' xs') (hk : v.ownBlock = some k) (hk' : v'.ownBlock = some k') (ht : t ≠ t') : k ≠ k' := by
  intro e
  subst e
  obtain ⟨cs, h1⟩ := own_ty h hk
  obtain ⟨cs', h2⟩ := own_ty h' hk'
  rw [h1] at h2
  injection h2 with h2
  injection h2 with _ h2
  exact ht h2
theorem ov_ty {W : World} {G n : Nat} {p : Nat → Nat} {k : Nat} {cs : Array Value} {t : TypeId} (h : Ov W G n p) (hk : W.heap[k]? = some (.cells cs t (0, 0))) (ht : t ≠ 3) : k ≠ G := by
  intro e
  subst e
  rw [h.blk] at hk
  injection hk with hk
  injection hk with _ hk
  exact ht hk.symm
section
variable {W W' : World} {lo l0 h0 j0 j1 P R L C n : Nat} {ro pl cl : Nat → Nat} {vs vq : Value} {sp : List (Nat × Nat)} {q : List Nat}
theorem Pt.cell (h : Pt W lo l0 h0 j0 j1 P R L C n ro pl cl vs sp vq q) : W.cell? ⟨P, 0, none⟩ = some (.slice (some ⟨R, 0, none⟩) n n) ∧ W.cell? ⟨P, 1, none⟩ = some (.slice (some ⟨L, 0, none⟩) n n) ∧ W.cell? ⟨P, 2, none⟩ = some (.slice (some ⟨C, 0, none⟩) n n) ∧ W.cell? ⟨P, 3, none⟩ = some vs ∧ W.cell? ⟨P, 4, none⟩ = some vq := by
  refine ⟨?_, ?_, ?_, ?_, ?_⟩ <;> (rw [cell_of_row _ _ _ _ _ _ h.blk]; rfl)
theorem Pt.frozen (h : Pt W lo l0 h0 j0 j1 P R L C n ro pl cl vs sp vq q) (o : Nat) : W.frozen? ⟨P, o, none⟩ = false := by simp [World.frozen?, h.blk]
theorem Pt.lt (h : Pt W lo l0 h0 j0 j1 P R L C n ro pl cl vs sp vq q) : P < W.heap.size ∧ R < W.heap.size ∧ L < W.heap.size ∧ C < W.heap.size := ⟨(Array.getElem?_eq_some_iff.1 h.blk).1, h.row.lt, h.place.lt, h.class'.lt⟩
/-- Where spans lie. -/
theorem Pt.span (h : Pt W lo l0 h0 j0 j1 P R L C n ro pl cl vs sp vq q) {k : Nat} (hk : k < sp.length) : ∃ g c, vs = .slice (some ⟨g, 0, none⟩) sp.length c ∧ W.cell? ⟨g, k * 2, none⟩ = some (.int .i64 ((spF sp k).1 : Int)) ∧ W.cell? ⟨g, k * 2 + 1, none⟩ = some (.int .i64 ((spF sp k).2 : Int)) ∧ (∀ o, W.frozen? ⟨g, o, none⟩ = false) ∧ vs.ownBlock = some g := by
  have h0 := h.spans
  rcases h.spans.2 with ⟨e, hn⟩ | ⟨g, cap, cur, e, hg, hr, hc, _⟩
  · omega
  · subst e
    obtain ⟨m0, m1⟩ := spV_at sp k hk
    have c0 := World.ownsRow.cellAt h0 (k * 2) (by omega)
    have c1 := World.ownsRow.cellAt h0 (k * 2 + 1) (by omega)
    exact ⟨g, cap, rfl, c0.trans m0, c1.trans m1, fun o => by simp [World.frozen?, hr], rfl⟩
theorem Pt.past (h : Pt W lo l0 h0 j0 j1 P R L C n ro pl cl vs sp vq q) (hb : Below W.heap.size W W') : Pt W' lo l0 h0 j0 j1 P R L C n ro pl cl vs sp vq q :=
  ⟨(hb.block _ h.lt.1).trans h.blk, h.row.keep (hb.block _ h.lt.2.1), h.place.keep (hb.block _ h.lt.2.2.1), h.class'.keep (hb.block _ h.lt.2.2.2), own_blk h.spans (fun k hk => hb.block _ (World.ownsRow.lt h.spans k hk).2), own_blk h.queue (fun k hk => hb.block _ (World.ownsRow.lt h.queue k hk).2), h.gs, h.gq, h.ne, h.g4, h.nq, Nat.le_trans h.big hb.size, h.lol, Nat.le_trans h.bj hb.size⟩
/-- The world is another one where none of the parts lies. -/
theorem Pt.only {S : Nat → Prop} (h : Pt W lo l0 h0 j0 j1 P R L C n ro pl cl vs sp vq q) (hb : Only W W' S) (hS : ∀ k, S k → ¬ gapF lo l0 h0 j0 j1 k) : Pt W' lo l0 h0 j0 j1 P R L C n ro pl cl vs sp vq q := by
  obtain ⟨g1, g2, g3, g4⟩ := h.g4
  exact ⟨(hb.block _ h.lt.1 (fun s => hS _ s g1)).trans h.blk, h.row.keep (hb.block _ h.lt.2.1 (fun s => hS _ s g2)), h.place.keep (hb.block _ h.lt.2.2.1 (fun s => hS _ s g3)), h.class'.keep (hb.block _ h.lt.2.2.2 (fun s => hS _ s g4)), own_blk h.spans (fun k hk => hb.block _ (World.ownsRow.lt h.spans k hk).2 (fun s => hS _ s (h.gs k hk))), own_blk h.queue (fun k hk => hb.block _ (World.ownsRow.lt h.queue k hk).2 (fun s => hS _ s (h.gq k hk))), h.gs, h.gq, h.ne, h.g4, h.nq, Nat.le_trans h.big hb.size, h.lol, Nat.le_trans h.bj hb.size⟩
/-- Another gap, that lies behind all that there is. -/
theorem Pt.gap (h : Pt W lo l0 h0 j0 j1 P R L C n ro pl cl vs sp vq q) (hb : Below W.heap.size W W') : Pt W' lo W.heap.size W'.heap.size j0 j1 P R L C n ro pl cl vs sp vq q := by
  obtain ⟨g1, g2, g3, g4⟩ := h.g4
  obtain ⟨l1, l2, l3, l4⟩ := h.lt
  have h2 := h.past hb
  exact ⟨h2.blk, h2.row, h2.place, h2.class', h2.spans, h2.queue, fun k hk => ⟨(h.gs k hk).1, .inl (World.ownsRow.lt h.spans k hk).2, (h.gs k hk).2.2⟩, fun k hk => ⟨(h.gq k hk).1, .inl (World.ownsRow.lt h.queue k hk).2, (h.gq k hk).2.2⟩, h.ne, ⟨⟨g1.1, .inl l1, g1.2.2⟩, ⟨g2.1, .inl l2, g2.2.2⟩, ⟨g3.1, .inl l3, g3.2.2⟩, ⟨g4.1, .inl l4, g4.2.2⟩⟩, h.nq, Nat.le_refl _, by have := g1.1; omega, h2.bj⟩
/-- Blocks that were made meanwhile are none of the parts'. -/
theorem Pt.setJ (h : Pt W lo l0 h0 j0 j1 P R L C n ro pl cl vs sp vq q) (hb : Below W.heap.size W W') : Pt W' lo l0 h0 W.heap.size W'.heap.size P R L C n ro pl cl vs sp vq q := by
  obtain ⟨g1, g2, g3, g4⟩ := h.g4
  obtain ⟨l1, l2, l3, l4⟩ := h.lt
  have h2 := h.past hb
  exact ⟨h2.blk, h2.row, h2.place, h2.class', h2.spans, h2.queue, fun k hk => ⟨(h.gs k hk).1, (h.gs k hk).2.1, .inl (World.ownsRow.lt h.spans k hk).2⟩, fun k hk => ⟨(h.gq k hk).1, (h.gq k hk).2.1, .inl (World.ownsRow.lt h.queue k hk).2⟩, h.ne, ⟨⟨g1.1, g1.2.1, .inl l1⟩, ⟨g2.1, g2.2.1, .inl l2⟩, ⟨g3.1, g3.2.1, .inl l3⟩, ⟨g4.1, g4.2.1, .inl l4⟩⟩, h.nq, h2.big, h.lol, Nat.le_refl _⟩
/-- The world is another one from a block on that lies behind all parts. -/
structure PtLow (z P R L C : Nat) (vs vq : Value) : Prop where
  b4 : P < z ∧ R < z ∧ L < z ∧ C < z
  s : ∀ k, vs.ownBlock = some k → k < z
  q : ∀ k, vq.ownBlock = some k → k < z
theorem Pt.low (h : Pt W lo l0 h0 j0 j1 P R L C n ro pl cl vs sp vq q) : PtLow W.heap.size P R L C vs vq := ⟨h.lt, fun k hk => (World.ownsRow.lt h.spans k hk).2, fun k hk => (World.ownsRow.lt h.queue k hk).2⟩
theorem Pt.far {z : Nat} (h : Pt W lo l0 h0 j0 j1 P R L C n ro pl cl vs sp vq q) (hl : PtLow z P R L C vs vq) (ho : Only W W' (fun b => z ≤ b)) : Pt W' lo l0 h0 j0 j1 P R L C n ro pl cl vs sp vq q := by
  obtain ⟨m1, m2, m3, m4⟩ := hl.b4
  exact ⟨(ho.block _ h.lt.1 (by omega)).trans h.blk, h.row.keep (ho.block _ h.lt.2.1 (by omega)), h.place.keep (ho.block _ h.lt.2.2.1 (by omega)), h.class'.keep (ho.block _ h.lt.2.2.2 (by omega)), own_blk h.spans (fun k hk => ho.block _ (World.ownsRow.lt h.spans k hk).2 (by have := hl.s k hk; omega)), own_blk h.queue (fun k hk => ho.block _ (World.ownsRow.lt h.queue k hk).2 (by have := hl.q k hk; omega)), h.gs, h.gq, h.ne, h.g4, h.nq, Nat.le_trans h.big ho.size, h.lol, Nat.le_trans h.bj ho.size⟩
/-- The row and the places have changed. -/
theorem Pt.rows (h : Pt W lo l0 h0 j0 j1 P R L C n ro pl cl vs sp vq q) {ro' pl' : Nat → Nat} (ho : Only W W' (fun k => k = R ∨ k = L)) (h1 : Ov W' R n ro') (h2 : Ov W' L n pl') : Pt W' lo l0 h0 j0 j1 P R L C n ro' pl' cl vs sp vq q := by
  obtain ⟨n1, n2, n3, n4, n5, n6⟩ := h.ne
  have ks : ∀ k, vs.ownBlock = some k → ¬ (k = R ∨ k = L) := fun k hk => by
    obtain ⟨cs, e⟩ := own_ty h.spans hk
    have a1 := ov_ty h.row e (by decide)
    have a2 := ov_ty h.place e (by decide)
    omega
  exact ⟨(ho.block _ h.lt.1 (by omega)).trans h.blk, h1, h2, h.class'.keep (ho.block _ h.lt.2.2.2 (by omega)), own_blk h.spans (fun k hk => ho.block _ (World.ownsRow.lt h.spans k hk).2 (ks k hk)), own_blk h.queue (fun k hk => ho.block _ (World.ownsRow.lt h.queue k hk).2 (by have := h.nq k hk; omega)), h.gs, h.gq, h.ne, h.g4, h.nq, Nat.le_trans h.big ho.size, h.lol, Nat.le_trans h.bj ho.size⟩
end
end Go.Proofs.YtjmmckkiicefhaaDoor
namespace Go.Proofs.YtjmmckkiicefhaaDoor
open Go.RowKit Go.Shelf
set_option maxRecDepth 10000 in
set_option maxHeartbeats 800000 in
theorem size_any (a b : Nat) (w : World) (h : a ≤ b) (hb : b ≤ 100000000000) : Calls Tryd.prog 50 #[.agg #[.int .i64 (a : Int), .int .i64 (b : Int)]] w fun e w' => e = .returned (.int .i64 ((b - a : Nat) : Int)) ∧ Below w.heap.size w w' := by
  obtain ⟨w0, hw0⟩ : ∃ w0, w0 = w.alloc (.cells #[.int .i64 (a : Int), .int .i64 (b : Int)] 74) := ⟨_, rfl⟩
  have HB0 : Hid (Below w.heap.size w w0) := hid0 (by rw [hw0]; exact (Below.refl _ _).alloc (Nat.le_refl _) _)
  have hX0 : w0.heap[w.heap.size]? = some (.cells #[.int .i64 (a : Int), .int .i64 (b : Int)] 74 (0, 0)) := by rw [hw0]; exact heap_alloc_new w _
  have x0 : w0.cell? ⟨w.heap.size, 0, none⟩ = some (.int .i64 (a : Int)) := by rw [cell_of_row _ _ _ _ _ _ hX0]; rfl
  have x1 : w0.cell? ⟨w.heap.size, 1, none⟩ = some (.int .i64 (b : Int)) := by rw [cell_of_row _ _ _ _ _ _ hX0]; rfl
  obtain ⟨d, hd⟩ : ∃ d : Nat, d = b - a := ⟨_, rfl⟩
  have hdI : (b : Int) - (a : Int) = (d : Int) := by omega
  have hdW : IntKind.i64.wrap (d : Int) = (d : Int) := by simp [IntKind.wrap, IntKind.bits, IntKind.signed]; omega
  rw [← hd]
  have hfold := hw0.symm
  clear hw0 hX0 hd h hb
  go_enter Tryd.func50, Tryd.ntmps50
  go_wp2
  go_ret
  exact ⟨rfl, HB0.out⟩
set_option maxRecDepth 10000 in
set_option maxHeartbeats 1600000 in
theorem swap_any (lo l0 h0 j0 j1 P R L C n i j : Nat) (ro pl cl : Nat → Nat) (vs : Value) (sp : List (Nat × Nat)) (vq : Value) (q : List Nat) (w : World) (hp : Pt w lo l0 h0 j0 j1 P R L C n ro pl cl vs sp vq q) (hi : i < n) (hj : j < n) (ha : ro i < n) (hb : ro j < n) (_hn : n ≤ 100000000000) :
    Calls Tryd.prog 49 #[.pointer (some ⟨P, 0, none⟩), .int .i64 (i : Int), .int .i64 (j : Int)] w fun e w' => e = .returned (.tuple #[]) ∧ Pt w' lo l0 h0 j0 j1 P R L C n (swR ro i j) (swP ro pl i j) cl vs sp vq q ∧ Only w w' (fun k => k = R ∨ k = L) ∧ w'.heap.size = w.heap.size := by
  obtain ⟨c0, c1, _, _, _⟩ := hp.cell
  have r1 := hp.row.cell hi
  have r2 := hp.row.cell hj
  have hiI : (i : Int) < (n : Int) := by omega
  have hjI : (j : Int) < (n : Int) := by omega
  have hi0 : (0 : Int) ≤ (i : Int) := by omega
  have hj0 : (0 : Int) ≤ (j : Int) := by omega
  have HP := hid0 hp
  obtain ⟨n1, n2, n3, n4, n5, n6⟩ := hp.ne
  clear hp
  obtain ⟨a, hae⟩ : ∃ a, a = ro i := ⟨_, rfl⟩
  obtain ⟨b, hbe⟩ : ∃ b, b = ro j := ⟨_, rfl⟩
  rw [← hae] at r1 ha
  rw [← hbe] at r2 hb
  have haI : (a : Int) < (n : Int) := by omega
  have hbI : (b : Int) < (n : Int) := by omega
  have ha0 : (0 : Int) ≤ (a : Int) := by omega
  have hb0 : (0 : Int) ≤ (b : Int) := by omega
  have HAe := hid0 hae
  have HBe := hid0 hbe
  clear hae hbe
  go_enter Tryd.func49, Tryd.ntmps49
  go_wp2
  go_quiet ((fail))
  have hP1 : Pt (w.drewN (nq + 1)) lo l0 h0 j0 j1 P R L C n ro pl cl vs sp vq q := HP.out.past (below_drew' (Below.refl _ _) _)
  obtain ⟨v1, hv1⟩ : ∃ v1, v1 = (w.drewN (nq + 1)).setCell ⟨R, i, none⟩ (.int .i64 (b : Int)) := ⟨_, rfl⟩
  have o1 : Ov v1 R n (putF ro i b) := by rw [hv1]; exact hP1.row.put b
  have k1 : Oth1 (w.drewN (nq + 1)) v1 R := by rw [hv1]; exact Oth1.setCell _ _ _ _
  obtain ⟨v2, hv2⟩ : ∃ v2, v2 = v1.setCell ⟨R, j, none⟩ (.int .i64 (a : Int)) := ⟨_, rfl⟩
  have o2 : Ov v2 R n (swR ro i j) := by rw [hv2, swR, ← HAe.out, ← HBe.out]; exact o1.put a
  have k2 : Oth1 (w.drewN (nq + 1)) v2 R := k1.trans (by rw [hv2]; exact Oth1.setCell _ _ _ _)
  have f1 : (w.drewN (nq + 1)).frozen? ⟨R, i, none⟩ = false := hP1.row.frozen i
  have f2 : v1.frozen? ⟨R, j, none⟩ = false := o1.frozen j
  have e2 := o1.cell hj
  have p1 : Ov v2 L n pl := hP1.place.keep (k2.oth _ (fun e => n4 e.symm))
  obtain ⟨v3, hv3⟩ : ∃ v3, v3 = v2.drew.setCell ⟨L, a, none⟩ (.int .i64 (j : Int)) := ⟨_, rfl⟩
  have p3 : Ov v3 L n (putF pl a j) := by rw [hv3]; exact (p1.keep rfl : Ov v2.drew L n pl).put j
  have k3 : Oth1 v2.drew v3 L := by rw [hv3]; exact Oth1.setCell _ _ _ _
  obtain ⟨v4, hv4⟩ : ∃ v4, v4 = v3.setCell ⟨L, b, none⟩ (.int .i64 (i : Int)) := ⟨_, rfl⟩
  have p4 : Ov v4 L n (swP ro pl i j) := by rw [hv4, swP, ← HAe.out, ← HBe.out]; exact p3.put i
  have k4 : Oth1 v2.drew v4 L := k3.trans (by rw [hv4]; exact Oth1.setCell _ _ _ _)
  have g1 : v2.drew.frozen? ⟨L, a, none⟩ = false := (p1.keep rfl : Ov v2.drew L n pl).frozen a
  have g2 : v3.frozen? ⟨L, b, none⟩ = false := p3.frozen b
  have d1 : v2.drew.cell? ⟨P, 1, none⟩ = some (.slice (some ⟨L, 0, none⟩) n n) := (k2.cell n1).trans c1
  have d2 := (p1.keep rfl : Ov v2.drew L n pl).cell ha
  have d3 := p3.cell hb
  have HO : Hid (Only w v4 (fun k => k = R ∨ k = L)) := hid0 ⟨by rw [k4.os]; exact k2.os, by rw [k4.tape]; exact k2.tape, by rw [k4.output]; exact k2.output, by rw [k4.size]; show _ ≤ v2.heap.size; rw [k2.size]; exact Nat.le_refl _, fun k _ hk => (k4.oth k (fun e => hk (.inr e))).trans (k2.oth k (fun e => hk (.inl e)))⟩
  have HZ : Hid (v4.heap.size = w.heap.size) := hid0 (by rw [k4.size]; exact k2.size)
  have HPt : Hid (Pt v4 lo l0 h0 j0 j1 P R L C n (swR ro i j) (swP ro pl i j) cl vs sp vq q) := hid0 (HP.out.rows HO.out (o2.keep (k4.oth _ n4)) p4)
  have q1 := hv1.symm
  have q2 := hv2.symm
  have q3 := hv3.symm
  have q4 := hv4.symm
  clear hv1 hv2 hv3 hv4 hP1 o1 k1 o2 k2 p1 p3 k3 p4 k4
  go_wp2
  go_region
  go_wp2
  go_region
  go_wp2
  go_returns
  exact ⟨rfl, HPt.out, HO.out, HZ.out⟩
end Go.Proofs.YtjmmckkiicefhaaDoor
namespace Go.Proofs.YtjmmckkiicefhaaDoor
open Go.RowKit Go.Shelf
section
variable {W W' w2 : World} {lo l0 h0 j0 j1 P R L C n : Nat} {ro pl cl : Nat → Nat} {vs vq v' : Value} {sp : List (Nat × Nat)} {q : List Nat}
theorem blk_ne {W : World} {a b : Nat} {ca cb : Array Value} {ta tb : TypeId} (ha : W.heap[a]? = some (.cells ca ta (0, 0))) (hb : W.heap[b]? = some (.cells cb tb (0, 0))) (ht : ta ≠ tb) : a ≠ b := by
  intro e
  subst e
  rw [ha] at hb
  injection hb with hb
  injection hb with _ hb
  exact ht hb
/-- Nothing but the block of the spans has changed. -/
theorem Pt.spansTo (h : Pt W lo l0 h0 j0 j1 P R L C n ro pl cl vs sp vq q) {sp' : List (Nat × Nat)} (ho : Only W W' (fun k => vs.ownBlock = some k)) (_hown : W'.ownsRow lo 74 2 v' sp'.length (spV sp')) :
    W'.heap[P]? = W.heap[P]? ∧ Ov W' R n ro ∧ Ov W' L n pl ∧ Ov W' C n cl ∧ OwnI W' lo vq (natI q) := by
  have key : ∀ {b : Nat} {cb : Array Value} {tb : TypeId}, W.heap[b]? = some (.cells cb tb (0, 0)) → tb ≠ 74 → W'.heap[b]? = W.heap[b]? := fun {b cb tb} hb ht => ho.block _ (Array.getElem?_eq_some_iff.1 hb).1 (fun e => by
    obtain ⟨cs, hc⟩ := own_ty h.spans e
    exact blk_ne hb hc ht rfl)
  refine ⟨key h.blk (by decide), h.row.keep (key h.row.blk (by decide)), h.place.keep (key h.place.blk (by decide)), h.class'.keep (key h.class'.blk (by decide)), own_blk h.queue (fun k hk => ?_)⟩
  obtain ⟨cs, hc⟩ := own_ty h.queue hk
  exact key hc (by decide)
theorem Pt.setSpan {g c : Nat} (h : Pt W lo l0 h0 j0 j1 P R L C n ro pl cl (.slice (some ⟨g, 0, none⟩) sp.length c) sp vq q) {k : Nat} (hk : k < sp.length) (x : Nat × Nat) :
    Pt ((W.setCell ⟨g, k * 2, none⟩ (.int .i64 (x.1 : Int))).setCell ⟨g, k * 2 + 1, none⟩ (.int .i64 (x.2 : Int))) lo l0 h0 j0 j1 P R L C n ro pl cl (.slice (some ⟨g, 0, none⟩) sp.length c) (sp.set k x) vq q ∧ Only W ((W.setCell ⟨g, k * 2, none⟩ (.int .i64 (x.1 : Int))).setCell ⟨g, k * 2 + 1, none⟩ (.int .i64 (x.2 : Int))) (fun b => b = g) := by
  have h1 := World.ownsRow.stored h.spans (k * 2) (.int .i64 (x.1 : Int))
  have h2 := World.ownsRow.stored h1.1 (k * 2 + 1) (.int .i64 (x.2 : Int))
  have ho : Only W ((W.setCell ⟨g, k * 2, none⟩ (.int .i64 (x.1 : Int))).setCell ⟨g, k * 2 + 1, none⟩ (.int .i64 (x.2 : Int))) (fun b => b = g) := (Only.setCell _ _ _ _).trans (Only.setCell _ _ _ _) (fun _ h => .inl h)
  have h3 := h2.1
  rw [← spV_set sp k hk x] at h3
  have h3' : ((W.setCell ⟨g, k * 2, none⟩ (.int .i64 (x.1 : Int))).setCell ⟨g, k * 2 + 1, none⟩ (.int .i64 (x.2 : Int))).ownsRow lo 74 2 (.slice (some ⟨g, 0, none⟩) sp.length c) (sp.set k x).length (spV (sp.set k x)) := by rw [List.length_set]; exact h3
  obtain ⟨e1, e2, e3, e4, e5⟩ := h.spansTo (ho.mono (fun b hb => by rw [hb]; rfl)) h3'
  exact ⟨⟨e1.trans h.blk, e2, e3, e4, h3', e5, h.gs, h.gq, h.ne, h.g4, h.nq, Nat.le_trans h.big ho.size, h.lol, Nat.le_trans h.bj ho.size⟩, ho⟩
/-- One more span. -/
theorem Pt.addSpan (h : Pt W lo l0 h0 j0 j1 P R L C n ro pl cl vs sp vq q) (x : Nat × Nat) (ho : Only W w2 (fun k => vs.ownBlock = some k)) (hown : w2.ownsRow lo 74 2 v' (sp.length + 1) (spV sp ++ [.int .i64 (x.1 : Int), .int .i64 (x.2 : Int)])) (hat : v'.ownBlock = vs.ownBlock ∨ ∃ z, W.heap.size ≤ z ∧ v'.ownBlock = some z) :
    Pt (w2.setCell ⟨P, 3, none⟩ v') lo l0 h0 j0 j1 P R L C n ro pl cl v' (sp ++ [x]) vq q ∧ w2.cell? ⟨P, 3, none⟩ = some vs ∧ w2.frozen? ⟨P, 3, none⟩ = false ∧ Only W (w2.setCell ⟨P, 3, none⟩ v') (fun k => vs.ownBlock = some k ∨ k = P) := by
  have hl : (sp ++ [x]).length = sp.length + 1 := by simp
  have hown' : w2.ownsRow lo 74 2 v' (sp ++ [x]).length (spV (sp ++ [x])) := by rw [hl, spV_snoc]; exact hown
  obtain ⟨e1, e2, e3, e4, e5⟩ := h.spansTo ho hown'
  have hP := e1.trans h.blk
  obtain ⟨n1, n2, n3, n4, n5, n6⟩ := h.ne
  have key : ∀ b, b ≠ P → (w2.setCell ⟨P, 3, none⟩ v').heap[b]? = w2.heap[b]? := fun b hb => Below.heap_setCell _ _ _ _ hb
  have hsn : ∀ k, v'.ownBlock = some k → k ≠ P := fun k hk => by
    obtain ⟨cs, hc⟩ := own_ty hown' hk
    exact blk_ne hc hP (by decide)
  have hqn : ∀ k, vq.ownBlock = some k → k ≠ P := fun k hk => by
    obtain ⟨cs, hc⟩ := own_ty e5 hk
    exact blk_ne hc hP (by decide)
  refine ⟨⟨heap_setCell_same _ _ 3 _ _ v' hP, e2.keep (key _ (Ne.symm n1)), e3.keep (key _ (Ne.symm n2)), e4.keep (key _ (Ne.symm n3)), own_blk hown' (fun k hk => key _ (hsn k hk)), own_blk e5 (fun k hk => key _ (hqn k hk)), fun k hk => ?_, h.gq, h.ne, h.g4, h.nq, by have := h.big; have := ho.size; simp [World.setCell]; omega, h.lol, by have := h.bj; have := ho.size; simp [World.setCell]; omega⟩, by rw [cell_of_row _ _ _ _ _ _ hP]; rfl, by simp [World.frozen?, hP], ?_⟩
  · rcases hat with e | ⟨z, hz, e⟩
    · exact h.gs k (by rw [← e]; exact hk)
    · rw [e] at hk
      cases hk
      have := h.big
      have := h.lol
      have := h.g4.1.1
      have := h.lt.1
      have := h.bj
      exact ⟨by omega, .inr (by omega), .inr (by omega)⟩
  · exact (ho.mono (T := fun k => vs.ownBlock = some k ∨ k = P) (fun k hk => .inl hk)).trans (Only.setCell _ _ _ _) (fun k hk => .inl (.inr hk))
/-- One more in the queue. -/
theorem Pt.addQueue (h : Pt W lo l0 h0 j0 j1 P R L C n ro pl cl vs sp vq q) (x : Nat) (ho : Only W w2 (fun k => vq.ownBlock = some k)) (hown : w2.ownsRow lo 3 1 v' (q.length + 1) ((natI q).map (Value.int .i64) ++ [.int .i64 (x : Int)])) (hat : v'.ownBlock = vq.ownBlock ∨ ∃ z, W.heap.size ≤ z ∧ v'.ownBlock = some z) :
    Pt (w2.setCell ⟨P, 4, none⟩ v') lo l0 h0 j0 j1 P R L C n ro pl cl vs sp v' (q ++ [x]) ∧ w2.cell? ⟨P, 4, none⟩ = some vq ∧ w2.frozen? ⟨P, 4, none⟩ = false ∧ Only W (w2.setCell ⟨P, 4, none⟩ v') (fun k => vq.ownBlock = some k ∨ k = P) := by
  have hown' : OwnI w2 lo v' (natI (q ++ [x])) := by
    unfold OwnI
    rw [natI_len, List.length_append, List.length_singleton]
    have : natI (q ++ [x]) = natI q ++ [(x : Int)] := by simp [natI]
    rw [this, List.map_append]
    exact hown
  obtain ⟨n1, n2, n3, n4, n5, n6⟩ := h.ne
  have kq : ∀ {b : Nat}, b < W.heap.size → (∀ k, vq.ownBlock = some k → b ≠ k) → w2.heap[b]? = W.heap[b]? := fun {b} hb hne => ho.block b hb (fun e => hne b e rfl)
  have tq : ∀ {b : Nat} {cb : Array Value} {tb : TypeId}, W.heap[b]? = some (.cells cb tb (0, 0)) → tb ≠ 3 → w2.heap[b]? = W.heap[b]? := fun {b cb tb} hb ht => kq (Array.getElem?_eq_some_iff.1 hb).1 (fun k hk => by
    obtain ⟨cs, hc⟩ := own_ty h.queue hk
    exact blk_ne hb hc ht)
  have hP := (tq h.blk (by decide)).trans h.blk
  have e2 := h.row.keep (kq h.lt.2.1 (fun k hk => Ne.symm (h.nq k hk).1))
  have e3 := h.place.keep (kq h.lt.2.2.1 (fun k hk => Ne.symm (h.nq k hk).2.1))
  have e4 := h.class'.keep (kq h.lt.2.2.2 (fun k hk => Ne.symm (h.nq k hk).2.2))
  have e5 : w2.ownsRow lo 74 2 vs sp.length (spV sp) := own_blk h.spans (fun k hk => by
    obtain ⟨cs, hc⟩ := own_ty h.spans hk
    exact tq hc (by decide))
  have key : ∀ b, b ≠ P → (w2.setCell ⟨P, 4, none⟩ v').heap[b]? = w2.heap[b]? := fun b hb => Below.heap_setCell _ _ _ _ hb
  have hsn : ∀ k, vs.ownBlock = some k → k ≠ P := fun k hk => by
    obtain ⟨cs, hc⟩ := own_ty e5 hk
    exact blk_ne hc hP (by decide)
  have hqn : ∀ k, v'.ownBlock = some k → k ≠ P := fun k hk => by
    obtain ⟨cs, hc⟩ := own_ty hown' hk
    exact blk_ne hc hP (by decide)
  obtain ⟨l1, l2, l3, l4⟩ := h.lt
  refine ⟨⟨heap_setCell_same _ _ 4 _ _ v' hP, e2.keep (key _ (Ne.symm n1)), e3.keep (key _ (Ne.symm n2)), e4.keep (key _ (Ne.symm n3)), own_blk e5 (fun k hk => key _ (hsn k hk)), own_blk hown' (fun k hk => key _ (hqn k hk)), h.gs, fun k hk => ?_, h.ne, h.g4, fun k hk => ?_, by have := h.big; have := ho.size; simp [World.setCell]; omega, h.lol, by have := h.bj; have := ho.size; simp [World.setCell]; omega⟩, by rw [cell_of_row _ _ _ _ _ _ hP]; rfl, by simp [World.frozen?, hP], ?_⟩
  · rcases hat with e | ⟨z, hz, e⟩
    · exact h.gq k (by rw [← e]; exact hk)
    · rw [e] at hk
      cases hk
      have := h.big
      have := h.g4.1.1
      have := h.bj
      exact ⟨by omega, .inr (by omega), .inr (by omega)⟩
  · rcases hat with e | ⟨z, hz, e⟩
    · exact h.nq k (by rw [← e]; exact hk)
    · rw [e] at hk
      cases hk
      omega
  · exact (ho.mono (T := fun k => vq.ownBlock = some k ∨ k = P) (fun k hk => .inl hk)).trans (Only.setCell _ _ _ _) (fun k hk => .inl (.inr hk))
/-- A class is another. -/
theorem Pt.setClass (h : Pt W lo l0 h0 j0 j1 P R L C n ro pl cl vs sp vq q) (s k : Nat) : Pt (W.setCell ⟨C, s, none⟩ (.int .i64 (k : Int))) lo l0 h0 j0 j1 P R L C n ro pl (putF cl s k) vs sp vq q := by
  obtain ⟨n1, n2, n3, n4, n5, n6⟩ := h.ne
  have key : ∀ b, b ≠ C → (W.setCell ⟨C, s, none⟩ (.int .i64 (k : Int))).heap[b]? = W.heap[b]? := fun b hb => Below.heap_setCell _ _ _ _ hb
  exact ⟨(key _ n3).trans h.blk, h.row.keep (key _ n5), h.place.keep (key _ n6), h.class'.put k, own_blk h.spans (fun b hb => key _ (by
    obtain ⟨cs, hc⟩ := own_ty h.spans hb
    exact blk_ne hc h.class'.blk (by decide))), own_blk h.queue (fun b hb => key _ (h.nq b hb).2.2), h.gs, h.gq, h.ne, h.g4, h.nq, by have := h.big; simp [World.setCell]; omega, h.lol, by have := h.bj; simp [World.setCell]; omega⟩
theorem Pt.congr (h : Pt W lo l0 h0 j0 j1 P R L C n ro pl cl vs sp vq q) {cl' : Nat → Nat} (e : ∀ s, s < n → cl s = cl' s) : Pt W lo l0 h0 j0 j1 P R L C n ro pl cl' vs sp vq q := by
  have e4 : Ov W C n cl' := ⟨by
    have : ovF n cl = ovF n cl' := by
      unfold ovF
      exact List.map_congr_left (fun s hs => by rw [e s (List.mem_range.1 hs)])
    rw [← this]
    exact h.class'.blk⟩
  exact ⟨h.blk, h.row, h.place, e4, h.spans, h.queue, h.gs, h.gq, h.ne, h.g4, h.nq, h.big, h.lol, h.bj⟩
/-- All of it lies in the gap's outside. -/
theorem Pt.gap4 (h : Pt W lo l0 h0 j0 j1 P R L C n ro pl cl vs sp vq q) : ∀ k, vs.ownBlock = some k ∨ vq.ownBlock = some k ∨ k = P ∨ k = C → gapF lo l0 h0 j0 j1 k := by
  rintro k (h1 | h1 | rfl | rfl)
  · exact h.gs k h1
  · exact h.gq k h1
  · exact h.g4.1
  · exact h.g4.2.2.2
end
end Go.Proofs.YtjmmckkiicefhaaDoor
