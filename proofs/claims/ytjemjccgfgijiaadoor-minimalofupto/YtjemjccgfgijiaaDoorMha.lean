/-
  MrM, MiM, MiQM, MiMM, MiNM, MjM, MjNM, MjPM, MjIM, MjDM, SentW.
-/
import Derived.Laws.BitsAllLaws
import Derived.Test.YtjemjccgfgijiaaDoorProg
import Derived.WalkKit
import Derived.WalkSpells
import Derived.WalkLawsBesides
import Derived.Deep.QuietTactic
import Derived.BigQuiet
import Derived.LaidEql
import Derived.KernelRfl
namespace Go.Proofs.YtjemjccgfgijiaaDoor
/-- Is it one of so many? -/
def oneOf (n : Nat) (z : Int) : Bool := decide (0 ≤ z) && decide (z < (n : Int))
/-- Does a list rise, from lo on to below cnt? -/
def riseF (cnt : Int) : Int → List Int → Bool
  | _, [] => true
  | lo, z :: l => decide (lo ≤ z) && decide (z < cnt) && riseF cnt (z + 1) l
def rowF (n : Nat) (sy pa : Int) (r o : List Int) : Bool := decide ((r.length : Int) = sy) && r.all (oneOf n) && riseF pa 0 o
/-- May a machine be? -/
def chkF (st : Int) (N O : List (List Int)) (sy pa : Int) : Bool :=
  decide (1 ≤ sy ∧ sy ≤ 16384 ∧ 0 ≤ pa ∧ 1 ≤ N.length ∧ N.length ≤ 16384 ∧ O.length = N.length ∧ (N.length : Int) * sy ≤ 4194304) && oneOf N.length st && (List.range N.length).all fun j => rowF N.length sy pa (N.getD j []) (O.getD j [])
/-- The state to which a symbol leads. -/
def stepF (N : List (List Int)) (s : Nat) (z : Int) : Option Nat :=
  if 0 ≤ z ∧ z < ((N.getD s []).length : Int) then (if oneOf N.length ((N.getD s []).getD z.toNat 0) then some ((N.getD s []).getD z.toNat 0).toNat else none) else none
def goF (N : List (List Int)) : List Int → Nat → List Int → Option (List Int)
  | acc, _, [] => some acc
  | acc, s, z :: l => match stepF N s z with | none => none | some t => goF N (acc ++ [(t : Int)]) t l
/-- The states of a run; none: it is refused. -/
def runF (N : List (List Int)) (st : Int) (l : List Int) : Option (List Int) := if oneOf N.length st then goF N [st] st.toNat l else none
theorem oneOf_iff (n : Nat) (z : Int) : oneOf n z = true ↔ 0 ≤ z ∧ z < (n : Int) := by unfold oneOf; simp
theorem oneOf_not (n : Nat) (z : Int) : oneOf n z = false ↔ ¬ (0 ≤ z ∧ z < (n : Int)) := by rw [← oneOf_iff]; simp
theorem goF_len (N : List (List Int)) : ∀ (l acc : List Int) (s : Nat) (r : List Int), goF N acc s l = some r → r.length = acc.length + l.length := by
  intro l
  induction l with
  | nil => intro acc s r h; rw [goF] at h; cases h; simp
  | cons z l ih =>
    intro acc s r h
    rw [goF] at h
    split at h
    · cases h
    · have := ih _ _ _ h
      simp at this ⊢
      omega
theorem runF_len {N : List (List Int)} {st : Int} {l r : List Int} (h : runF N st l = some r) : r.length = l.length + 1 := by
  unfold runF at h
  split at h
  · have := goF_len N _ _ _ _ h
    simp at this
    omega
  · cases h
theorem goF_drop {N : List (List Int)} {acc l : List Int} {s k : Nat} (hk : k < l.length) : goF N acc s (l.drop k) = match stepF N s l[k] with | none => none | some t => goF N (acc ++ [(t : Int)]) t (l.drop (k + 1)) := by
  rw [List.drop_eq_getElem_cons hk, goF]
theorem riseF_drop {cnt lo : Int} {l : List Int} {k : Nat} (hk : k < l.length) : riseF cnt lo (l.drop k) = (decide (lo ≤ l[k]) && decide (l[k] < cnt) && riseF cnt (l[k] + 1) (l.drop (k + 1))) := by
  rw [List.drop_eq_getElem_cons hk, riseF]
theorem riseF_end {cnt lo : Int} {l : List Int} {k : Nat} (hk : l.length ≤ k) : riseF cnt lo (l.drop k) = true := by
  rw [List.drop_of_length_le hk, riseF]
theorem all_drop {n : Nat} {l : List Int} {k : Nat} (hk : k < l.length) : (l.drop k).all (oneOf n) = (oneOf n l[k] && (l.drop (k + 1)).all (oneOf n)) := by
  rw [List.drop_eq_getElem_cons hk, List.all_cons]
theorem all_end {n : Nat} {l : List Int} {k : Nat} (hk : l.length ≤ k) : (l.drop k).all (oneOf n) = true := by
  rw [List.drop_of_length_le hk, List.all_nil]
/-- Rows that were looked at, and one more. -/
theorem range_snoc {p : Nat → Bool} {k : Nat} (h : (List.range k).all p = true) (hk : p k = true) : (List.range (k + 1)).all p = true := by
  rw [List.range_succ, List.all_append, h, List.all_cons, hk]; rfl
theorem range_bad {p : Nat → Bool} {k n : Nat} (hk : k < n) (h : p k = false) : (List.range n).all p = false := by
  rw [List.all_eq_false]
  exact ⟨k, List.mem_range.2 hk, by simp [h]⟩
end Go.Proofs.YtjemjccgfgijiaaDoor
namespace Go.Proofs.YtjemjccgfgijiaaDoor
/-- A word as a number. -/
def val (m : Nat) (w : List Nat) : Nat := w.foldl (fun a c => a * m + c) 0
theorem val_from (m : Nat) : ∀ (v : List Nat) (a : Nat), v.foldl (fun a c => a * m + c) a = a * m ^ v.length + val m v
  | [], a => by simp [val]
  | c :: v, a => by
    rw [List.foldl_cons, val_from m v]
    have h : val m (c :: v) = c * m ^ v.length + val m v := by
      unfold val
      rw [List.foldl_cons, val_from m v]
      simp [val]
    rw [h, List.length_cons, Nat.add_mul, Nat.pow_succ]
    have : a * m * m ^ v.length = a * (m ^ v.length * m) := by rw [Nat.mul_assoc, Nat.mul_comm m]
    omega
theorem val_append (m : Nat) (u v : List Nat) : val m (u ++ v) = val m u * m ^ v.length + val m v := by
  unfold val
  rw [List.foldl_append]
  exact val_from m v _
theorem val_snoc (m : Nat) (u : List Nat) (c : Nat) : val m (u ++ [c]) = val m u * m + c := by
  rw [val_append]
  simp [val]
/-- Shorter, or as long and less. -/
def slx (m : Nat) (u v : List Nat) : Prop := u.length < v.length ∨ (u.length = v.length ∧ val m u < val m v)
theorem slx_irrefl {m : Nat} {u : List Nat} (h : slx m u u) : False := by
  rcases h with h | ⟨_, h⟩ <;> omega
theorem slx_trans {m : Nat} {u v w : List Nat} (h : slx m u v) (k : slx m v w) : slx m u w := by
  unfold slx at *
  omega
theorem slx_wf (m : Nat) : WellFounded (slx m) := by
  have h := InvImage.wf (fun w : List Nat => (w.length, val m w)) (Prod.lex (α := Nat) (β := Nat) ⟨_, Nat.lt_wfRel.wf⟩ ⟨_, Nat.lt_wfRel.wf⟩).wf
  refine Subrelation.wf (fun {u v} huv => ?_) h
  rcases huv with h1 | ⟨h1, h2⟩
  · exact Prod.Lex.left _ _ h1
  · show Prod.Lex _ _ (u.length, val m u) (v.length, val m v)
    rw [h1]
    exact Prod.Lex.right _ h2
theorem slx_snoc {m : Nat} {u v : List Nat} {c d : Nat} (h : slx m u v) (hc : c < m) : slx m (u ++ [c]) (v ++ [d]) := by
  unfold slx at *
  rw [List.length_append, List.length_append, val_snoc, val_snoc]
  rcases h with h | ⟨h1, h2⟩
  · left; simpa using h
  · right
    refine ⟨by simpa using h1, ?_⟩
    have : (val m u + 1) * m ≤ val m v * m := Nat.mul_le_mul_right m h2
    rw [Nat.add_mul] at this
    omega
theorem slx_last {m : Nat} (u : List Nat) {c d : Nat} (h : c < d) : slx m (u ++ [c]) (u ++ [d]) := by
  right
  rw [val_snoc, val_snoc]
  exact ⟨by simp, by omega⟩
theorem slx_more {m : Nat} (u : List Nat) {v : List Nat} (h : v ≠ []) : slx m u (u ++ v) := by
  left
  have := List.length_pos_iff.2 h
  rw [List.length_append]
  omega
theorem slx_with {m : Nat} {u v : List Nat} (w : List Nat) (hm : 0 < m) (h : slx m u v) : slx m (u ++ w) (v ++ w) := by
  unfold slx at *
  rw [List.length_append, List.length_append, val_append, val_append]
  rcases h with h | ⟨h1, h2⟩
  · left; omega
  · right
    refine ⟨by omega, ?_⟩
    have : val m u * m ^ w.length < val m v * m ^ w.length := Nat.mul_lt_mul_of_pos_right h2 (Nat.pow_pos hm)
    omega
theorem val_inj {m : Nat} : ∀ (n : Nat) (u v : List Nat), u.length = n → v.length = n → (∀ c ∈ u, c < m) → (∀ c ∈ v, c < m) → val m u = val m v → u = v
  | 0, u, v, hu, hv, _, _, _ => by rw [List.eq_nil_of_length_eq_zero hu, List.eq_nil_of_length_eq_zero hv]
  | n + 1, u, v, hu, hv, cu, cv, h => by
    obtain ⟨x, u', rfl⟩ : ∃ x u', u = u' ++ [x] := ⟨u.getLast (by intro e; subst e; simp at hu), u.dropLast, (List.dropLast_concat_getLast _).symm⟩
    obtain ⟨y, v', rfl⟩ : ∃ y v', v = v' ++ [y] := ⟨v.getLast (by intro e; subst e; simp at hv), v.dropLast, (List.dropLast_concat_getLast _).symm⟩
    rw [val_snoc, val_snoc] at h
    have hx : x < m := cu x (by simp)
    have hy : y < m := cv y (by simp)
    have h1 : val m u' = val m v' := by
      have e1 : (val m u' * m + x) / m = val m u' := by rw [Nat.mul_comm, Nat.mul_add_div (by omega), Nat.div_eq_of_lt hx, Nat.add_zero]
      have e2 : (val m v' * m + y) / m = val m v' := by rw [Nat.mul_comm, Nat.mul_add_div (by omega), Nat.div_eq_of_lt hy, Nat.add_zero]
      rw [← e1, h, e2]
    have h2 : x = y := by rw [h1] at h; omega
    rw [val_inj n u' v' (by simpa using hu) (by simpa using hv) (fun c hc => cu c (by simp [hc])) (fun c hc => cv c (by simp [hc])) h1, h2]
theorem slx_eq {m : Nat} {u v : List Nat} (cu : ∀ c ∈ u, c < m) (cv : ∀ c ∈ v, c < m) (h1 : ¬ slx m u v) (h2 : ¬ slx m v u) : u = v := by
  unfold slx at *
  have hl : u.length = v.length := by omega
  exact val_inj u.length u v rfl hl.symm cu cv (by omega)
/-- The state behind a word. -/
def runW (f : Nat → Nat → Nat) (s : Nat) (w : List Nat) : Nat := w.foldl f s
theorem runW_append (f : Nat → Nat → Nat) (s : Nat) (u v : List Nat) : runW f s (u ++ v) = runW f (runW f s u) v := List.foldl_append ..
/-- Two machines over so many symbols. -/
structure Two where
  m : Nat
  fa : Nat → Nat → Nat
  fb : Nat → Nat → Nat
  ta : Nat → List Int
  tb : Nat → List Int
  sa : Nat
  sb : Nat
def Two.dis (T : Two) (x y : Nat) (w : List Nat) : Prop := T.ta (runW T.fa x w) ≠ T.tb (runW T.fb y w)
def Two.ok (T : Two) (w : List Nat) : Prop := ∀ c ∈ w, c < T.m
/-- The word that is asked for. -/
structure Two.Best (T : Two) (w : List Nat) : Prop where
  ok : T.ok w
  dis : T.dis T.sa T.sb w
  least : ∀ z, T.ok z → T.dis T.sa T.sb z → ¬ slx T.m z w
theorem Two.Best.one {T : Two} {u v : List Nat} (h : T.Best u) (k : T.Best v) : u = v := slx_eq h.ok k.ok (k.least u h.ok h.dis) (h.least v k.ok k.dis)
/-- A meeting: the states, the meeting ahead, the symbol. -/
structure Mt where
  a : Nat
  b : Nat
  fr : Nat
  sy : Nat
deriving Inhabited
/-- The meetings so far, and their words. -/
structure Met (T : Two) (l : List Mt) (W : Nat → List Nat) : Prop where
  pos : 0 < l.length
  z : W 0 = [] ∧ (l.getD 0 default).a = T.sa ∧ (l.getD 0 default).b = T.sb
  st : ∀ k, 0 < k → k < l.length → (l.getD k default).fr < k ∧ (l.getD k default).sy < T.m ∧ W k = W (l.getD k default).fr ++ [(l.getD k default).sy] ∧ (l.getD k default).a = T.fa (l.getD (l.getD k default).fr default).a (l.getD k default).sy ∧ (l.getD k default).b = T.fb (l.getD (l.getD k default).fr default).b (l.getD k default).sy
  up : ∀ k, 0 < k → k + 1 < l.length → (l.getD k default).fr < (l.getD (k + 1) default).fr ∨ ((l.getD k default).fr = (l.getD (k + 1) default).fr ∧ (l.getD k default).sy < (l.getD (k + 1) default).sy)
/-- A place in the queue: a meeting and a symbol. -/
def pl (i c j d : Nat) : Prop := i < j ∨ (i = j ∧ c < d)
theorem Met.ok {T : Two} {l : List Mt} {W : Nat → List Nat} (h : Met T l W) : ∀ k, k < l.length → T.ok (W k) ∧ (l.getD k default).a = runW T.fa T.sa (W k) ∧ (l.getD k default).b = runW T.fb T.sb (W k) := by
  intro k
  induction k using Nat.strongRecOn with
  | _ k ih =>
    intro hk
    by_cases h0 : k = 0
    · subst h0
      rw [h.z.1]
      exact ⟨fun c hc => (by cases hc), h.z.2.1, h.z.2.2⟩
    · obtain ⟨h1, h2, h3, h4, h5⟩ := h.st k (by omega) hk
      obtain ⟨i1, i2, i3⟩ := ih _ h1 (by omega)
      rw [h3, runW_append, runW_append, ← i2, ← i3]
      refine ⟨fun c hc => ?_, h4, h5⟩
      rcases List.mem_append.1 hc with hc | hc
      · exact i1 c hc
      · rw [List.mem_singleton.1 hc]; exact h2
/-- The words rise. -/
theorem Met.rise {T : Two} {l : List Mt} {W : Nat → List Nat} (h : Met T l W) : ∀ k, k + 1 < l.length → slx T.m (W k) (W (k + 1)) := by
  intro k
  induction k using Nat.strongRecOn with
  | _ k ih =>
    intro hk
    obtain ⟨g1, g2, g3, _, _⟩ := h.st (k + 1) (by omega) hk
    by_cases h0 : k = 0
    · subst h0
      rw [h.z.1, g3]
      left
      simp
    · obtain ⟨h1, h2, h3, _, _⟩ := h.st k (by omega) (by omega)
      rw [h3, g3]
      rcases h.up k (by omega) hk with hu | ⟨hu, hs⟩
      · refine slx_snoc ?_ h2
        have mono : ∀ d i, i + d + 1 ≤ k → slx T.m (W i) (W (i + d + 1)) := fun d => by
          induction d with
          | zero => intro i hi; exact ih i (by omega) (by omega)
          | succ d ihd =>
            intro i hi
            exact slx_trans (ihd i (by omega)) (ih (i + d + 1) (by omega) (by omega))
        have := mono ((l.getD (k + 1) default).fr - (l.getD k default).fr - 1) (l.getD k default).fr (by omega)
        rw [show (l.getD k default).fr + ((l.getD (k + 1) default).fr - (l.getD k default).fr - 1) + 1 = (l.getD (k + 1) default).fr by omega] at this
        exact this
      · rw [hu]
        exact slx_last _ hs
theorem Met.mono {T : Two} {l : List Mt} {W : Nat → List Nat} (h : Met T l W) {i j : Nat} (hij : i < j) (hj : j < l.length) : slx T.m (W i) (W j) := by
  induction j with
  | zero => omega
  | succ j ih =>
    by_cases e : i = j
    · subst e; exact h.rise i hj
    · exact slx_trans (ih (by omega) (by omega)) (h.rise j hj)
/-- All that is in the queue lies ahead of the place at which one is. -/
theorem Met.ahead {T : Two} {l : List Mt} {W : Nat → List Nat} (h : Met T l W) {i c : Nat} (hi : i < l.length) (hl : ∀ k, 0 < k → k < l.length → pl (l.getD k default).fr (l.getD k default).sy i c) : ∀ k, k < l.length → slx T.m (W k) (W i ++ [c]) := fun k hk => by
  by_cases h0 : k = 0
  · subst h0
    rw [h.z.1]
    left
    simp
  · obtain ⟨h1, h2, h3, _, _⟩ := h.st k (by omega) hk
    rw [h3]
    rcases hl k (by omega) hk with hf | ⟨hf, hs⟩
    · exact slx_snoc (h.mono hf hi) h2
    · rw [hf]; exact slx_last _ hs
/-- What two states tell apart is told apart by a meeting of a lesser word. -/
def Cov (T : Two) (l : List Mt) (W : Nat → List Nat) (x y : Nat) (u : List Nat) : Prop := ∀ v, T.dis x y v → ∃ k, k < l.length ∧ slx T.m (W k) u ∧ T.dis (l.getD k default).a (l.getD k default).b v
/-- Is a meeting's successor in the queue, or covered? -/
def Did (T : Two) (l : List Mt) (W : Nat → List Nat) (i c : Nat) : Prop := (∃ k, k < l.length ∧ W k = W i ++ [c]) ∨ Cov T l W (T.fa (l.getD i default).a c) (T.fb (l.getD i default).b c) (W i ++ [c])
theorem Met.dis {T : Two} {l : List Mt} {W : Nat → List Nat} (h : Met T l W) {k : Nat} (hk : k < l.length) (v : List Nat) : T.dis T.sa T.sb (W k ++ v) ↔ T.dis (l.getD k default).a (l.getD k default).b v := by
  obtain ⟨_, h2, h3⟩ := h.ok k hk
  unfold Two.dis
  rw [runW_append, runW_append, h2, h3]
/-- The first meeting of states that tell unlike things has the least word. -/
theorem Met.best {T : Two} {l : List Mt} {W : Nat → List Nat} (h : Met T l W) {p : Nat} (hp : p ≤ l.length) (hd : ∀ i, i < p → ∀ c, c < T.m → Did T l W i c) (hs : ∀ i, i < p → T.ta (l.getD i default).a = T.tb (l.getD i default).b) :
    ∀ z, T.ok z → T.dis T.sa T.sb z → p < l.length ∧ ¬ slx T.m z (W p) := by
  intro z
  induction z using (slx_wf T.m).induction with
  | _ z ih =>
    intro hok hz
    -- every beginning of z is a word of the queue, or a lesser word tells them apart, or the place p is reached
    have key : ∀ n, n ≤ z.length → (p < l.length ∧ ¬ slx T.m z (W p)) ∨ ∃ k, k < l.length ∧ W k = z.take n := by
      intro n
      induction n with
      | zero => exact fun _ => .inr ⟨0, h.pos, by rw [h.z.1]; simp⟩
      | succ n ihn =>
        intro hn
        rcases ihn (by omega) with hh | ⟨k, hk, hw⟩
        · exact .inl hh
        · have hzn : z = z.take n ++ z.drop n := (List.take_append_drop n z).symm
          by_cases hkp : k < p
          · have hc : z[n]'(by omega) < T.m := hok _ (List.getElem_mem _)
            have hz2 : z = W k ++ [z[n]'(by omega)] ++ z.drop (n + 1) := by rw [hw, List.append_assoc]; simp
            rcases hd k hkp _ hc with ⟨j, hj, e⟩ | hcov
            · exact .inr ⟨j, hj, by rw [e, hw, List.take_succ_eq_append_getElem (by omega)]⟩
            · have hz3 : T.dis (T.fa (l.getD k default).a (z[n]'(by omega))) (T.fb (l.getD k default).b (z[n]'(by omega))) (z.drop (n + 1)) := by
                have hh := hz
                rw [hz2, List.append_assoc, h.dis hk] at hh
                unfold Two.dis at hh ⊢
                rw [runW_append, runW_append] at hh
                exact hh
              obtain ⟨j, hj, hlt, hdj⟩ := hcov _ hz3
              have hlt2 : slx T.m (W j ++ z.drop (n + 1)) z := by
                have := slx_with (z.drop (n + 1)) (by omega : 0 < T.m) hlt
                rw [← hz2] at this
                exact this
              have ok2 : T.ok (W j ++ z.drop (n + 1)) := fun c hc => by
                rcases List.mem_append.1 hc with hc | hc
                · exact (h.ok j hj).1 c hc
                · exact hok c (List.mem_of_mem_drop hc)
              obtain ⟨r1, r2⟩ := ih _ hlt2 ok2 ((h.dis hj _).2 hdj)
              exact .inl ⟨r1, fun hh => r2 (slx_trans hlt2 hh)⟩
          · left
            refine ⟨by omega, fun hh => ?_⟩
            have h1 : ¬ slx T.m (W k) (W p) := fun hx => by
              by_cases e : k = p
              · subst e; exact slx_irrefl hx
              · exact slx_irrefl (slx_trans hx (h.mono (by omega) hk))
            apply h1
            by_cases e : z.drop n = []
            · rw [hw]
              rw [e, List.append_nil] at hzn
              rw [← hzn]
              exact hh
            · refine slx_trans ?_ hh
              rw [hw]
              have hm := slx_more (m := T.m) (z.take n) e
              rw [List.take_append_drop] at hm
              exact hm
    rcases key z.length (Nat.le_refl _) with hh | ⟨k, hk, hw⟩
    · exact hh
    · rw [List.take_length] at hw
      have hkp : ¬ k < p := fun hkp => by
        have hh := hz
        rw [← hw, ← List.append_nil (W k), h.dis hk] at hh
        exact hh (hs k hkp)
      refine ⟨by omega, fun hh => ?_⟩
      rw [← hw] at hh
      by_cases e : k = p
      · subst e; exact slx_irrefl hh
      · exact slx_irrefl (slx_trans hh (h.mono (by omega) hk))
end Go.Proofs.YtjemjccgfgijiaaDoor
namespace Go.Proofs.YtjemjccgfgijiaaDoor
theorem getD_snoc_old {l : List Mt} {x : Mt} {k : Nat} (h : k < l.length) : (l ++ [x]).getD k default = l.getD k default := by
  rw [List.getD_eq_getElem?_getD, List.getD_eq_getElem?_getD, List.getElem?_append_left h]
theorem getD_snoc_new (l : List Mt) (x : Mt) : (l ++ [x]).getD l.length default = x := by
  rw [List.getD_eq_getElem?_getD]
  simp
theorem Met.one (T : Two) (f s : Nat) : Met T [⟨T.sa, T.sb, f, s⟩] (fun _ => []) :=
  ⟨by simp, ⟨rfl, rfl, rfl⟩, fun k h1 h2 => (by simp at h2; omega), fun k h1 h2 => (by simp at h2)⟩
theorem Met.snoc {T : Two} {l : List Mt} {W : Nat → List Nat} (h : Met T l W) {i c : Nat} (hi : i < l.length) (hc : c < T.m) (hl : ∀ k, 0 < k → k < l.length → pl (l.getD k default).fr (l.getD k default).sy i c) :
    Met T (l ++ [⟨T.fa (l.getD i default).a c, T.fb (l.getD i default).b c, i, c⟩]) (fun k => if k = l.length then W i ++ [c] else W k) := by
  have hp := h.pos
  refine ⟨by simp, ?_, fun k h1 h2 => ?_, fun k h1 h2 => ?_⟩
  · rw [getD_snoc_old hp, if_neg (by omega)]
    exact h.z
  · rw [List.length_append, List.length_singleton] at h2
    by_cases e : k = l.length
    · subst e
      rw [getD_snoc_new]
      simp only [if_true]
      rw [getD_snoc_old hi, if_neg (by omega)]
      exact ⟨hi, hc, rfl, rfl, rfl⟩
    · obtain ⟨g1, g2, g3, g4, g5⟩ := h.st k h1 (by omega)
      rw [getD_snoc_old (by omega : k < l.length), getD_snoc_old (by omega : (l.getD k default).fr < l.length), if_neg e, if_neg (by omega)]
      exact ⟨g1, g2, g3, g4, g5⟩
  · rw [List.length_append, List.length_singleton] at h2
    rw [getD_snoc_old (by omega : k < l.length)]
    by_cases e : k + 1 = l.length
    · rw [e, getD_snoc_new]
      exact hl k h1 (by omega)
    · rw [getD_snoc_old (by omega : k + 1 < l.length)]
      exact h.up k h1 (by omega)
theorem Did.snoc {T : Two} {l : List Mt} {W : Nat → List Nat} {i c : Nat} {x : Mt} {u : List Nat} (h : Did T l W i c) (hi : i < l.length) : Did T (l ++ [x]) (fun k => if k = l.length then u else W k) i c := by
  unfold Did Cov at *
  simp only [getD_snoc_old hi, if_neg (by omega : ¬ i = l.length)]
  rcases h with ⟨k, hk, e⟩ | h
  · exact .inl ⟨k, by rw [List.length_append]; omega, by rw [if_neg (by omega)]; exact e⟩
  · refine .inr (fun v hv => ?_)
    obtain ⟨k, hk, h1, h2⟩ := h v hv
    exact ⟨k, by rw [List.length_append]; omega, by rw [if_neg (by omega)]; exact h1, by rw [getD_snoc_old hk]; exact h2⟩
/-- The queue, where one is at a meeting and a symbol. -/
structure Que (T : Two) (l : List Mt) (W : Nat → List Nat) (i c : Nat) : Prop where
  met : Met T l W
  all : ∀ k, 0 < k → k < l.length → pl (l.getD k default).fr (l.getD k default).sy i c
  did : ∀ j, j < i → ∀ d, d < T.m → Did T l W j d
  now : ∀ d, d < c → Did T l W i d
  same : ∀ j, j < i → T.ta (l.getD j default).a = T.tb (l.getD j default).b
theorem Que.start (T : Two) (f s : Nat) : Que T [⟨T.sa, T.sb, f, s⟩] (fun _ => []) 0 0 :=
  ⟨Met.one T f s, fun k h1 h2 => (by simp at h2; omega), fun j h => absurd h (Nat.not_lt_zero _), fun j h => absurd h (Nat.not_lt_zero _), fun j h => absurd h (Nat.not_lt_zero _)⟩
theorem pl_next {i c j d : Nat} (h : pl i c j d) : pl i c j (d + 1) := by unfold pl at *; omega
/-- The next states are covered. -/
theorem Que.keep {T : Two} {l : List Mt} {W : Nat → List Nat} {i c : Nat} (h : Que T l W i c) (hi : i < l.length) (hc : ∀ v, T.dis (T.fa (l.getD i default).a c) (T.fb (l.getD i default).b c) v → ∃ k, k < l.length ∧ T.dis (l.getD k default).a (l.getD k default).b v) : Que T l W i (c + 1) := by
  refine ⟨h.met, fun k h1 h2 => pl_next (h.all k h1 h2), h.did, fun d hd => ?_, h.same⟩
  by_cases e : d = c
  · subst e
    refine .inr (fun v hv => ?_)
    obtain ⟨k, hk, hd'⟩ := hc v hv
    exact ⟨k, hk, h.met.ahead hi h.all k hk, hd'⟩
  · exact h.now d (by omega)
/-- They are met. -/
theorem Que.push {T : Two} {l : List Mt} {W : Nat → List Nat} {i c : Nat} (h : Que T l W i c) (hi : i < l.length) (hc : c < T.m) : ∃ W', Que T (l ++ [⟨T.fa (l.getD i default).a c, T.fb (l.getD i default).b c, i, c⟩]) W' i (c + 1) := by
  refine ⟨fun k => if k = l.length then W i ++ [c] else W k, h.met.snoc hi hc h.all, fun k h1 h2 => ?_, fun j hj d hd => (h.did j hj d hd).snoc (by omega), fun d hd => ?_, fun j hj => ?_⟩
  · rw [List.length_append, List.length_singleton] at h2
    by_cases e : k = l.length
    · subst e
      rw [getD_snoc_new]
      exact .inr ⟨rfl, Nat.lt_succ_self _⟩
    · rw [getD_snoc_old (by omega : k < l.length)]
      exact pl_next (h.all k h1 (by omega))
  · by_cases e : d = c
    · subst e
      exact .inl ⟨l.length, by simp, by simp only [if_true]; rw [if_neg (by omega)]⟩
    · exact (h.now d (by omega)).snoc hi
  · rw [getD_snoc_old (by omega : j < l.length)]
    exact h.same j hj
theorem Que.next {T : Two} {l : List Mt} {W : Nat → List Nat} {i : Nat} (h : Que T l W i T.m) (hs : T.ta (l.getD i default).a = T.tb (l.getD i default).b) : Que T l W (i + 1) 0 := by
  refine ⟨h.met, fun k h1 h2 => ?_, fun j hj d hd => ?_, fun d hd => absurd hd (Nat.not_lt_zero _), fun j hj => ?_⟩
  · have := h.all k h1 h2
    unfold pl at *
    omega
  · by_cases e : j = i
    · subst e; exact h.now d hd
    · exact h.did j (by omega) d hd
  · by_cases e : j = i
    · subst e; exact hs
    · exact h.same j (by omega)
theorem Que.found {T : Two} {l : List Mt} {W : Nat → List Nat} {i : Nat} (h : Que T l W i 0) (hi : i < l.length) (hs : T.ta (l.getD i default).a ≠ T.tb (l.getD i default).b) : T.Best (W i) := by
  have hd : T.dis T.sa T.sb (W i) := by
    have := (h.met.dis hi []).2 hs
    rw [List.append_nil] at this
    exact this
  exact ⟨(h.met.ok i hi).1, hd, fun z hz hzd => (h.met.best (Nat.le_of_lt hi) h.did h.same z hz hzd).2⟩
theorem Que.none {T : Two} {l : List Mt} {W : Nat → List Nat} (h : Que T l W l.length 0) : ∀ z, T.ok z → ¬ T.dis T.sa T.sb z := fun z hz hzd => by
  have := (h.met.best (Nat.le_refl _) h.did h.same z hz hzd).1
  omega
/-- A forest: above each node another, up to a root. -/
structure Frst (n : Nat) (p rt d : Nat → Nat) : Prop where
  lt : ∀ s, s < n → p s < n
  r0 : ∀ s, s < n → rt s < n
  r1 : ∀ s, s < n → p (rt s) = rt s
  r2 : ∀ s, s < n → rt (p s) = rt s
  r3 : ∀ s, s < n → p s = s → rt s = s
  dn : ∀ s, s < n → p s ≠ s → d (p s) < d s
def putF (p : Nat → Nat) (s v : Nat) : Nat → Nat := fun x => if x = s then v else p x
theorem Frst.one (n : Nat) : Frst n (fun s => s) (fun s => s) (fun _ => 0) := ⟨fun _ h => h, fun _ h => h, fun _ _ => rfl, fun _ _ => rfl, fun _ _ _ => rfl, fun _ _ h => absurd rfl h⟩
theorem Frst.two {n : Nat} {p rt d : Nat → Nat} (h : Frst n p rt d) {s : Nat} (hs : s < n) (hp : p s ≠ s) : p (p s) ≠ s ∧ d (p (p s)) < d s := by
  have h1 := h.dn s hs hp
  by_cases e : p (p s) = p s
  · rw [e]; exact ⟨hp, h1⟩
  · have h2 := h.dn (p s) (h.lt s hs) e
    exact ⟨fun e2 => by rw [e2] at h2; omega, by omega⟩
/-- A node is hung one higher. -/
theorem Frst.halve {n : Nat} {p rt d : Nat → Nat} (h : Frst n p rt d) {s : Nat} (hs : s < n) (hp : p s ≠ s) : Frst n (putF p s (p (p s))) rt d := by
  obtain ⟨t1, t2⟩ := h.two hs hp
  unfold putF
  refine ⟨fun x hx => ?_, h.r0, fun x hx => ?_, fun x hx => ?_, fun x hx e => ?_, fun x hx e => ?_⟩
  · show (if x = s then _ else _) < n
    split
    · exact h.lt _ (h.lt _ hs)
    · exact h.lt x hx
  · show (if rt x = s then _ else _) = rt x
    have hr := h.r1 x hx
    split
    · rename_i e; rw [e] at hr; exact absurd hr hp
    · exact hr
  · show rt (if x = s then _ else _) = rt x
    split
    · rename_i e; subst e; rw [h.r2 _ (h.lt _ hx), h.r2 _ hx]
    · exact h.r2 x hx
  · split at e
    · rename_i e2; subst e2; exact absurd e t1
    · exact h.r3 x hx e
  · split at e
    · rename_i e2; subst e2; rw [if_pos rfl]; exact t2
    · rename_i e2; rw [if_neg e2]; exact h.dn x hx e
/-- Two circles are brought together. -/
theorem Frst.unite {n : Nat} {p rt d : Nat → Nat} (h : Frst n p rt d) {a b : Nat} (ha : a < n) (hb : b < n) (ra : p a = a) (rb : p b = b) (hab : a ≠ b) :
    Frst n (putF p b a) (fun x => if rt x = b then a else rt x) (fun x => if rt x = b then d x + d a + 1 else d x) := by
  have hra := h.r3 a ha ra
  have hrb := h.r3 b hb rb
  unfold putF
  refine ⟨fun x hx => ?_, fun x hx => ?_, fun x hx => ?_, fun x hx => ?_, fun x hx e => ?_, fun x hx e => ?_⟩
  · show (if x = b then a else p x) < n
    split
    · exact ha
    · exact h.lt x hx
  · show (if rt x = b then a else rt x) < n
    split
    · exact ha
    · exact h.r0 x hx
  · show (if (if rt x = b then a else rt x) = b then a else p (if rt x = b then a else rt x)) = if rt x = b then a else rt x
    by_cases e : rt x = b
    · rw [if_pos e, if_neg hab]; exact ra
    · rw [if_neg e, if_neg e]; exact h.r1 x hx
  · show (if rt (if x = b then a else p x) = b then a else rt (if x = b then a else p x)) = if rt x = b then a else rt x
    by_cases e : x = b
    · subst e; rw [if_pos rfl, hra, hrb, if_neg hab, if_pos rfl]
    · rw [if_neg e, h.r2 x hx]
  · by_cases e2 : x = b
    · subst e2; rw [if_pos rfl] at e; exact absurd e hab
    · rw [if_neg e2] at e
      have := h.r3 x hx e
      rw [this, if_neg e2]
  · by_cases e2 : x = b
    · subst e2
      rw [if_pos rfl, hra, if_neg hab, if_pos hrb]
      omega
    · rw [if_neg e2] at e ⊢
      rw [h.r2 x hx]
      have := h.dn x hx e
      split <;> omega
/-- How many roots there are. -/
def rootsF (n : Nat) (p : Nat → Nat) : Nat := (List.range n).countP (fun s => p s == s)
theorem rootsF_one (n : Nat) : rootsF n (fun s => s) = n := by
  unfold rootsF
  rw [List.countP_eq_length.2 (by simp), List.length_range]
theorem rootsF_congr {n : Nat} {p q : Nat → Nat} (h : ∀ s, s < n → (p s = s ↔ q s = s)) : rootsF n p = rootsF n q := by
  unfold rootsF
  refine List.countP_congr (fun s hs => ?_)
  have := h s (List.mem_range.1 hs)
  simpa using this
theorem rootsF_unite {p : Nat → Nat} {a b : Nat} (rb : p b = b) (hab : a ≠ b) : ∀ n, rootsF n (putF p b a) + (if b < n then 1 else 0) = rootsF n p
  | 0 => by simp [rootsF]
  | n + 1 => by
    have ih := rootsF_unite rb hab n
    unfold rootsF at *
    rw [List.range_succ, List.countP_append, List.countP_append]
    by_cases e : n = b
    · subst e
      simp only [List.countP_cons, List.countP_nil, putF, if_true, beq_iff_eq, rb]
      rw [if_neg (by omega : ¬ n < n)] at ih
      rw [if_neg hab, if_pos (by omega : n < n + 1)]
      simp only [putF] at ih
      omega
    · have h1 : putF p b a n = p n := by unfold putF; rw [if_neg e]
      simp only [List.countP_cons, List.countP_nil, h1]
      have h2 : (if b < n + 1 then 1 else 0) = (if b < n then 1 else 0) := by
        by_cases hb : b < n
        · rw [if_pos hb, if_pos (by omega)]
        · rw [if_neg hb, if_neg (by omega)]
      rw [h2]
      omega
theorem rootsF_pos {n : Nat} {p rt d : Nat → Nat} (h : Frst n p rt d) (hn : 0 < n) : 0 < rootsF n p := by
  unfold rootsF
  rw [List.countP_pos_iff]
  exact ⟨rt 0, List.mem_range.2 (h.r0 0 hn), by simpa using h.r1 0 hn⟩
/-- What a node of either machine tells behind a word. -/
def Two.beh (T : Two) (na : Nat) (x : Nat) (v : List Nat) : List Int := if x < na then T.ta (runW T.fa x v) else T.tb (runW T.fb (x - na) v)
/-- Nodes of one circle are told apart by a meeting. -/
def Circ (T : Two) (na n : Nat) (rt : Nat → Nat) (l : List Mt) : Prop := ∀ x y, x < n → y < n → rt x = rt y → ∀ v, T.beh na x v ≠ T.beh na y v → ∃ k, k < l.length ∧ T.dis (l.getD k default).a (l.getD k default).b v
theorem Circ.one (T : Two) (na n : Nat) : Circ T na n (fun s => s) [] := fun x y _ _ h v hv => by subst h; exact absurd rfl hv
theorem Circ.cov {T : Two} {na nb : Nat} {rt : Nat → Nat} {l : List Mt} (h : Circ T na (na + nb) rt l) {x y : Nat} (hx : x < na) (hy : y < nb) (e : rt x = rt (na + y)) : ∀ v, T.dis x y v → ∃ k, k < l.length ∧ T.dis (l.getD k default).a (l.getD k default).b v := fun v hv => by
  refine h x (na + y) (by omega) (by omega) e v ?_
  unfold Two.beh
  rw [if_pos hx, if_neg (by omega), Nat.add_sub_cancel_left]
  exact hv
theorem Circ.unite {T : Two} {na nb : Nat} {rt : Nat → Nat} {l : List Mt} (h : Circ T na (na + nb) rt l) {x y : Nat} (hx : x < na) (hy : y < nb) (f s : Nat) :
    Circ T na (na + nb) (fun z => if rt z = rt (na + y) then rt x else rt z) (l ++ [⟨x, y, f, s⟩]) := by
  have old : ∀ u w, u < na + nb → w < na + nb → rt u = rt w → ∀ v, T.beh na u v ≠ T.beh na w v → ∃ k, k < (l ++ [(⟨x, y, f, s⟩ : Mt)]).length ∧ T.dis ((l ++ [(⟨x, y, f, s⟩ : Mt)]).getD k default).a ((l ++ [(⟨x, y, f, s⟩ : Mt)]).getD k default).b v := fun u w hu hw e v hv => by
    obtain ⟨k, hk, hd⟩ := h u w hu hw e v hv
    exact ⟨k, by rw [List.length_append]; omega, by rw [getD_snoc_old hk]; exact hd⟩
  have new : ∀ v, T.beh na x v ≠ T.beh na (na + y) v → ∃ k, k < (l ++ [(⟨x, y, f, s⟩ : Mt)]).length ∧ T.dis ((l ++ [(⟨x, y, f, s⟩ : Mt)]).getD k default).a ((l ++ [(⟨x, y, f, s⟩ : Mt)]).getD k default).b v := fun v hv => by
    refine ⟨l.length, by simp, ?_⟩
    rw [getD_snoc_new]
    unfold Two.beh at hv
    rw [if_pos hx, if_neg (by omega), Nat.add_sub_cancel_left] at hv
    exact hv
  -- u lies with y's, w with x's
  have mix : ∀ u w, u < na + nb → w < na + nb → rt u = rt (na + y) → rt w = rt x → ∀ v, T.beh na u v ≠ T.beh na w v → ∃ k, k < (l ++ [(⟨x, y, f, s⟩ : Mt)]).length ∧ T.dis ((l ++ [(⟨x, y, f, s⟩ : Mt)]).getD k default).a ((l ++ [(⟨x, y, f, s⟩ : Mt)]).getD k default).b v := fun u w hu hw e1 e2 v hv => by
    by_cases c1 : T.beh na u v = T.beh na (na + y) v
    · by_cases c2 : T.beh na x v = T.beh na (na + y) v
      · exact old x w (by omega) hw e2.symm v (by rw [c2, ← c1]; exact hv)
      · exact new v c2
    · exact old u (na + y) hu (by omega) e1 v c1
  intro u w hu hw e v hv
  simp only at e
  by_cases e1 : rt u = rt (na + y)
  · by_cases e2 : rt w = rt (na + y)
    · exact old u w hu hw (by rw [e1, e2]) v hv
    · rw [if_pos e1, if_neg e2] at e
      exact mix u w hu hw e1 e.symm v hv
  · by_cases e2 : rt w = rt (na + y)
    · rw [if_neg e1, if_pos e2] at e
      exact mix w u hw hu e2 e v (fun hh => hv hh.symm)
    · rw [if_neg e1, if_neg e2] at e
      exact old u w hu hw e v hv
end Go.Proofs.YtjemjccgfgijiaaDoor
namespace Go.Proofs.YtjemjccgfgijiaaDoor
/-- Does a list rise, from a number on? -/
def upF : Int → List Int → Bool
  | _, [] => true
  | lo, z :: l => decide (lo ≤ z) && upF (z + 1) l
/-- May a machine be? -/
def mayF (st : Int) (N O : List (List Int)) (m : Int) : Bool := decide (0 ≤ m) && decide (O.length = N.length) && oneOf N.length st && N.all (fun r => decide ((r.length : Int) = m) && r.all (oneOf N.length)) && O.all (upF 0)
structure May (st : Int) (N O : List (List Int)) (m : Nat) : Prop where
  out : O.length = N.length
  start : 0 ≤ st ∧ st < (N.length : Int)
  row : ∀ r ∈ N, r.length = m
  num : ∀ r ∈ N, ∀ z ∈ r, 0 ≤ z ∧ z < (N.length : Int)
theorem mayF_may {st : Int} {N O : List (List Int)} {m : Int} (h : mayF st N O m = true) : ∃ n : Nat, m = (n : Int) ∧ May st N O n := by
  unfold mayF at h
  simp only [Bool.and_eq_true, decide_eq_true_eq, List.all_eq_true] at h
  obtain ⟨⟨⟨⟨h1, h2⟩, h3⟩, h4⟩, _⟩ := h
  refine ⟨m.toNat, by omega, h2, (oneOf_iff _ _).1 h3, fun r hr => by have := (h4 r hr).1; omega, fun r hr z hz => (oneOf_iff _ _).1 ((h4 r hr).2 z hz)⟩
/-- The next state. -/
def nxF (N : List (List Int)) (s c : Nat) : Nat := ((N.getD s []).getD c 0).toNat
def twoF (m : Nat) (st st' : Int) (N O N' O' : List (List Int)) : Two := ⟨m, nxF N, nxF N', fun s => O.getD s [], fun s => O'.getD s [], st.toNat, st'.toNat⟩
theorem May.next {st : Int} {N O : List (List Int)} {m : Nat} (h : May st N O m) {s c : Nat} (hs : s < N.length) (hc : c < m) : nxF N s c < N.length ∧ (N.getD s []).getD c 0 = (nxF N s c : Int) ∧ (N.getD s []).length = m := by
  have hm : N.getD s [] ∈ N := by rw [List.getD_eq_getElem?_getD, List.getElem?_eq_getElem hs]; exact List.getElem_mem hs
  have hl := h.row _ hm
  have hz : (N.getD s []).getD c 0 ∈ N.getD s [] := by
    rw [List.getD_eq_getElem?_getD (l := N.getD s []), List.getElem?_eq_getElem (by omega)]
    exact List.getElem_mem _
  have := h.num _ hm _ hz
  unfold nxF
  omega
/-- All meetings are of states that there are. -/
def InM (na nb : Nat) (l : List Mt) : Prop := ∀ k, k < l.length → (l.getD k default).a < na ∧ (l.getD k default).b < nb
theorem InM.snoc {na nb : Nat} {l : List Mt} (h : InM na nb l) {x : Mt} (ha : x.a < na) (hb : x.b < nb) : InM na nb (l ++ [x]) := fun k hk => by
  rw [List.length_append, List.length_singleton] at hk
  by_cases e : k = l.length
  · subst e
    rw [getD_snoc_new]
    exact ⟨ha, hb⟩
  · rw [getD_snoc_old (by omega : k < l.length)]
    exact h k (by omega)
/-- The answer of Apart. -/
structure ApA (T : Two) (r : Option (List Nat)) : Prop where
  some' : ∀ w, r = some w → T.Best w
  none' : r = none → ∀ z, T.ok z → ¬ T.dis T.sa T.sb z
theorem ApA.one {T : Two} {r s : Option (List Nat)} (h : ApA T r) (k : ApA T s) : r = s := by
  cases r with
  | none => cases s with
    | none => rfl
    | some v => exact absurd (k.some' v rfl).dis (h.none' rfl v (k.some' v rfl).ok)
  | some u => cases s with
    | none => exact absurd (h.some' u rfl).dis (k.none' rfl u (h.some' u rfl).ok)
    | some v => rw [(h.some' u rfl).one (k.some' v rfl)]
end Go.Proofs.YtjemjccgfgijiaaDoor
namespace Go.Proofs.YtjemjccgfgijiaaDoor
theorem apA_ex (T : Two) : ∃ r, ApA T r := by
  by_cases h : ∃ z, T.ok z ∧ T.dis T.sa T.sb z
  · obtain ⟨z, hz⟩ := h
    have key : ∀ z, T.ok z ∧ T.dis T.sa T.sb z → ∃ u, T.Best u := by
      intro z
      induction z using (slx_wf T.m).induction with
      | _ z ih =>
        intro hz
        by_cases h2 : ∃ y, slx T.m y z ∧ T.ok y ∧ T.dis T.sa T.sb y
        · obtain ⟨y, h3, h4⟩ := h2
          exact ih y h3 h4
        · exact ⟨z, hz.1, hz.2, fun y hy hd hl => h2 ⟨y, hl, hy, hd⟩⟩
    obtain ⟨u, hu⟩ := key z hz
    exact ⟨some u, ⟨fun w e => (by cases e; exact hu), fun e => (by cases e)⟩⟩
  · exact ⟨none, ⟨fun w e => (by cases e), fun _ z h1 h2 => h ⟨z, h1, h2⟩⟩⟩
/-- What both say: none: it is refused. -/
inductive ApR (sa sb sy : Int) (N O N' O' : List (List Int)) : Option (Option (List Nat)) → Prop
  | bad (h : mayF sa N O sy = true → mayF sb N' O' sy = true → False) : ApR sa sb sy N O N' O' none
  | good (m : Nat) (r : Option (List Nat)) (hm : sy = (m : Int)) (h1 : mayF sa N O sy = true) (h2 : mayF sb N' O' sy = true) (h3 : May sa N O m) (h4 : May sb N' O' m) (h : ApA (twoF m sa sb N O N' O') r) : ApR sa sb sy N O N' O' (some r)
theorem apR_ex (sa sb sy : Int) (N O N' O' : List (List Int)) : ∃ res, ApR sa sb sy N O N' O' res := by
  by_cases h1 : mayF sa N O sy = true
  · by_cases h2 : mayF sb N' O' sy = true
    · obtain ⟨m, hm, h3⟩ := mayF_may h1
      obtain ⟨m', hm', h4⟩ := mayF_may h2
      obtain rfl : m = m' := by omega
      obtain ⟨r, hr⟩ := apA_ex (twoF m sa sb N O N' O')
      exact ⟨some r, .good m r hm h1 h2 h3 h4 hr⟩
    · exact ⟨none, .bad (fun _ h => h2 h)⟩
  · exact ⟨none, .bad (fun h _ => h1 h)⟩
def nums (w : List Nat) : List Int := w.map Int.ofNat
/-- The word, whether there is one, the number of the refusal. -/
def apW : Option (Option (List Nat)) → List Int
  | some (some u) => nums u
  | _ => []
def apB : Option (Option (List Nat)) → Bool
  | some (some _) => true
  | _ => false
def apE : Option (Option (List Nat)) → Int
  | none => 1
  | _ => 0
theorem nodup_le : ∀ (n : Nat) (l : List Nat), l.Nodup → (∀ x ∈ l, x < n) → l.length ≤ n
  | 0, l, _, h => by
    cases l with
    | nil => exact Nat.le_refl _
    | cons x r => exact absurd (h x (.head _)) (Nat.not_lt_zero _)
  | n + 1, l, hd, h => by
    have h1 := nodup_le n (l.erase n) (hd.erase n) (fun x hx => by
      have h2 := h x (List.mem_of_mem_erase hx)
      have h3 : x ≠ n := fun e => by subst e; exact absurd hx hd.not_mem_erase
      omega)
    have h4 : l.length - 1 ≤ (l.erase n).length := by rw [List.length_erase]; split <;> omega
    omega
end Go.Proofs.YtjemjccgfgijiaaDoor
namespace Go.Proofs.YtjemjccgfgijiaaDoor
/-- The greatest of the first so many numbers, 0 at least. -/
def top (F : Nat → Nat) : Nat → Nat
  | 0 => 0
  | i + 1 => max (top F i) (F i)
theorem top_succ (F : Nat → Nat) (i : Nat) : top F (i + 1) = max (top F i) (F i) := rfl
theorem top_mono (F : Nat → Nat) {i j : Nat} (h : i ≤ j) : top F i ≤ top F j := by
  induction j with
  | zero => obtain rfl : i = 0 := by omega
            exact Nat.le_refl _
  | succ j ih =>
    by_cases e : i = j + 1
    · subst e; exact Nat.le_refl _
    · have := ih (by omega)
      rw [top_succ]
      omega
theorem top_le (F : Nat → Nat) {i j : Nat} (h : j < i) : F j ≤ top F i := by
  have h1 := top_mono F (i := j + 1) (j := i) (by omega)
  rw [top_succ] at h1
  omega
theorem top_lt {F : Nat → Nat} {n : Nat} (hn : 0 < n) : ∀ {i : Nat}, (∀ j, j < i → F j < n) → top F i < n
  | 0, _ => hn
  | i + 1, h => by
    have h1 := top_lt hn (i := i) (fun j hj => h j (by omega))
    have h2 := h i (by omega)
    rw [top_succ]
    omega
theorem top_congr {F G : Nat → Nat} : ∀ {i : Nat}, (∀ j, j < i → F j = G j) → top F i = top G i
  | 0, _ => rfl
  | i + 1, h => by
    rw [top_succ, top_succ, top_congr (i := i) (fun j hj => h j (by omega)), h i (by omega)]
/-- Numbered as they are met, row by row. -/
structure Bfs (F : Nat → Nat) (n m : Nat) : Prop where
  up : ∀ i, i < n * m → F i ≤ top F i + 1
  row : ∀ q, q < n → q ≤ top F (q * m)
theorem Bfs.hit {F : Nat → Nat} {n m : Nat} (h : Bfs F n m) : ∀ i, i ≤ n * m → ∀ s, 1 ≤ s → s ≤ top F i → ∃ j, j < i ∧ F j = s
  | 0, _, s, h1, h2 => by simp [top] at h2; omega
  | i + 1, hi, s, h1, h2 => by
    by_cases e : s ≤ top F i
    · obtain ⟨j, hj, e2⟩ := h.hit i (by omega) s h1 e
      exact ⟨j, by omega, e2⟩
    · rw [top_succ] at h2
      have := h.up i (by omega)
      exact ⟨i, by omega, by omega⟩
/-- A word over so many symbols. -/
def okW (m : Nat) (w : List Nat) : Prop := ∀ c ∈ w, c < m
theorem okW.nil (m : Nat) : okW m [] := fun c h => by cases h
theorem okW.cons {m c : Nat} {w : List Nat} (hc : c < m) (h : okW m w) : okW m (c :: w) := fun d hd => by
  rcases List.mem_cons.1 hd with rfl | hd
  · exact hc
  · exact h d hd
/-- Two states tell the same behind every word. -/
def SameL (m : Nat) (f g : Nat → Nat → Nat) (o u : Nat → List Int) (s t : Nat) : Prop := ∀ w, okW m w → o (runW f s w) = u (runW g t w)
theorem SameL.step {m : Nat} {f g : Nat → Nat → Nat} {o u : Nat → List Int} {s t c : Nat} (h : SameL m f g o u s t) (hc : c < m) : SameL m f g o u (f s c) (g t c) := fun w hw => h (c :: w) (okW.cons hc hw)
theorem SameL.nil {m : Nat} {f g : Nat → Nat → Nat} {o u : Nat → List Int} {s t : Nat} (h : SameL m f g o u s t) : o s = u t := h [] (okW.nil m)
theorem SameL.symm {m : Nat} {f g : Nat → Nat → Nat} {o u : Nat → List Int} {s t : Nat} (h : SameL m f g o u s t) : SameL m g f u o t s := fun w hw => (h w hw).symm
theorem SameL.trans {m : Nat} {f g e : Nat → Nat → Nat} {o u v : Nat → List Int} {s t r : Nat} (h : SameL m f g o u s t) (k : SameL m g e u v t r) : SameL m f e o v s r := fun w hw => (h w hw).trans (k w hw)
def outF (O : List (List Int)) (s : Nat) : List Int := O.getD s []
def clF (N : List (List Int)) (m i : Nat) : Nat := nxF N (i / m) (i % m)
/-- Any two states tell unlike things behind some word, and they are numbered as they are met. -/
structure Red (m : Nat) (N O : List (List Int)) : Prop where
  may : mayF 0 N O (m : Int) = true
  bfs : Bfs (clF N m) N.length m
  sep : ∀ p q, p < N.length → q < N.length → SameL m (nxF N) (nxF N) (outF O) (outF O) p q → p = q
theorem Red.may' {m : Nat} {N O : List (List Int)} (h : Red m N O) : May 0 N O m := by
  obtain ⟨n, hn, hm⟩ := mayF_may h.may
  obtain rfl : m = n := by omega
  exact hm
theorem Red.pos {m : Nat} {N O : List (List Int)} (h : Red m N O) : 0 < N.length := by have := h.may'.start; omega
theorem clF_at (N : List (List Int)) {m : Nat} (s : Nat) {c : Nat} (hc : c < m) : clF N m (s * m + c) = nxF N s c := by
  unfold clF
  rw [Nat.mul_comm, Nat.mul_add_div (by omega), Nat.div_eq_of_lt hc, Nat.mul_add_mod, Nat.mod_eq_of_lt hc, Nat.add_zero]
theorem clF_lt {m : Nat} {N O : List (List Int)} {st : Int} (h : May st N O m) {i : Nat} (hi : i < N.length * m) : clF N m i < N.length := by
  have hm : 0 < m := by
    rcases Nat.eq_zero_or_pos m with rfl | h
    · simp at hi
    · exact h
  exact (h.next ((Nat.div_lt_iff_lt_mul hm).2 hi) (Nat.mod_lt _ hm)).1
theorem Red.same {m : Nat} {N O N' O' : List (List Int)} (h1 : Red m N O) (h2 : Red m N' O') (hl : SameL m (nxF N) (nxF N') (outF O) (outF O') 0 0) :
    ∀ i, i ≤ N.length * m → i ≤ N'.length * m → (∀ j, j < i → clF N m j = clF N' m j) ∧ ∀ q, q ≤ top (clF N m) i → SameL m (nxF N) (nxF N') (outF O) (outF O') q q
  | 0, _, _ => ⟨fun j h => absurd h (Nat.not_lt_zero _), fun q hq => (Nat.le_zero.1 hq).symm ▸ hl⟩
  | i + 1, ha, hb => by
    obtain ⟨e1, e2⟩ := h1.same h2 hl i (by omega) (by omega)
    have hm : 0 < m := by
      rcases Nat.eq_zero_or_pos m with rfl | h
      · simp at ha
      · exact h
    have hsa : i / m < N.length := (Nat.div_lt_iff_lt_mul hm).2 ha
    have hsb : i / m < N'.length := (Nat.div_lt_iff_lt_mul hm).2 hb
    have hc : i % m < m := Nat.mod_lt _ hm
    have hrow := h1.bfs.row _ hsa
    have htt := top_mono (clF N m) (i := i / m * m) (j := i) (Nat.div_mul_le_self i m)
    have hE : SameL m (nxF N) (nxF N') (outF O) (outF O') (clF N m i) (clF N' m i) := (e2 (i / m) (by omega)).step hc
    have ht : top (clF N m) i = top (clF N' m) i := top_congr e1
    have key : clF N m i = clF N' m i := by
      by_cases c1 : clF N m i ≤ top (clF N m) i
      · have hlt : top (clF N' m) i < N'.length := top_lt h2.pos (fun j hj => clF_lt h2.may' (by omega))
        exact h2.sep _ _ (by omega) (clF_lt h2.may' (by omega)) ((e2 _ c1).symm.trans hE)
      · by_cases c2 : clF N' m i ≤ top (clF N m) i
        · have hlt : top (clF N m) i < N.length := top_lt h1.pos (fun j hj => clF_lt h1.may' (by omega))
          exact h1.sep _ _ (clF_lt h1.may' (by omega)) (by omega) (hE.trans (e2 _ c2).symm)
        · have u1 := h1.bfs.up i (by omega)
          have u2 := h2.bfs.up i (by omega)
          omega
    refine ⟨fun j hj => ?_, fun q hq => ?_⟩
    · by_cases e : j = i
      · subst e; exact key
      · exact e1 j (by omega)
    · rw [top_succ] at hq
      by_cases e : q ≤ top (clF N m) i
      · exact e2 q e
      · obtain rfl : q = clF N m i := by have := h1.bfs.up i (by omega); omega
        rw [← key] at hE
        exact hE
theorem Red.notless {m : Nat} {N O N' O' : List (List Int)} (h1 : Red m N O) (h2 : Red m N' O') (hl : SameL m (nxF N) (nxF N') (outF O) (outF O') 0 0) : N'.length ≤ N.length := by
  apply Nat.le_of_not_lt
  intro hlt
  have hle := Nat.mul_le_mul_right m (Nat.le_of_lt hlt)
  obtain ⟨e1, _⟩ := h1.same h2 hl (N.length * m) (Nat.le_refl _) hle
  have h3 := h2.bfs.row _ hlt
  rw [← top_congr e1] at h3
  have h4 : top (clF N m) (N.length * m) < N.length := top_lt h1.pos (fun j hj => clF_lt h1.may' hj)
  omega
/-- There is one least machine alone. -/
theorem Red.uniq {m : Nat} {N O N' O' : List (List Int)} (h1 : Red m N O) (h2 : Red m N' O') (hl : SameL m (nxF N) (nxF N') (outF O) (outF O') 0 0) : N = N' ∧ O = O' := by
  have hn : N.length = N'.length := Nat.le_antisymm (h2.notless h1 hl.symm) (h1.notless h2 hl)
  obtain ⟨e1, e2⟩ := h1.same h2 hl (N.length * m) (Nat.le_refl _) (by rw [hn]; exact Nat.le_refl _)
  refine ⟨List.ext_getElem hn (fun s a b => ?_), List.ext_getElem (by rw [h1.may'.out, h2.may'.out, hn]) (fun s a b => ?_)⟩
  · have ra : N.getD s [] = N[s] := by rw [List.getD_eq_getElem?_getD, List.getElem?_eq_getElem a]; rfl
    have rb : N'.getD s [] = N'[s] := by rw [List.getD_eq_getElem?_getD, List.getElem?_eq_getElem b]; rfl
    have la : N[s].length = m := h1.may'.row _ (List.getElem_mem a)
    have lb : N'[s].length = m := h2.may'.row _ (List.getElem_mem b)
    refine List.ext_getElem (by omega) (fun c ca cb => ?_)
    have hc : c < m := by omega
    obtain ⟨_, x1, _⟩ := h1.may'.next a hc
    obtain ⟨_, x2, _⟩ := h2.may'.next b hc
    rw [ra, List.getD_eq_getElem?_getD, List.getElem?_eq_getElem ca] at x1
    rw [rb, List.getD_eq_getElem?_getD, List.getElem?_eq_getElem cb] at x2
    have hlt : s * m + c < N.length * m := by
      have := Nat.mul_le_mul_right m (show s + 1 ≤ N.length by omega)
      rw [Nat.add_mul] at this
      omega
    have := e1 _ hlt
    rw [clF_at N s hc, clF_at N' s hc] at this
    simp only [Option.getD_some] at x1 x2
    rw [x1, x2, this]
  · have hs : s < N.length := by have := h1.may'.out; omega
    have h3 := h1.bfs.row s hs
    have h4 := top_mono (clF N m) (Nat.mul_le_mul_right m (Nat.le_of_lt hs))
    have h5 := (e2 s (by omega)).nil
    unfold outF at h5
    rw [List.getD_eq_getElem?_getD, List.getElem?_eq_getElem a, List.getD_eq_getElem?_getD, List.getElem?_eq_getElem b] at h5
    exact h5
/-- N', O' is the least machine of N, O. -/
structure Lst (m : Nat) (st : Int) (N O N' O' : List (List Int)) : Prop where
  red : Red m N' O'
  lang : SameL m (nxF N') (nxF N) (outF O') (outF O) 0 st.toNat
  less : N'.length ≤ N.length
theorem Lst.uniq {m : Nat} {st : Int} {N O N' O' N2 O2 : List (List Int)} (h : Lst m st N O N' O') (k : Lst m st N O N2 O2) : N' = N2 ∧ O' = O2 := h.red.uniq k.red (h.lang.trans k.lang.symm)
/-- The least machine of the least one is it. -/
theorem Lst.again {m : Nat} {st : Int} {N O N' O' N2 O2 : List (List Int)} (h : Lst m st N O N' O') (k : Lst m 0 N' O' N2 O2) : N' = N2 ∧ O' = O2 := h.red.uniq k.red k.lang.symm
/-- The states that are met, in their order: the state i is g i, its cells are F. -/
structure Whl (m : Nat) (st : Nat) (N : List (List Int)) (n : Nat) (g F : Nat → Nat) : Prop where
  pos : 0 < n
  le : n ≤ N.length
  g0 : g 0 = st
  gl : ∀ i, i < n → g i < N.length
  fl : ∀ i c, i < n → c < m → F (i * m + c) < n
  fs : ∀ i c, i < n → c < m → g (F (i * m + c)) = nxF N (g i) c
  bfs : Bfs F n m
theorem runW_in {m n : Nat} {f : Nat → Nat → Nat} (hf : ∀ s c, s < n → c < m → f s c < n) : ∀ (w : List Nat) (s : Nat), s < n → okW m w → runW f s w < n
  | [], _, hs, _ => hs
  | c :: w, s, hs, hw => runW_in hf w (f s c) (hf s c hs (hw c (.head _))) (fun d hd => hw d (.tail _ hd))
/-- A map of states that goes along with the symbols. -/
theorem runW_hom {m n : Nat} {f g : Nat → Nat → Nat} {φ : Nat → Nat} (hf : ∀ s c, s < n → c < m → f s c < n) (hφ : ∀ s c, s < n → c < m → g (φ s) c = φ (f s c)) : ∀ (w : List Nat) (s : Nat), s < n → okW m w → runW g (φ s) w = φ (runW f s w)
  | [], _, _, _ => rfl
  | c :: w, s, hs, hw => by
    show runW g (g (φ s) c) w = φ (runW f (f s c) w)
    rw [hφ s c hs (hw c (.head _))]
    exact runW_hom hf hφ w (f s c) (hf s c hs (hw c (.head _))) (fun d hd => hw d (.tail _ hd))
/-- Classes that are as fine as they must be, and not finer. -/
structure Cls (m n : Nat) (F : Nat → Nat) (out : Nat → List Int) (cl : Nat → Nat) : Prop where
  told : ∀ s t, s < n → t < n → cl s = cl t → out s = out t
  next : ∀ s t, s < n → t < n → cl s = cl t → ∀ c, c < m → cl (F (s * m + c)) = cl (F (t * m + c))
  wide : ∀ s t, s < n → t < n → SameL m (fun x c => F (x * m + c)) (fun x c => F (x * m + c)) out out s t → cl s = cl t
/-- The cells of the joined machine. -/
def jF (m : Nat) (F cl nu : Nat → Nat) (fi : List Nat) (i : Nat) : Nat := nu (cl (F (fi.getD (i / m) 0 * m + i % m)))
/-- The classes by number, as they come. -/
structure Num1 (n : Nat) (cl nu : Nat → Nat) (fi : List Nat) : Prop where
  up : ∀ i j, i < j → j < fi.length → fi.getD i 0 < fi.getD j 0
  lt : ∀ q, q < fi.length → fi.getD q 0 < n
  of : ∀ s, s < n → nu (cl s) < fi.length ∧ cl (fi.getD (nu (cl s)) 0) = cl s ∧ fi.getD (nu (cl s)) 0 ≤ s
  nu : ∀ q, q < fi.length → nu (cl (fi.getD q 0)) = q
section
variable {m n : Nat} {F cl nu : Nat → Nat} {out : Nat → List Int} {fi : List Nat}
theorem Num1.first (h : Num1 n cl nu fi) (hn : 0 < n) : 0 < fi.length ∧ fi.getD 0 0 = 0 ∧ nu (cl 0) = 0 := by
  obtain ⟨h1, h2, h3⟩ := h.of 0 hn
  have h4 : fi.getD 0 0 = 0 := by
    rcases Nat.eq_zero_or_pos (nu (cl 0)) with e | e
    · rw [e] at h3; omega
    · have := h.up 0 _ e h1; omega
  exact ⟨by omega, h4, by have := h.nu 0 (by omega); rw [h4] at this; exact this⟩
theorem Num1.less (h : Num1 n cl nu fi) {r q : Nat} (hr : r < n) (hl : r < fi.getD q 0) : nu (cl r) < q := by
  obtain ⟨h1, h2, h3⟩ := h.of r hr
  apply Nat.lt_of_not_le
  intro hle
  rcases Nat.eq_or_lt_of_le hle with e | e
  · rw [← e] at h3; omega
  · have := h.up q _ e h1; omega
theorem Num1.bfs (h : Num1 n cl nu fi) (hb : Bfs F n m) (hc : Cls m n F out cl) (hF : ∀ i c, i < n → c < m → F (i * m + c) < n) : Bfs (jF m F cl nu fi) fi.length m := by
  have hcell : ∀ q c, q < fi.length → c < m → (jF m F cl nu fi) (q * m + c) = nu (cl (F (fi.getD q 0 * m + c))) := fun q c _ hc => by
    show nu (cl (F (fi.getD ((q * m + c) / m) 0 * m + (q * m + c) % m))) = _
    rw [Nat.mul_comm q, Nat.mul_add_div (by omega), Nat.div_eq_of_lt hc, Nat.mul_add_mod, Nat.mod_eq_of_lt hc, Nat.add_zero]
  have hmet : ∀ r c s, r < n → c < m → s = F (r * m + c) → nu (cl (F (fi.getD (nu (cl r)) 0 * m + c))) = nu (cl s) := fun r c s hr hcm hs => by
    obtain ⟨h1, h2, h3⟩ := h.of r hr
    rw [hc.next _ r (h.lt _ h1) hr h2 c hcm, hs]
  refine ⟨fun i hi => ?_, fun q hq => ?_⟩
  · have hm : 0 < m := by
      rcases Nat.eq_zero_or_pos m with rfl | h
      · simp at hi
      · exact h
    obtain ⟨q, c, rfl, hcm⟩ : ∃ q c, i = q * m + c ∧ c < m := ⟨i / m, i % m, by rw [Nat.mul_comm]; exact (Nat.div_add_mod i m).symm, Nat.mod_lt _ hm⟩
    have hq : q < fi.length := by
      apply Nat.lt_of_not_le
      intro hle
      have := Nat.mul_le_mul_right m hle
      omega
    have hqn := h.lt q hq
    rw [hcell q c hq hcm]
    obtain ⟨x, hx⟩ : ∃ x, x = F (fi.getD q 0 * m + c) := ⟨_, rfl⟩
    rw [← hx]
    have hxn : x < n := by rw [hx]; exact hF _ _ hqn hcm
    obtain ⟨v1, v2, v3⟩ := h.of x hxn
    obtain ⟨v, hv⟩ : ∃ v, v = nu (cl x) := ⟨_, rfl⟩
    rw [← hv] at v1 v2 v3 ⊢
    rcases Nat.lt_or_ge v 2 with h2 | h2
    · omega
    · -- the class ahead of v was met ahead
      have hu := h.up (v - 1) v (by omega) v1
      have hup := h.up 0 (v - 1) (by omega) (by omega)
      have hlt : fi.getD q 0 * m + c < n * m := by
        have := Nat.mul_le_mul_right m (show fi.getD q 0 + 1 ≤ n by omega)
        rw [Nat.add_mul] at this
        omega
      have hx2 := hb.up _ hlt
      rw [← hx] at hx2
      obtain ⟨j, hj, ej⟩ := hb.hit (fi.getD q 0 * m + c) (by omega) (fi.getD (v - 1) 0) (by omega) (by omega)
      obtain ⟨r, d, rfl, hd⟩ : ∃ r d, j = r * m + d ∧ d < m := ⟨j / m, j % m, by rw [Nat.mul_comm]; exact (Nat.div_add_mod j m).symm, Nat.mod_lt _ hm⟩
      have hrq : r ≤ fi.getD q 0 := by
        apply Nat.le_of_not_lt
        intro hlt
        have := Nat.mul_le_mul_right m (show fi.getD q 0 + 1 ≤ r by omega)
        rw [Nat.add_mul] at this
        omega
      have hval : nu (cl (F (fi.getD (nu (cl r)) 0 * m + d))) = v - 1 := by
        rw [hmet r d _ (by omega) hd rfl, ej]
        exact h.nu _ (by omega)
      have hpos : nu (cl r) * m + d < q * m + c := by
        rcases Nat.eq_or_lt_of_le hrq with e | e
        · rw [e, h.nu q hq]
          rw [e] at hj
          omega
        · have h5 := h.less (by omega) e
          have := Nat.mul_le_mul_right m (show nu (cl r) + 1 ≤ q by omega)
          rw [Nat.add_mul] at this
          omega
      have hnr := (h.of r (by omega)).1
      have := top_le (jF m F cl nu fi) hpos
      rw [hcell _ d hnr hd, hval] at this
      omega
  · rcases Nat.eq_zero_or_pos q with rfl | hq0
    · exact Nat.zero_le _
    · have hup := h.up 0 q hq0 hq
      have hqn := h.lt q hq
      have hrow := hb.row _ hqn
      have hle := Nat.mul_le_mul_right m (Nat.le_of_lt hqn)
      obtain ⟨j, hj, ej⟩ := hb.hit _ hle (fi.getD q 0) (by omega) hrow
      have hm : 0 < m := by
        rcases Nat.eq_zero_or_pos m with rfl | h
        · simp at hj
        · exact h
      obtain ⟨r, d, rfl, hd⟩ : ∃ r d, j = r * m + d ∧ d < m := ⟨j / m, j % m, by rw [Nat.mul_comm]; exact (Nat.div_add_mod j m).symm, Nat.mod_lt _ hm⟩
      have hrq : r < fi.getD q 0 := by
        apply Nat.lt_of_not_le
        intro hle
        have := Nat.mul_le_mul_right m hle
        omega
      have hval : nu (cl (F (fi.getD (nu (cl r)) 0 * m + d))) = q := by
        rw [hmet r d _ (by omega) hd rfl, ej]
        exact h.nu _ hq
      have h5 := h.less (by omega) hrq
      have hnr := (h.of r (by omega)).1
      have hpos : nu (cl r) * m + d < q * m := by
        have := Nat.mul_le_mul_right m (show nu (cl r) + 1 ≤ q by omega)
        rw [Nat.add_mul] at this
        omega
      have := top_le (jF m F cl nu fi) hpos
      rw [hcell _ d hnr hd, hval] at this
      omega
end
theorem upF_rise {st : Int} {N O : List (List Int)} {m : Int} (h : mayF st N O m = true) : ∀ r ∈ O, upF 0 r = true := by
  unfold mayF at h
  simp only [Bool.and_eq_true, List.all_eq_true] at h
  exact h.2
theorem mayF_of {N O : List (List Int)} {m : Nat} (h1 : O.length = N.length) (h0 : 0 < N.length) (h2 : ∀ r ∈ N, r.length = m) (h3 : ∀ r ∈ N, ∀ z ∈ r, 0 ≤ z ∧ z < (N.length : Int)) (h4 : ∀ r ∈ O, upF 0 r = true) : mayF 0 N O (m : Int) = true := by
  unfold mayF
  simp only [Bool.and_eq_true, decide_eq_true_eq, List.all_eq_true]
  exact ⟨⟨⟨⟨by omega, h1⟩, (oneOf_iff _ _).2 ⟨by omega, by omega⟩⟩, fun r hr => ⟨by rw [h2 r hr], fun z hz => (oneOf_iff _ _).2 (h3 r hr z hz)⟩⟩, h4⟩
/-- The joined rows. -/
def joinN (m : Nat) (F cl nu : Nat → Nat) (fi : List Nat) : List (List Int) := fi.map fun s => (List.range m).map fun c => ((nu (cl (F (s * m + c))) : Nat) : Int)
def joinO (O : List (List Int)) (g : Nat → Nat) (fi : List Nat) : List (List Int) := fi.map fun s => outF O (g s)
theorem joined_lst {m : Nat} {st : Int} {N O : List (List Int)} {n : Nat} {g F cl nu : Nat → Nat} {fi : List Nat} (hmy : mayF st N O (m : Int) = true) (hw : Whl m st.toNat N n g F) (hc : Cls m n F (fun i => outF O (g i)) cl) (hu : Num1 n cl nu fi) : Lst m st N O (joinN m F cl nu fi) (joinO O g fi) := by
  obtain ⟨n', hn', hm⟩ := mayF_may hmy
  obtain rfl : m = n' := by omega
  obtain ⟨f0, f1, f2⟩ := hu.first hw.pos
  have hlen : (joinN m F cl nu fi).length = fi.length := by simp [joinN]
  have hlen2 : (joinO O g fi).length = fi.length := by simp [joinO]
  have hrow : ∀ q, q < fi.length → (joinN m F cl nu fi).getD q [] = (List.range m).map fun c => ((nu (cl (F (fi.getD q 0 * m + c))) : Nat) : Int) := fun q hq => by
    unfold joinN
    rw [List.getD_eq_getElem?_getD, List.getElem?_map, List.getElem?_eq_getElem hq, List.getD_eq_getElem?_getD, List.getElem?_eq_getElem hq]
    rfl
  have hnx : ∀ q c, q < fi.length → c < m → nxF (joinN m F cl nu fi) q c = nu (cl (F (fi.getD q 0 * m + c))) := fun q c hq hcm => by
    unfold nxF
    rw [hrow q hq, List.getD_eq_getElem?_getD, List.getElem?_map, List.getElem?_range hcm]
    simp
  have hou : ∀ q, q < fi.length → outF (joinO O g fi) q = outF O (g (fi.getD q 0)) := fun q hq => by
    show (joinO O g fi).getD q [] = _
    unfold joinO
    rw [List.getD_eq_getElem?_getD, List.getElem?_map, List.getElem?_eq_getElem hq, List.getD_eq_getElem?_getD, List.getElem?_eq_getElem hq]
    rfl
  have hin : ∀ s c, s < n → c < m → F (s * m + c) < n := hw.fl
  have hmay : mayF 0 (joinN m F cl nu fi) (joinO O g fi) (m : Int) = true := by
    refine mayF_of (by rw [hlen, hlen2]) (by omega) (fun r hr => ?_) (fun r hr z hz => ?_) (fun r hr => ?_)
    · unfold joinN at hr
      obtain ⟨s, _, rfl⟩ := List.mem_map.1 hr
      simp
    · unfold joinN at hr
      obtain ⟨s, hs, rfl⟩ := List.mem_map.1 hr
      obtain ⟨c, hcm, rfl⟩ := List.mem_map.1 hz
      obtain ⟨q, hq, rfl⟩ := List.getElem_of_mem hs
      have h1 := hu.lt q hq
      rw [List.getD_eq_getElem?_getD, List.getElem?_eq_getElem hq] at h1
      have := (hu.of _ (hin _ c h1 (List.mem_range.1 hcm))).1
      rw [hlen]
      simp only [Option.getD_some] at this ⊢
      omega
    · unfold joinO at hr
      obtain ⟨s, hs, rfl⟩ := List.mem_map.1 hr
      obtain ⟨q, hq, rfl⟩ := List.getElem_of_mem hs
      have h1 := hu.lt q hq
      rw [List.getD_eq_getElem?_getD, List.getElem?_eq_getElem hq] at h1
      have h2 := hw.gl _ h1
      unfold outF
      have h3 : g fi[q] < O.length := by have := hm.out; simp only [Option.getD_some] at h2; omega
      rw [List.getD_eq_getElem?_getD, List.getElem?_eq_getElem h3]
      exact upF_rise hmy _ (List.getElem_mem h3)
  -- the state s of the whole is the state f s of the joined one
  have hom : ∀ s c, s < n → c < m → nxF (joinN m F cl nu fi) (nu (cl s)) c = nu (cl (F (s * m + c))) := fun s c hs hcm => by
    obtain ⟨h1, h2, _⟩ := hu.of s hs
    rw [hnx _ c h1 hcm, hc.next _ s (hu.lt _ h1) hs h2 c hcm]
  have hot : ∀ s, s < n → outF (joinO O g fi) (nu (cl s)) = outF O (g s) := fun s hs => by
    obtain ⟨h1, h2, _⟩ := hu.of s hs
    rw [hou _ h1]
    exact hc.told _ s (hu.lt _ h1) hs h2
  have hrun : ∀ w s, s < n → okW m w → runW (nxF (joinN m F cl nu fi)) (nu (cl s)) w = nu (cl (runW (fun x c => F (x * m + c)) s w)) := fun w s hs hw' =>
    runW_hom (φ := fun s => nu (cl s)) (f := fun x c => F (x * m + c)) hin hom w s hs hw'
  have hrg : ∀ w s, s < n → okW m w → runW (nxF N) (g s) w = g (runW (fun x c => F (x * m + c)) s w) := fun w s hs hw' =>
    runW_hom (φ := g) (f := fun x c => F (x * m + c)) hin (fun s c hs hcm => (hw.fs s c hs hcm).symm) w s hs hw'
  refine ⟨⟨hmay, ?_, fun p q hp hq hs => ?_⟩, fun w hok => ?_, ?_⟩
  · have hb := hu.bfs hw.bfs hc hw.fl
    rw [hlen]
    have hcong : ∀ i, i < fi.length * m → clF (joinN m F cl nu fi) m i = nu (cl (F (fi.getD (i / m) 0 * m + i % m))) := fun i hi => by
      have hm0 : 0 < m := by
        rcases Nat.eq_zero_or_pos m with rfl | h
        · simp at hi
        · exact h
      exact hnx _ _ ((Nat.div_lt_iff_lt_mul hm0).2 hi) (Nat.mod_lt _ hm0)
    refine ⟨fun i hi => ?_, fun q hq => ?_⟩
    · rw [hcong i hi, top_congr (G := jF m F cl nu fi) (fun j hj => hcong j (by omega))]
      exact hb.up i hi
    · have hle := Nat.mul_le_mul_right m (Nat.le_of_lt hq)
      rw [top_congr (G := jF m F cl nu fi) (fun j hj => hcong j (by omega))]
      exact hb.row q hq
  · rw [hlen] at hp hq
    have e1 := hu.nu p hp
    have e2 := hu.nu q hq
    have n1 := hu.lt p hp
    have n2 := hu.lt q hq
    rw [← e1, ← e2]
    congr 1
    refine hc.wide _ _ n1 n2 (fun w hok => ?_)
    have h1 := hs w hok
    rw [← e1, ← e2, hrun w _ n1 hok, hrun w _ n2 hok] at h1
    rw [hot _ (runW_in (m := m) (n := n) (f := fun x c => F (x * m + c)) hin w _ n1 hok), hot _ (runW_in (m := m) (n := n) (f := fun x c => F (x * m + c)) hin w _ n2 hok)] at h1
    exact h1
  · have h0 : 0 = nu (cl 0) := f2.symm
    rw [h0, hrun w 0 hw.pos hok, hot _ (runW_in (m := m) (n := n) (f := fun x c => F (x * m + c)) hin w _ hw.pos hok)]
    have := hrg w 0 hw.pos hok
    rw [hw.g0] at this
    rw [← this]
  · rw [hlen]
    have h1 : fi.length ≤ n := by
      refine nodup_le n fi ?_ (fun x hx => ?_)
      · rw [List.nodup_iff_pairwise_ne, List.pairwise_iff_getElem]
        intro i j hi hj hij
        have := hu.up i j hij hj
        rw [List.getD_eq_getElem?_getD, List.getElem?_eq_getElem hi, List.getD_eq_getElem?_getD, List.getElem?_eq_getElem hj] at this
        simp only [Option.getD_some] at this
        omega
      · obtain ⟨q, hq, rfl⟩ := List.getElem_of_mem hx
        have := hu.lt q hq
        rw [List.getD_eq_getElem?_getD, List.getElem?_eq_getElem hq] at this
        exact this
    have := hw.le
    omega
end Go.Proofs.YtjemjccgfgijiaaDoor
namespace Go.Proofs.YtjemjccgfgijiaaDoor
def Fl (FN : List Nat) (c : Nat) : Nat := FN.getD c 0
def Lg1 (L : List Nat) (i : Nat) : Nat := L.getD i 0
theorem Fl_old {FN : List Nat} {v c : Nat} (h : c < FN.length) : Fl (FN ++ [v]) c = Fl FN c := by
  unfold Fl
  rw [List.getD_eq_getElem?_getD, List.getD_eq_getElem?_getD, List.getElem?_append_left h]
theorem Fl_new (FN : List Nat) (v : Nat) : Fl (FN ++ [v]) FN.length = v := by
  unfold Fl
  rw [List.getD_eq_getElem?_getD, List.getElem?_append_right (Nat.le_refl _)]
  simp
theorem top_old {FN : List Nat} {v c : Nat} (h : c ≤ FN.length) : top (Fl (FN ++ [v])) c = top (Fl FN) c := top_congr (fun j hj => Fl_old (by omega))
/-- One more than the number of a state among those met; 0: it was not met. -/
def nuF (L : List Nat) (s : Nat) : Nat := if s ∈ L then L.idxOf s + 1 else 0
structure BfI (m st : Nat) (N : List (List Int)) (L FN : List Nat) (i j : Nat) : Prop where
  nd : L.Nodup
  h0 : Lg1 L 0 = st ∧ 0 < L.length
  lt : ∀ x ∈ L, x < N.length
  len : FN.length = i * m + j
  cell : ∀ c, c < FN.length → Fl FN c < L.length ∧ Lg1 L (Fl FN c) = nxF N (Lg1 L (c / m)) (c % m)
  up : ∀ c, c < FN.length → Fl FN c ≤ top (Fl FN) c + 1
  cnt : L.length = top (Fl FN) FN.length + 1
  row : ∀ q, q < i → q ≤ top (Fl FN) (q * m)
  il : i ≤ L.length
theorem bfI_zero (m : Nat) {st : Nat} {N : List (List Int)} (h : st < N.length) : BfI m st N [st] [] 0 0 :=
  ⟨by simp, ⟨rfl, by simp⟩, fun x hx => by rw [List.mem_singleton.1 hx]; exact h, by simp, fun c h => absurd h (Nat.not_lt_zero _), fun c h => absurd h (Nat.not_lt_zero _), by simp [top], fun q h => absurd h (Nat.not_lt_zero _), by simp⟩
theorem Lg1_mem {L : List Nat} {i : Nat} (h : i < L.length) : Lg1 L i ∈ L := by
  unfold Lg1
  rw [List.getD_eq_getElem?_getD, List.getElem?_eq_getElem h]
  exact List.getElem_mem h
theorem Lg1_idx {L : List Nat} {y : Nat} (h : y ∈ L) : Lg1 L (L.idxOf y) = y := by
  have hi := List.idxOf_lt_length_iff.2 h
  unfold Lg1
  rw [List.getD_eq_getElem?_getD, List.getElem?_eq_getElem hi]
  exact List.getElem_idxOf hi
theorem Lg1_old {L : List Nat} {y i : Nat} (h : i < L.length) : Lg1 (L ++ [y]) i = Lg1 L i := by
  unfold Lg1
  rw [List.getD_eq_getElem?_getD, List.getD_eq_getElem?_getD, List.getElem?_append_left h]
theorem Lg1_new (L : List Nat) (y : Nat) : Lg1 (L ++ [y]) L.length = y := by
  unfold Lg1
  rw [List.getD_eq_getElem?_getD, List.getElem?_append_right (Nat.le_refl _)]
  simp
section
variable {m st : Nat} {N : List (List Int)} {L FN : List Nat} {i j : Nat}
/-- A state that was met. -/
theorem BfI.old (h : BfI m st N L FN i j) (hj : j < m) (_hi : i < L.length) {y : Nat} (hy : y = nxF N (Lg1 L i) j) (hm : y ∈ L) : BfI m st N L (FN ++ [L.idxOf y]) i (j + 1) := by
  have hidx := List.idxOf_lt_length_iff.2 hm
  have hcnt := h.cnt
  have hdiv : FN.length / m = i ∧ FN.length % m = j := by
    rw [h.len, Nat.mul_comm, Nat.mul_add_div (by omega), Nat.div_eq_of_lt hj, Nat.mul_add_mod, Nat.mod_eq_of_lt hj]
    exact ⟨by omega, rfl⟩
  refine ⟨h.nd, h.h0, h.lt, by rw [List.length_append, h.len]; simp; omega, fun c hc => ?_, fun c hc => ?_, ?_, fun q hq => ?_, h.il⟩
  · rw [List.length_append, List.length_singleton] at hc
    by_cases e : c = FN.length
    · subst e
      rw [Fl_new, hdiv.1, hdiv.2, Lg1_idx hm]
      exact ⟨hidx, hy⟩
    · rw [Fl_old (by omega)]
      exact h.cell c (by omega)
  · rw [List.length_append, List.length_singleton] at hc
    rw [top_old (by omega)]
    by_cases e : c = FN.length
    · subst e
      rw [Fl_new]
      omega
    · rw [Fl_old (by omega)]
      exact h.up c (by omega)
  · rw [List.length_append, List.length_singleton, top_succ, top_old (Nat.le_refl _), Fl_new]
    omega
  · have hle : q * m ≤ FN.length := by rw [h.len]; have := Nat.mul_le_mul_right m (Nat.le_of_lt hq); omega
    rw [top_old hle]
    exact h.row q hq
/-- A new one. -/
theorem BfI.new (h : BfI m st N L FN i j) (hj : j < m) (hi : i < L.length) {y : Nat} (hy : y = nxF N (Lg1 L i) j) (hyn : y < N.length) (hm : y ∉ L) : BfI m st N (L ++ [y]) (FN ++ [L.length]) i (j + 1) := by
  have hcnt := h.cnt
  have hdiv : FN.length / m = i ∧ FN.length % m = j := by
    rw [h.len, Nat.mul_comm, Nat.mul_add_div (by omega), Nat.div_eq_of_lt hj, Nat.mul_add_mod, Nat.mod_eq_of_lt hj]
    exact ⟨by omega, rfl⟩
  refine ⟨?_, ⟨by rw [Lg1_old h.h0.2]; exact h.h0.1, by simp⟩, fun x hx => ?_, by rw [List.length_append, h.len]; simp; omega, fun c hc => ?_, fun c hc => ?_, ?_, fun q hq => ?_, by rw [List.length_append]; have := h.il; omega⟩
  · rw [List.nodup_append]
    exact ⟨h.nd, by simp, fun a ha b hb e => hm (by rw [← List.mem_singleton.1 hb, ← e]; exact ha)⟩
  · rcases List.mem_append.1 hx with hx | hx
    · exact h.lt x hx
    · rw [List.mem_singleton.1 hx]; exact hyn
  · rw [List.length_append, List.length_singleton] at hc ⊢
    by_cases e : c = FN.length
    · subst e
      rw [Fl_new, hdiv.1, hdiv.2, Lg1_new, Lg1_old hi]
      exact ⟨by omega, hy⟩
    · rw [Fl_old (by omega)]
      obtain ⟨h1, h2⟩ := h.cell c (by omega)
      have hcm : c / m < L.length := by
        have : c / m ≤ i := by
          rw [← hdiv.1]
          exact Nat.div_le_div_right (by omega)
        omega
      rw [Lg1_old h1, Lg1_old hcm]
      exact ⟨by omega, h2⟩
  · rw [List.length_append, List.length_singleton] at hc
    rw [top_old (by omega)]
    by_cases e : c = FN.length
    · subst e
      rw [Fl_new]
      omega
    · rw [Fl_old (by omega)]
      exact h.up c (by omega)
  · rw [List.length_append, List.length_append, List.length_singleton, List.length_singleton, top_succ, top_old (Nat.le_refl _), Fl_new]
    omega
  · have hle : q * m ≤ FN.length := by rw [h.len]; have := Nat.mul_le_mul_right m (Nat.le_of_lt hq); omega
    rw [top_old hle]
    exact h.row q hq
theorem BfI.next (h : BfI m st N L FN i m) (hi : i < L.length) (hc : i ≤ top (Fl FN) (i * m)) : BfI m st N L FN (i + 1) 0 :=
  ⟨h.nd, h.h0, h.lt, by rw [h.len, Nat.add_mul]; omega, h.cell, h.up, h.cnt, fun q hq => by
    by_cases e : q = i
    · subst e; exact hc
    · exact h.row q (by omega), by omega⟩
theorem BfI.cur (h : BfI m st N L FN i 0) (hi : i < L.length) : i ≤ top (Fl FN) (i * m) := by
  have h1 := h.cnt
  simp only [h.len, Nat.add_zero] at h1
  omega
theorem cur_more {v : Nat} (h : i ≤ top (Fl FN) (i * m)) (hl : i * m ≤ FN.length) : i ≤ top (Fl (FN ++ [v])) (i * m) := by rw [top_old hl]; exact h
/-- All have been gone through. -/
theorem BfI.done (h : BfI m st N L FN i 0) (hi : i = L.length) : Whl m st N L.length (Lg1 L) (Fl FN) := by
  have hl := h.len
  rw [Nat.add_zero, hi] at hl
  have hc : ∀ q c, q < L.length → c < m → q * m + c < FN.length ∧ (q * m + c) / m = q ∧ (q * m + c) % m = c := fun q c hq hc => by
    have := Nat.mul_le_mul_right m (show q + 1 ≤ L.length by omega)
    rw [Nat.add_mul] at this
    refine ⟨by omega, ?_, ?_⟩
    · rw [Nat.mul_comm, Nat.mul_add_div (by omega), Nat.div_eq_of_lt hc, Nat.add_zero]
    · rw [Nat.mul_comm, Nat.mul_add_mod, Nat.mod_eq_of_lt hc]
  refine ⟨h.h0.2, nodup_le _ _ h.nd h.lt, h.h0.1, fun q hq => h.lt _ (Lg1_mem hq), fun q c hq hcm => (h.cell _ (hc q c hq hcm).1).1, fun q c hq hcm => ?_, ⟨fun c hcl => h.up c (by omega), fun q hq => h.row q (by omega)⟩⟩
  obtain ⟨a, b, d⟩ := hc q c hq hcm
  have := (h.cell _ a).2
  rw [b, d] at this
  exact this
end
theorem idxOf_add1 (y : Nat) : ∀ (L : List Nat) (s : Nat), (s ∈ L → (L ++ [y]).idxOf s = L.idxOf s) ∧ (y ∉ L → (L ++ [y]).idxOf y = L.length) := by
  intro L
  induction L with
  | nil => intro s; exact ⟨fun h => absurd h (by simp), fun _ => by simp⟩
  | cons a L ih =>
    intro s
    refine ⟨fun h => ?_, fun h => ?_⟩
    · rw [List.cons_append, List.idxOf_cons, List.idxOf_cons]
      by_cases e : a = s
      · simp [e]
      · have hm : s ∈ L := by
          rcases List.mem_cons.1 h with h | h
          · exact absurd h.symm e
          · exact h
        rw [(ih s).1 hm]
    · have h1 : ¬ a = y := fun e => h (by simp [e])
      have h2 : y ∉ L := fun e => h (by simp [e])
      rw [List.cons_append, List.idxOf_cons, (ih s).2 h2, show (a == y) = false from beq_false_of_ne h1]
      rfl
theorem nuF_put {L : List Nat} {y : Nat} (hy : y ∉ L) (s : Nat) : nuF (L ++ [y]) s = if s = y then L.length + 1 else nuF L s := by
  unfold nuF
  by_cases e : s = y
  · subst e
    rw [if_pos (by simp), if_pos rfl, (idxOf_add1 s L s).2 hy]
  · rw [if_neg e]
    by_cases hm : s ∈ L
    · rw [if_pos (by simp [hm]), if_pos hm, (idxOf_add1 y L s).1 hm]
    · rw [if_neg (by simp [hm, e]), if_neg hm]
end Go.Proofs.YtjemjccgfgijiaaDoor
namespace Go.Proofs.YtjemjccgfgijiaaDoor
def spF (sp : List (Nat × Nat)) (k : Nat) : Nat × Nat := sp.getD k (0, 0)
def spS (sp : List (Nat × Nat)) : Nat := (sp.map fun x => x.2 - x.1).sum
/-- States in a row, those of one class side by side. -/
structure Prt (n : Nat) (ro pl cl : Nat → Nat) (sp : List (Nat × Nat)) : Prop where
  rl : ∀ i, i < n → ro i < n ∧ pl (ro i) = i
  lr : ∀ s, s < n → pl s < n ∧ ro (pl s) = s
  cs : ∀ s, s < n → cl s < sp.length ∧ (spF sp (cl s)).1 ≤ pl s ∧ pl s < (spF sp (cl s)).2
  sz : ∀ k, k < sp.length → (spF sp k).1 < (spF sp k).2 ∧ (spF sp k).2 ≤ n
  on : ∀ k i, k < sp.length → (spF sp k).1 ≤ i → i < (spF sp k).2 → cl (ro i) = k
  sum : spS sp = n
theorem sum_ge : ∀ (l : List Nat), (∀ x ∈ l, 1 ≤ x) → l.length ≤ l.sum
  | [], _ => Nat.le_refl _
  | x :: l, h => by
    have h1 := h x (.head _)
    have h2 := sum_ge l (fun y hy => h y (.tail _ hy))
    rw [List.length_cons, List.sum_cons]
    omega
theorem Prt.few {n : Nat} {ro pl cl : Nat → Nat} {sp : List (Nat × Nat)} (h : Prt n ro pl cl sp) : sp.length ≤ n := by
  have h1 := sum_ge (sp.map fun x => x.2 - x.1) (fun x hx => by
    obtain ⟨y, hy, rfl⟩ := List.mem_map.1 hx
    obtain ⟨k, hk, rfl⟩ := List.getElem_of_mem hy
    have := (h.sz k hk).1
    unfold spF at this
    rw [List.getD_eq_getElem?_getD, List.getElem?_eq_getElem hk] at this
    simp only [Option.getD_some] at this
    omega)
  have h2 := h.sum
  unfold spS at h2
  rw [List.length_map] at h1
  omega
theorem prt_new (n : Nat) (hn : 0 < n) : Prt n (fun s => s) (fun s => s) (fun _ => 0) [(0, n)] :=
  ⟨fun i hi => ⟨hi, rfl⟩, fun i hi => ⟨hi, rfl⟩, fun s hs => ⟨by simp, Nat.zero_le _, hs⟩, fun k hk => by
    obtain rfl : k = 0 := by simpa using hk
    exact ⟨hn, Nat.le_refl _⟩, fun k i hk _ _ => by simp at hk; exact hk.symm, by simp [spS]⟩
/-- Two places are exchanged. -/
def swR (ro : Nat → Nat) (i j : Nat) : Nat → Nat := putF (putF ro i (ro j)) j (ro i)
def swP (ro pl : Nat → Nat) (i j : Nat) : Nat → Nat := putF (putF pl (ro i) j) (ro j) i
theorem Prt.swap {n : Nat} {ro pl cl : Nat → Nat} {sp : List (Nat × Nat)} (h : Prt n ro pl cl sp) {i j : Nat} (hi : i < n) (hj : j < n) (he : cl (ro i) = cl (ro j)) : Prt n (swR ro i j) (swP ro pl i j) cl sp := by
  obtain ⟨i1, i2⟩ := h.rl i hi
  obtain ⟨j1, j2⟩ := h.rl j hj
  have hinj : ro i = ro j → i = j := fun e => by rw [← i2, ← j2, e]
  have hro : ∀ x, x < n → swR ro i j x < n ∧ swP ro pl i j (swR ro i j x) = x := fun x hx => by
    obtain ⟨x1, x2⟩ := h.rl x hx
    unfold swR swP putF
    by_cases e1 : x = j
    · subst e1
      simp only [if_true]
      refine ⟨i1, ?_⟩
      by_cases e3 : ro i = ro x
      · rw [if_pos e3]; exact hinj e3
      · rw [if_neg e3]
    · simp only [if_neg e1]
      by_cases e2 : x = i
      · subst e2
        simp only [if_true]
        exact ⟨j1, trivial⟩
      · simp only [if_neg e2]
        refine ⟨x1, ?_⟩
        rw [if_neg (fun e => e1 (by rw [← x2, ← j2, e])), if_neg (fun e => e2 (by rw [← x2, ← i2, e]))]
        exact x2
  have hpl : ∀ s, s < n → swP ro pl i j s < n ∧ swR ro i j (swP ro pl i j s) = s := fun s hs => by
    obtain ⟨s1, s2⟩ := h.lr s hs
    unfold swP swR putF
    by_cases e1 : s = ro j
    · rw [if_pos e1]
      refine ⟨hi, ?_⟩
      by_cases e3 : i = j
      · rw [if_pos e3, e1, e3]
      · rw [if_neg e3, if_pos rfl, e1]
    · rw [if_neg e1]
      by_cases e2 : s = ro i
      · rw [if_pos e2]
        exact ⟨hj, by rw [if_pos rfl, e2]⟩
      · rw [if_neg e2]
        refine ⟨s1, ?_⟩
        rw [if_neg (fun e => e1 (by rw [← s2, e])), if_neg (fun e => e2 (by rw [← s2, e]))]
        exact s2
  have hcl : ∀ x, x < n → cl (swR ro i j x) = cl (ro x) := fun x _ => by
    unfold swR putF
    by_cases e1 : x = j
    · rw [if_pos e1, he, e1]
    · rw [if_neg e1]
      by_cases e2 : x = i
      · rw [if_pos e2, ← he, e2]
      · rw [if_neg e2]
  refine ⟨hro, hpl, fun s hs => ?_, h.sz, fun k x hk h1 h2 => ?_, h.sum⟩
  · obtain ⟨p1, p2⟩ := hpl s hs
    have hc := hcl _ p1
    rw [p2] at hc
    obtain ⟨c1, c2, c3⟩ := h.cs _ (h.rl _ p1).1
    rw [(h.rl _ p1).2, ← hc] at c2 c3
    exact ⟨by rw [hc]; exact c1, c2, c3⟩
  · have := (h.sz k hk).2
    rw [hcl x (by omega)]
    exact h.on k x hk h1 h2
theorem spF_set {sp : List (Nat × Nat)} {k : Nat} (hk : k < sp.length) (x y : Nat × Nat) (j : Nat) : spF (sp.set k x ++ [y]) j = if j = k then x else if j = sp.length then y else spF sp j := by
  unfold spF
  rw [List.getD_eq_getElem?_getD, List.getD_eq_getElem?_getD]
  by_cases e1 : j = k
  · subst e1
    rw [if_pos rfl, List.getElem?_append_left (by simpa using hk), List.getElem?_set_self hk]
    rfl
  · rw [if_neg e1]
    by_cases e2 : j = sp.length
    · subst e2
      rw [if_pos rfl, List.getElem?_append_right (by simp)]
      simp
    · rw [if_neg e2]
      rcases Nat.lt_or_ge j sp.length with h | h
      · rw [List.getElem?_append_left (by simpa using h), List.getElem?_set_ne (fun e => e1 e.symm)]
      · rw [List.getElem?_append_right (by simpa using h), List.getElem?_eq_none (by simp; omega), List.getElem?_eq_none h]
theorem sum_set : ∀ (l : List Nat) (k : Nat) (h : k < l.length) (v : Nat), (l.set k v).sum + l[k] = l.sum + v
  | x :: l, 0, _, v => by simp; omega
  | x :: l, k + 1, h, v => by
    have := sum_set l k (by simpa using h) v
    simp only [List.set_cons_succ, List.sum_cons, List.getElem_cons_succ]
    omega
/-- A class is parted: what stands in the lesser piece gets a new number. -/
theorem Prt.split {n : Nat} {ro pl cl : Nat → Nat} {sp : List (Nat × Nat)} (h : Prt n ro pl cl sp) {k : Nat} (hk : k < sp.length) {mo le : Nat × Nat}
    (hs : ∃ x, (spF sp k).1 < x ∧ x < (spF sp k).2 ∧ ((mo = ((spF sp k).1, x) ∧ le = (x, (spF sp k).2)) ∨ (le = ((spF sp k).1, x) ∧ mo = (x, (spF sp k).2)))) :
    Prt n ro pl (fun s => if le.1 ≤ pl s ∧ pl s < le.2 then sp.length else cl s) (sp.set k mo ++ [le]) := by
  obtain ⟨x, x1, x2, hx⟩ := hs
  obtain ⟨z1, z2⟩ := h.sz k hk
  have hlen : (sp.set k mo ++ [le]).length = sp.length + 1 := by simp
  have hin : ∀ s, s < n → le.1 ≤ pl s → pl s < le.2 → cl s = k := fun s hs a b => by
    have h1 := h.on k (pl s) hk (by rcases hx with ⟨e1, e2⟩ | ⟨e1, e2⟩ <;> (subst e1 e2; simp only at a b; omega)) (by rcases hx with ⟨e1, e2⟩ | ⟨e1, e2⟩ <;> (subst e1 e2; simp only at a b; omega))
    rw [(h.lr s hs).2] at h1
    exact h1
  refine ⟨h.rl, h.lr, fun s hs => ?_, fun j hj => ?_, fun j i hj a b => ?_, ?_⟩
  · obtain ⟨c1, c2, c3⟩ := h.cs s hs
    rw [hlen, spF_set hk]
    by_cases e : le.1 ≤ pl s ∧ pl s < le.2
    · simp only [if_pos e]
      rw [if_neg (by omega), if_pos trivial]
      exact ⟨by omega, e.1, e.2⟩
    · simp only [if_neg e]
      by_cases e2 : cl s = k
      · rw [if_pos e2]
        rw [e2] at c2 c3
        refine ⟨by omega, ?_⟩
        rcases hx with ⟨e3, e4⟩ | ⟨e3, e4⟩ <;> (subst e3 e4; simp only at e ⊢; omega)
      · rw [if_neg e2, if_neg (by omega)]
        exact ⟨by omega, c2, c3⟩
  · rw [hlen] at hj
    rw [spF_set hk]
    by_cases e1 : j = k
    · rw [if_pos e1]
      rcases hx with ⟨e3, e4⟩ | ⟨e3, e4⟩ <;> (subst e3 e4; simp only; omega)
    · rw [if_neg e1]
      by_cases e2 : j = sp.length
      · rw [if_pos e2]
        rcases hx with ⟨e3, e4⟩ | ⟨e3, e4⟩ <;> (subst e3 e4; simp only; omega)
      · rw [if_neg e2]
        exact h.sz j (by omega)
  · rw [hlen] at hj
    rw [spF_set hk] at a b
    show (if le.1 ≤ pl (ro i) ∧ pl (ro i) < le.2 then sp.length else cl (ro i)) = j
    by_cases e1 : j = k
    · rw [if_pos e1] at a b
      have hi : i < n := by rcases hx with ⟨e3, e4⟩ | ⟨e3, e4⟩ <;> (subst e3 e4; simp only at a b; omega)
      rw [(h.rl i hi).2, if_neg (by rcases hx with ⟨e3, e4⟩ | ⟨e3, e4⟩ <;> (subst e3 e4; simp only at a b ⊢; omega)), e1]
      exact h.on k i hk (by rcases hx with ⟨e3, e4⟩ | ⟨e3, e4⟩ <;> (subst e3 e4; simp only at a b; omega)) (by rcases hx with ⟨e3, e4⟩ | ⟨e3, e4⟩ <;> (subst e3 e4; simp only at a b; omega))
    · rw [if_neg e1] at a b
      by_cases e2 : j = sp.length
      · rw [if_pos e2] at a b
        have hi : i < n := by rcases hx with ⟨e3, e4⟩ | ⟨e3, e4⟩ <;> (subst e3 e4; simp only at a b; omega)
        rw [(h.rl i hi).2, if_pos ⟨a, b⟩, e2]
      · rw [if_neg e2] at a b
        have hjl : j < sp.length := by omega
        have hi : i < n := by have := (h.sz j hjl).2; omega
        have hc := h.on j i hjl a b
        rw [if_neg (fun e => e1 (by rw [← hc]; exact hin _ (h.rl i hi).1 e.1 e.2))]
        exact hc
  · have h1 := h.sum
    unfold spS at h1 ⊢
    rw [List.map_append, List.sum_append, List.map_set]
    have h2 := sum_set (sp.map fun x => x.2 - x.1) k (by simpa using hk) (mo.2 - mo.1)
    have h3 : (sp.map fun x => x.2 - x.1)[k]'(by simpa using hk) = (spF sp k).2 - (spF sp k).1 := by
      unfold spF
      rw [List.getElem_map, List.getD_eq_getElem?_getD, List.getElem?_eq_getElem hk]
      rfl
    rw [h3] at h2
    simp only [List.map_cons, List.map_nil, List.sum_cons, List.sum_nil]
    rcases hx with ⟨e3, e4⟩ | ⟨e3, e4⟩ <;> (subst e3 e4; simp only at h2 ⊢; omega)
/-- While the states of S are put to their class's end: t of them stand there. -/
structure Cut1 (n : Nat) (S : List Nat) (k f to t : Nat) (ro pl cl : Nat → Nat) (sp : List (Nat × Nat)) : Prop where
  prt : Prt n ro pl cl sp
  k' : k < sp.length
  sp' : spF sp k = (f, to)
  room : f + t ≤ to
  ends : ∀ i, to - t ≤ i → i < to → ro i ∈ S.take t
  back : ∀ x ∈ S.take t, to - t ≤ pl x
/-- What may be cut off: states of one class. -/
structure Cuttable (n : Nat) (cl : Nat → Nat) (S : List Nat) : Prop where
  ne : S ≠ []
  nd : S.Nodup
  lt : ∀ x ∈ S, x < n
  one : ∀ x ∈ S, ∀ y ∈ S, cl x = cl y
theorem cut1_zero {n : Nat} {S : List Nat} {ro pl cl : Nat → Nat} {sp : List (Nat × Nat)} (h : Prt n ro pl cl sp) (hS : Cuttable n cl S) {k : Nat} (hk : ∀ x ∈ S, cl x = k) : Cut1 n S k (spF sp k).1 (spF sp k).2 0 ro pl cl sp := by
  obtain ⟨x, hx⟩ := List.exists_mem_of_ne_nil _ hS.ne
  have hc := (h.cs x (hS.lt x hx)).1
  rw [hk x hx] at hc
  exact ⟨h, hc, rfl, by have := (h.sz k hc).1; omega, fun i a b => by omega, fun x hx => by simp at hx⟩
theorem Cut1.at {n : Nat} {S : List Nat} {k f to t : Nat} {ro pl cl : Nat → Nat} {sp : List (Nat × Nat)} (h : Cut1 n S k f to t ro pl cl sp) (hS : Cuttable n cl S) (hk : ∀ x ∈ S, cl x = k) (ht : t < S.length) : f ≤ pl S[t] ∧ pl S[t] < to - t ∧ to ≤ n ∧ S[t] < n := by
  have hm : S[t] ∈ S := List.getElem_mem ht
  have hlt := hS.lt _ hm
  obtain ⟨c1, c2, c3⟩ := h.prt.cs _ hlt
  rw [hk _ hm, h.sp'] at c2 c3
  have hto := (h.prt.sz k h.k').2
  rw [h.sp'] at hto
  simp only at c2 c3 hto
  refine ⟨c2, Nat.lt_of_not_le fun hge => ?_, hto, hlt⟩
  have := h.ends _ hge c3
  rw [(h.prt.lr _ hlt).2] at this
  obtain ⟨j, hj, e⟩ := List.getElem_of_mem this
  rw [List.length_take] at hj
  rw [List.getElem_take] at e
  have hp := List.pairwise_iff_getElem.1 (List.nodup_iff_pairwise_ne.1 hS.nd) j t (by omega) ht (by omega)
  exact hp e
theorem Cut1.step {n : Nat} {S : List Nat} {k f to t : Nat} {ro pl cl : Nat → Nat} {sp : List (Nat × Nat)} (h : Cut1 n S k f to t ro pl cl sp) (hS : Cuttable n cl S) (hk : ∀ x ∈ S, cl x = k) (ht : t < S.length) : Cut1 n S k f to (t + 1) (swR ro (pl S[t]) (to - (t + 1))) (swP ro pl (pl S[t]) (to - (t + 1))) cl sp := by
  obtain ⟨a1, a2, a3, a4⟩ := h.at hS hk ht
  have hm : S[t] ∈ S := List.getElem_mem ht
  obtain ⟨p1, p2⟩ := h.prt.lr _ a4
  have hjn : to - (t + 1) < n := by omega
  obtain ⟨j1, j2⟩ := h.prt.rl _ hjn
  have hcj : cl (ro (to - (t + 1))) = k := h.prt.on k _ h.k' (by rw [h.sp']; simp only; omega) (by rw [h.sp']; simp only; omega)
  have htk : S.take (t + 1) = S.take t ++ [S[t]] := List.take_succ_eq_append_getElem ht
  refine ⟨h.prt.swap p1 hjn (by rw [p2, hcj]; exact hk _ hm), h.k', h.sp', by omega, fun i a b => ?_, fun x hx => ?_⟩
  · rw [htk]
    unfold swR putF
    by_cases e : i = to - (t + 1)
    · rw [if_pos e, p2]; exact List.mem_append_right _ (List.mem_singleton.2 rfl)
    · rw [if_neg e, if_neg (by omega)]
      exact List.mem_append_left _ (h.ends i (by omega) b)
  · rw [htk] at hx
    unfold swP putF
    rw [p2]
    rcases List.mem_append.1 hx with hx | hx
    · have hb := h.back x hx
      rw [if_neg (fun e => by rw [e, j2] at hb; omega)]
      by_cases e : x = S[t]
      · rw [if_pos e]; exact Nat.le_refl _
      · rw [if_neg e]; omega
    · obtain rfl := List.mem_singleton.1 hx
      by_cases e : S[t] = ro (to - (t + 1))
      · rw [if_pos e]
        have : pl S[t] = to - (t + 1) := by rw [e, j2]
        omega
      · rw [if_neg e, if_pos rfl]; exact Nat.le_refl _
/-- At the end just the states of S stand there. -/
theorem Cut1.mem {n : Nat} {S : List Nat} {k f to : Nat} {ro pl cl : Nat → Nat} {sp : List (Nat × Nat)} (h : Cut1 n S k f to S.length ro pl cl sp) (hk : ∀ x ∈ S, cl x = k) (_hS : Cuttable n cl S) {x : Nat} (hx : x < n) : x ∈ S ↔ to - S.length ≤ pl x ∧ pl x < to := by
  constructor
  · intro hm
    refine ⟨h.back x (by rw [List.take_length]; exact hm), ?_⟩
    have := (h.prt.cs x hx).2.2
    rw [hk x hm, h.sp'] at this
    exact this
  · rintro ⟨a, b⟩
    have := h.ends _ a b
    rw [List.take_length, (h.prt.lr x hx).2] at this
    exact this
/-- What a cut does. -/
structure CutR (n : Nat) (S : List Nat) (cl cl' : Nat → Nat) (add : List Nat) (K K' : Nat) : Prop where
  eqv : ∀ s t, s < n → t < n → (cl' s = cl' t ↔ (cl s = cl t ∧ (s ∈ S ↔ t ∈ S)))
  nd : add.Nodup
  new : ∀ x ∈ add, x < n ∧ cl' x = K
  old : ∀ x, x < n → x ∉ add → cl' x = cl x
  cnt : (K' = K ∧ add = []) ∨ K' = K + 1
/-- The states that stand from one place to another. -/
def seg (ro : Nat → Nat) (a b : Nat) : List Nat := (List.range (b - a)).map fun i => ro (a + i)
theorem seg_mem {n : Nat} {ro pl cl : Nat → Nat} {sp : List (Nat × Nat)} (h : Prt n ro pl cl sp) {a b : Nat} (hb : b ≤ n) {x : Nat} (hx : x < n) : x ∈ seg ro a b ↔ a ≤ pl x ∧ pl x < b := by
  unfold seg
  rw [List.mem_map]
  constructor
  · rintro ⟨i, hi, rfl⟩
    have hi := List.mem_range.1 hi
    rw [(h.rl (a + i) (by omega)).2]
    omega
  · rintro ⟨h1, h2⟩
    exact ⟨pl x - a, List.mem_range.2 (by omega), by rw [show a + (pl x - a) = pl x by omega]; exact (h.lr x hx).2⟩
theorem seg_nodup {n : Nat} {ro pl cl : Nat → Nat} {sp : List (Nat × Nat)} (h : Prt n ro pl cl sp) {a b : Nat} (hb : b ≤ n) : (seg ro a b).Nodup := by
  unfold seg
  rw [List.nodup_iff_pairwise_ne, List.pairwise_iff_getElem]
  intro i j hi hj hij
  simp only [List.length_map, List.length_range] at hi hj
  simp only [List.getElem_map, List.getElem_range]
  intro e
  have e1 := (h.rl (a + i) (by omega)).2
  have e2 := (h.rl (a + j) (by omega)).2
  rw [e] at e1
  omega
theorem seg_lt {n : Nat} {ro pl cl : Nat → Nat} {sp : List (Nat × Nat)} (h : Prt n ro pl cl sp) {a b : Nat} (hb : b ≤ n) : ∀ x ∈ seg ro a b, x < n := by
  intro x hx
  unfold seg at hx
  obtain ⟨i, hi, rfl⟩ := List.mem_map.1 hx
  exact (h.rl (a + i) (by have := List.mem_range.1 hi; omega)).1
/-- All of a class is cut off: nothing happens. -/
theorem Cut1.none {n : Nat} {S : List Nat} {k f to : Nat} {ro pl cl : Nat → Nat} {sp : List (Nat × Nat)} (h : Cut1 n S k f to S.length ro pl cl sp) (hk : ∀ x ∈ S, cl x = k) (hS : Cuttable n cl S) (he : to - S.length ≤ f) : CutR n S cl cl [] sp.length sp.length := by
  have hall : ∀ x, x < n → (x ∈ S ↔ cl x = k) := fun x hx => by
    rw [h.mem hk hS hx]
    constructor
    · rintro ⟨a, b⟩
      have := h.prt.on k (pl x) h.k' (by rw [h.sp']; simp only; have := h.room; omega) (by rw [h.sp']; exact b)
      rw [(h.prt.lr x hx).2] at this
      exact this
    · intro e
      have := (h.prt.cs x hx).2
      rw [e, h.sp'] at this
      simp only at this
      omega
  exact ⟨fun s t hs ht => ⟨fun e => ⟨e, by rw [hall s hs, hall t ht, e]⟩, fun e => e.1⟩, List.nodup_nil, fun x hx => (by cases hx), fun _ _ _ => rfl, .inl ⟨rfl, rfl⟩⟩
/-- A part is cut off. -/
theorem Cut1.some {n : Nat} {S : List Nat} {k f to : Nat} {ro pl cl : Nat → Nat} {sp : List (Nat × Nat)} (h : Cut1 n S k f to S.length ro pl cl sp) (hk : ∀ x ∈ S, cl x = k) (hS : Cuttable n cl S) (he : f < to - S.length) {mo le : Nat × Nat}
    (hx : (mo = (f, to - S.length) ∧ le = (to - S.length, to)) ∨ (le = (f, to - S.length) ∧ mo = (to - S.length, to))) :
    Prt n ro pl (fun s => if le.1 ≤ pl s ∧ pl s < le.2 then sp.length else cl s) (sp.set k mo ++ [le]) ∧ CutR n S cl (fun s => if le.1 ≤ pl s ∧ pl s < le.2 then sp.length else cl s) (seg ro le.1 le.2) sp.length (sp.length + 1) ∧ le.1 ≤ le.2 ∧ le.2 ≤ n := by
  have hlen : 0 < S.length := List.length_pos_iff.2 hS.ne
  have hroom := h.room
  have hto := (h.prt.sz k h.k').2
  rw [h.sp'] at hto
  simp only at hto
  have hp := h.prt.split h.k' (mo := mo) (le := le) ⟨to - S.length, by rw [h.sp']; exact he, by rw [h.sp']; simp only; omega, by rw [h.sp']; exact hx⟩
  have hle2 : le.2 ≤ n ∧ le.1 ≤ le.2 := by rcases hx with ⟨e1, e2⟩ | ⟨e1, e2⟩ <;> (subst e1 e2; simp only; omega)
  have hcls : ∀ x, x < n → (f ≤ pl x ∧ pl x < to ↔ cl x = k) := fun x hx' => by
    constructor
    · rintro ⟨a, b⟩
      have := h.prt.on k (pl x) h.k' (by rw [h.sp']; exact a) (by rw [h.sp']; exact b)
      rw [(h.prt.lr x hx').2] at this
      exact this
    · intro e
      have := (h.prt.cs x hx').2
      rw [e, h.sp'] at this
      exact this
  refine ⟨hp, ⟨fun s t hs ht => ?_, seg_nodup h.prt hle2.1, fun x hx' => ?_, fun x hx' hn => ?_, .inr rfl⟩, hle2.2, hle2.1⟩
  · have ms := h.mem hk hS hs
    have mt := h.mem hk hS ht
    have cs := hcls s hs
    have ct := hcls t ht
    have ks := (h.prt.cs s hs).1
    have kt := (h.prt.cs t ht).1
    show (if le.1 ≤ pl s ∧ pl s < le.2 then sp.length else cl s) = (if le.1 ≤ pl t ∧ pl t < le.2 then sp.length else cl t) ↔ _
    rw [ms, mt]
    rcases hx with ⟨e1, e2⟩ | ⟨e1, e2⟩
    · subst e1 e2
      simp only
      by_cases a : to - S.length ≤ pl s ∧ pl s < to
      · rw [if_pos a]
        by_cases b : to - S.length ≤ pl t ∧ pl t < to
        · rw [if_pos b]
          exact ⟨fun _ => ⟨by rw [cs.1 (by omega), ct.1 (by omega)], ⟨fun _ => b, fun _ => a⟩⟩, fun _ => rfl⟩
        · rw [if_neg b]
          exact ⟨fun e => by omega, fun e => absurd (e.2.1 a) b⟩
      · rw [if_neg a]
        by_cases b : to - S.length ≤ pl t ∧ pl t < to
        · rw [if_pos b]
          exact ⟨fun e => by omega, fun e => absurd (e.2.2 b) a⟩
        · rw [if_neg b]
          exact ⟨fun e => ⟨e, ⟨fun q => absurd q a, fun q => absurd q b⟩⟩, fun e => e.1⟩
    · subst e1 e2
      simp only
      by_cases a : f ≤ pl s ∧ pl s < to - S.length
      · rw [if_pos a]
        have ha : cl s = k := cs.1 (by omega)
        by_cases b : f ≤ pl t ∧ pl t < to - S.length
        · rw [if_pos b]
          exact ⟨fun _ => ⟨by rw [ha, ct.1 (by omega)], ⟨fun q => by omega, fun q => by omega⟩⟩, fun _ => rfl⟩
        · rw [if_neg b]
          refine ⟨fun e => by omega, fun e => ?_⟩
          have := ct.2 (by rw [← e.1, ha])
          have := e.2.2 (by omega)
          omega
      · rw [if_neg a]
        by_cases b : f ≤ pl t ∧ pl t < to - S.length
        · rw [if_pos b]
          have hb : cl t = k := ct.1 (by omega)
          refine ⟨fun e => by omega, fun e => ?_⟩
          have := cs.2 (by rw [e.1, hb])
          have := e.2.1 (by omega)
          omega
        · rw [if_neg b]
          refine ⟨fun e => ⟨e, ⟨fun q => ?_, fun q => ?_⟩⟩, fun e => e.1⟩
          · have := ct.2 (by rw [← e]; exact cs.1 (by omega))
            omega
          · have := cs.2 (by rw [e]; exact ct.1 (by omega))
            omega
  · have hxn := seg_lt h.prt hle2.1 x hx'
    exact ⟨hxn, if_pos ((seg_mem h.prt hle2.1 hxn).1 hx')⟩
  · exact if_neg (fun q => hn ((seg_mem h.prt hle2.1 hx').2 q))
/-- What many cuts do, where the queue was empty. -/
structure CutsR (n : Nat) (L : List (List Nat)) (cl cl' : Nat → Nat) (q : List Nat) (K K' : Nat) (wt : Nat → Nat) (T : Nat) : Prop where
  eqv : ∀ s t, s < n → t < n → (cl' s = cl' t ↔ (cl s = cl t ∧ ∀ S ∈ L, (s ∈ S ↔ t ∈ S)))
  new : ∀ x ∈ q, x < n ∧ K ≤ cl' x
  old : ∀ x, x < n → x ∉ q → cl' x = cl x
  cnt : K ≤ K' ∧ (K' = K → q = [])
  len : q.length ≤ L.length * n
  wgt : (q.map wt).sum ≤ L.length * T
theorem cutsR_nil (n : Nat) (cl : Nat → Nat) (K : Nat) (cnt : Nat → Nat) (T : Nat) : CutsR n [] cl cl [] K K cnt T :=
  ⟨fun s t _ _ => ⟨fun e => ⟨e, fun S h => (by cases h)⟩, fun e => e.1⟩, fun x h => (by cases h), fun _ _ _ => rfl, ⟨Nat.le_refl _, fun _ => rfl⟩, by simp, by simp⟩
theorem CutsR.snoc {n : Nat} {L : List (List Nat)} {cl cl' cl2 : Nat → Nat} {q add : List Nat} {K K' K2 : Nat} {cnt : Nat → Nat} {T : Nat} {S : List Nat} (h : CutsR n L cl cl' q K K' cnt T) (hc : CutR n S cl' cl2 add K' K2) (hT : ∀ l : List Nat, l.Nodup → (∀ x ∈ l, x < n) → (l.map cnt).sum ≤ T) : CutsR n (L ++ [S]) cl cl2 (q ++ add) K K2 cnt T := by
  have hadd : ∀ x ∈ add, x < n := fun x hx => (hc.new x hx).1
  have hk := h.cnt.1
  refine ⟨fun s t hs ht => ?_, fun x hx => ?_, fun x hx hn => ?_, ?_, ?_, ?_⟩
  · rw [hc.eqv s t hs ht, h.eqv s t hs ht]
    constructor
    · rintro ⟨⟨e1, e2⟩, e3⟩
      refine ⟨e1, fun S' hS' => ?_⟩
      rcases List.mem_append.1 hS' with hS' | hS'
      · exact e2 S' hS'
      · obtain rfl := List.mem_singleton.1 hS'
        exact e3
    · rintro ⟨e1, e2⟩
      exact ⟨⟨e1, fun S' hS' => e2 S' (List.mem_append_left _ hS')⟩, e2 S (by simp)⟩
  · by_cases ha : x ∈ add
    · obtain ⟨a, b⟩ := hc.new x ha
      exact ⟨a, by omega⟩
    · rcases List.mem_append.1 hx with hx | hx
      · obtain ⟨a, b⟩ := h.new x hx
        exact ⟨a, by rw [hc.old x a ha]; exact b⟩
      · exact absurd hx ha
  · rw [List.mem_append, not_or] at hn
    rw [hc.old x hx hn.2]
    exact h.old x hx hn.1
  · rcases hc.cnt with ⟨e1, e2⟩ | e1
    · refine ⟨by omega, fun e => ?_⟩
      rw [h.cnt.2 (by omega), e2]
      rfl
    · exact ⟨by omega, fun e => by omega⟩
  · rw [List.length_append, List.length_append, Nat.add_mul]
    have := h.len
    have := nodup_le n add hc.nd hadd
    simp
    omega
  · rw [List.map_append, List.sum_append, List.length_append, Nat.add_mul]
    have := h.wgt
    have := hT add hc.nd hadd
    simp
    omega
/-- Lists that can be cut off one behind the other. -/
structure Cutlist (n : Nat) (cl : Nat → Nat) (L : List (List Nat)) : Prop where
  each : ∀ S ∈ L, Cuttable n cl S
  apart : ∀ i j (hi : i < L.length) (hj : j < L.length), i ≠ j → ∀ x ∈ L[i], x ∉ L[j]
theorem CutsR.next {n : Nat} {L : List (List Nat)} {cl cl' : Nat → Nat} {q : List Nat} {K K' : Nat} {cnt : Nat → Nat} {T : Nat} {j : Nat} (h : CutsR n (L.take j) cl cl' q K K' cnt T) (hL : Cutlist n cl L) (hj : j < L.length) : Cuttable n cl' L[j] := by
  have hm : L[j] ∈ L := List.getElem_mem hj
  obtain ⟨a, b, c, d⟩ := hL.each _ hm
  refine ⟨a, b, c, fun x hx y hy => ?_⟩
  rw [h.eqv x y (c x hx) (c y hy)]
  refine ⟨d x hx y hy, fun S hS => ?_⟩
  obtain ⟨i, hi, e⟩ := List.getElem_of_mem hS
  rw [List.length_take] at hi
  rw [List.getElem_take] at e
  subst e
  exact ⟨fun hh => absurd hh (hL.apart j i hj (by omega) (by omega) x hx), fun hh => absurd hh (hL.apart j i hj (by omega) (by omega) y hy)⟩
/-- Classes that are being made finer: the queue's states have got new numbers since. -/
structure Ref (m n : Nat) (F : Nat → Nat) (out : Nat → List Int) (cl old : Nat → Nat) (K0 : Nat) (q : List Nat) : Prop where
  new : ∀ x ∈ q, x < n ∧ K0 ≤ cl x
  nq : ∀ x, x < n → x ∉ q → cl x = old x
  ol : ∀ x, x < n → old x < K0
  st : ∀ s t, s < n → t < n → cl s = cl t → ∀ c, c < m → old (F (s * m + c)) = old (F (t * m + c))
  ou : ∀ s t, s < n → t < n → cl s = cl t → out s = out t
  wide : ∀ s t, s < n → t < n → SameL m (fun x c => F (x * m + c)) (fun x c => F (x * m + c)) out out s t → cl s = cl t
section
variable {m n : Nat} {F : Nat → Nat} {out : Nat → List Int} {cl old : Nat → Nat} {K0 : Nat} {q : List Nat}
theorem Ref.cls (h : Ref m n F out cl old K0 []) (hF : ∀ i c, i < n → c < m → F (i * m + c) < n) : Cls m n F out cl :=
  ⟨h.ou, fun s t hs ht e c hc => by
    rw [h.nq _ (hF s c hs hc) (List.not_mem_nil), h.nq _ (hF t c ht hc) (List.not_mem_nil)]
    exact h.st s t hs ht e c hc, h.wide⟩
/-- Lists by what the states tell. -/
theorem ref_begin {L : List (List Nat)} {cl' : Nat → Nat} {K' T : Nat} {cnt : Nat → Nat} (hc : CutsR n L (fun _ => 0) cl' q 1 K' cnt T) (hL : ∀ S ∈ L, ∀ s ∈ S, ∀ t, t < n → (t ∈ S ↔ out t = out s)) (hA : ∀ s, s < n → ∃ S ∈ L, s ∈ S) : Ref m n F out cl' (fun _ => 0) 1 q := by
  refine ⟨hc.new, hc.old, fun x _ => Nat.zero_lt_one, fun s t _ _ _ c _ => rfl, fun s t hs ht e => ?_, fun s t hs ht e => ?_⟩
  · obtain ⟨S, h1, h2⟩ := hA s hs
    have := ((hc.eqv s t hs ht).1 e).2 S h1
    exact ((hL S h1 s h2 t ht).1 (this.1 h2)).symm
  · rw [hc.eqv s t hs ht]
    refine ⟨rfl, fun S hS => ⟨fun hm => ?_, fun hm => ?_⟩⟩
    · exact (hL S hS s hm t ht).2 e.nil.symm
    · exact (hL S hS t hm s hs).2 e.nil
/-- The symbols by which a state goes to one of the queue, and the classes there. -/
def prs (m : Nat) (F cl : Nat → Nat) (q : List Nat) (s : Nat) : List (Nat × Nat) := ((List.range m).filter fun c => decide (F (s * m + c) ∈ q)).map fun c => (c, cl (F (s * m + c)))
theorem prs_mem {s c v : Nat} : (c, v) ∈ prs m F cl q s ↔ c < m ∧ F (s * m + c) ∈ q ∧ v = cl (F (s * m + c)) := by
  unfold prs
  rw [List.mem_map]
  constructor
  · rintro ⟨d, hd, e⟩
    rw [List.mem_filter, List.mem_range, decide_eq_true_eq] at hd
    injection e with e1 e2
    subst e1
    exact ⟨hd.1, hd.2, e2.symm⟩
  · rintro ⟨h1, h2, rfl⟩
    exact ⟨c, List.mem_filter.2 ⟨List.mem_range.2 h1, decide_eq_true h2⟩, rfl⟩
def keyL (m : Nat) (F cl : Nat → Nat) (q : List Nat) (s : Nat) : List Nat := cl s :: (prs m F cl q s).flatMap fun p => [p.1, p.2]
theorem pairs_inj : ∀ (a b : List (Nat × Nat)), (a.flatMap fun p => [p.1, p.2]) = (b.flatMap fun p => [p.1, p.2]) → a = b
  | [], [], _ => rfl
  | [], _ :: _, h => by simp at h
  | _ :: _, [], h => by simp at h
  | x :: a, y :: b, h => by
    simp only [List.flatMap_cons, List.cons_append, List.nil_append, List.cons.injEq] at h
    rw [pairs_inj a b h.2.2, Prod.ext h.1 h.2.1]
theorem keyL_inj {s t : Nat} (h : keyL m F cl q s = keyL m F cl q t) : cl s = cl t ∧ prs m F cl q s = prs m F cl q t := by
  unfold keyL at h
  injection h with h1 h2
  exact ⟨h1, pairs_inj _ _ h2⟩
/-- One round: lists by the class and the classes of the successors that are in the queue. -/
theorem Ref.round {L : List (List Nat)} {cl' : Nat → Nat} {q' : List Nat} {K K' T : Nat} {cnt : Nat → Nat} (h : Ref m n F out cl old K0 q) (hF : ∀ i c, i < n → c < m → F (i * m + c) < n) (hK : ∀ x, x < n → cl x < K) (hc : CutsR n L cl cl' q' K K' cnt T)
    (hL : ∀ S ∈ L, ∀ s ∈ S, s < n ∧ prs m F cl q s ≠ [] ∧ ∀ t, t < n → (t ∈ S ↔ (prs m F cl q t ≠ [] ∧ keyL m F cl q t = keyL m F cl q s))) (hA : ∀ s, s < n → prs m F cl q s ≠ [] → ∃ S ∈ L, s ∈ S) : Ref m n F out cl' cl K q' := by
  have hq : ∀ x, x < n → (x ∈ q ↔ K0 ≤ cl x) := fun x hx => ⟨fun hm => (h.new x hm).2, fun hk => by
    apply Classical.byContradiction
    intro hn
    have h1 := h.nq x hx hn
    have h2 := h.ol x hx
    omega⟩
  refine ⟨hc.new, hc.old, hK, fun s t hs ht e c hcm => ?_, fun s t hs ht e => h.ou s t hs ht ((hc.eqv s t hs ht).1 e).1, fun s t hs ht e => ?_⟩
  · obtain ⟨e1, e2⟩ := (hc.eqv s t hs ht).1 e
    have hsame : prs m F cl q s = prs m F cl q t := by
      by_cases ha : prs m F cl q s = []
      · rw [ha]
        apply Classical.byContradiction
        intro hb
        obtain ⟨S, h1, h2⟩ := hA t ht (fun q => hb q.symm)
        exact (hL S h1 s ((e2 S h1).2 h2)).2.1 ha
      · obtain ⟨S, h1, h2⟩ := hA s hs ha
        have h3 := ((hL S h1 s h2).2.2 t ht).1 ((e2 S h1).1 h2)
        exact (keyL_inj h3.2).2.symm
    by_cases hin : F (s * m + c) ∈ q
    · have h1 : (c, cl (F (s * m + c))) ∈ prs m F cl q s := prs_mem.2 ⟨hcm, hin, rfl⟩
      rw [hsame] at h1
      exact (prs_mem.1 h1).2.2
    · have h2 : F (t * m + c) ∉ q := fun hm => by
        have h1 : (c, cl (F (t * m + c))) ∈ prs m F cl q t := prs_mem.2 ⟨hcm, hm, rfl⟩
        rw [← hsame] at h1
        exact hin (prs_mem.1 h1).2.1
      rw [h.nq _ (hF s c hs hcm) hin, h.nq _ (hF t c ht hcm) h2]
      exact h.st s t hs ht e1 c hcm
  · rw [hc.eqv s t hs ht]
    have e1 := h.wide s t hs ht e
    have hcl : ∀ c, c < m → cl (F (s * m + c)) = cl (F (t * m + c)) := fun c hcm => h.wide _ _ (hF s c hs hcm) (hF t c ht hcm) (e.step hcm)
    have hpr : prs m F cl q s = prs m F cl q t := by
      unfold prs
      have hfil : (List.range m).filter (fun c => decide (F (s * m + c) ∈ q)) = (List.range m).filter (fun c => decide (F (t * m + c) ∈ q)) := by
        apply List.filter_congr
        intro c hcm
        have hcm := List.mem_range.1 hcm
        have := hcl c hcm
        congr 1
        exact propext (by rw [hq _ (hF s c hs hcm), hq _ (hF t c ht hcm), this])
      rw [hfil]
      apply List.map_congr_left
      intro c hcm
      rw [hcl c (List.mem_range.1 (List.mem_filter.1 hcm).1)]
    have hkey : keyL m F cl q s = keyL m F cl q t := by unfold keyL; rw [e1, hpr]
    refine ⟨e1, fun S hS => ⟨fun hm => ?_, fun hm => ?_⟩⟩
    · obtain ⟨_, a, b⟩ := hL S hS s hm
      exact (b t ht).2 ⟨by rw [← hpr]; exact a, hkey.symm⟩
    · obtain ⟨_, a, b⟩ := hL S hS t hm
      exact (b s hs).2 ⟨by rw [hpr]; exact a, hkey⟩
end
end Go.Proofs.YtjemjccgfgijiaaDoor
namespace Go.Proofs.YtjemjccgfgijiaaDoor
/-- How many of the first cells lead to a state. -/
def cuF (F : Nat → Nat) : Nat → Nat → Nat
  | 0, _ => 0
  | c + 1, s => cuF F c s + (if F c = s then 1 else 0)
theorem cuF_mono (F : Nat → Nat) {c d : Nat} (h : c ≤ d) (s : Nat) : cuF F c s ≤ cuF F d s := by
  induction d with
  | zero => obtain rfl : c = 0 := by omega
            exact Nat.le_refl _
  | succ d ih =>
    by_cases e : c = d + 1
    · subst e; exact Nat.le_refl _
    · have := ih (by omega)
      rw [cuF]
      omega
theorem cuF_le (F : Nat → Nat) (s : Nat) : ∀ c, cuF F c s ≤ c
  | 0 => Nat.le_refl _
  | c + 1 => by
    have := cuF_le F s c
    rw [cuF]
    split <;> omega
theorem cuF_lt (F : Nat → Nat) {c N : Nat} (h : c < N) : cuF F c (F c) < cuF F N (F c) := by
  have h1 := cuF_mono F (show c + 1 ≤ N by omega) (F c)
  rw [cuF, if_pos rfl] at h1
  omega
/-- Of the states below one: how many of the first cells lead to them. -/
def preC (F : Nat → Nat) (c : Nat) : Nat → Nat
  | 0 => 0
  | k + 1 => preC F c k + cuF F c k
theorem preC_zero (F : Nat → Nat) : ∀ k, preC F 0 k = 0
  | 0 => rfl
  | k + 1 => by rw [preC, preC_zero F k]; rfl
theorem preC_succ (F : Nat → Nat) (c : Nat) : ∀ k, preC F (c + 1) k = preC F c k + (if F c < k then 1 else 0)
  | 0 => by simp [preC]
  | k + 1 => by
    rw [preC, preC, preC_succ F c k, cuF]
    by_cases e : F c = k
    · rw [if_pos e, if_neg (by omega), if_pos (by omega)]; omega
    · rw [if_neg e]
      by_cases e2 : F c < k
      · rw [if_pos e2, if_pos (by omega)]; omega
      · rw [if_neg e2, if_neg (by omega)]; omega
theorem preC_all {F : Nat → Nat} {n : Nat} : ∀ c, (∀ d, d < c → F d < n) → preC F c n = c
  | 0, _ => preC_zero F n
  | c + 1, h => by rw [preC_succ, preC_all c (fun d hd => h d (by omega)), if_pos (h c (by omega))]
theorem preC_mono (F : Nat → Nat) (c : Nat) {a b : Nat} (h : a ≤ b) : preC F c a ≤ preC F c b := by
  induction b with
  | zero => obtain rfl : a = 0 := by omega
            exact Nat.le_refl _
  | succ b ih =>
    by_cases e : a = b + 1
    · subst e; exact Nat.le_refl _
    · have := ih (by omega)
      rw [preC]
      omega
/-- Cells put to their states' places, the first so many. -/
structure Into (F : Nat → Nat) (n N c : Nat) (ce : Nat → Nat) : Prop where
  fw : ∀ s, s < n → ∀ j, j < cuF F c s → ce (preC F N s + j) < c ∧ F (ce (preC F N s + j)) = s
  bw : ∀ d, d < c → ∃ j, j < cuF F c (F d) ∧ ce (preC F N (F d) + j) = d
theorem into_zero (F : Nat → Nat) (n N : Nat) (ce : Nat → Nat) : Into F n N 0 ce := ⟨fun _s _ _j h => absurd h (Nat.not_lt_zero _), fun _d h => absurd h (Nat.not_lt_zero _)⟩
theorem Into.put {F : Nat → Nat} {n N c : Nat} {ce : Nat → Nat} (h : Into F n N c ce) (hc : c < N) (hF : ∀ d, d < N → F d < n) : Into F n N (c + 1) (putF ce (preC F N (F c) + cuF F c (F c)) c) := by
  have hsep : ∀ s j, s < n → j < cuF F c s → preC F N s + j ≠ preC F N (F c) + cuF F c (F c) := fun s j hs hj e => by
    have h1 := cuF_mono F (Nat.le_of_lt hc) s
    have h2 := cuF_lt F hc
    rcases Nat.lt_trichotomy s (F c) with hl | hl | hl
    · have := preC_mono F N (show s + 1 ≤ F c by omega)
      rw [preC] at this
      omega
    · subst hl; omega
    · have := preC_mono F N (show F c + 1 ≤ s by omega)
      rw [preC] at this
      omega
  refine ⟨fun s hs j hj => ?_, fun d hd => ?_⟩
  · rw [cuF] at hj
    unfold putF
    by_cases e : j < cuF F c s
    · rw [if_neg (hsep s j hs e)]
      have := h.fw s hs j e
      exact ⟨by omega, this.2⟩
    · have e2 : F c = s := by
        apply Classical.byContradiction
        intro hne
        rw [if_neg hne] at hj
        omega
      subst e2
      rw [if_pos rfl] at hj
      rw [if_pos (by omega)]
      exact ⟨by omega, rfl⟩
  · unfold putF
    by_cases e : d = c
    · subst e
      exact ⟨cuF F d (F d), by rw [cuF, if_pos rfl]; omega, by rw [if_pos rfl]⟩
    · obtain ⟨j, h1, h2⟩ := h.bw d (by omega)
      refine ⟨j, by rw [cuF]; omega, ?_⟩
      rw [if_neg (hsep _ j (hF d (by omega)) h1)]
      exact h2
theorem cnt_one (y : Nat) : ∀ (l : List Nat), l.Nodup → (l.map fun x => if y = x then 1 else 0).sum ≤ 1
  | [], _ => by simp
  | x :: l, h => by
    have h' := List.nodup_cons.1 h
    rw [List.map_cons, List.sum_cons]
    by_cases e : y = x
    · rw [if_pos e]
      have hz : (l.map fun x => if y = x then 1 else 0).sum = 0 := by
        have : ∀ (m : List Nat), y ∉ m → (m.map fun x => if y = x then 1 else 0).sum = 0 := by
          intro m
          induction m with
          | nil => intro _; rfl
          | cons z m ih =>
            intro hm
            rw [List.map_cons, List.sum_cons, if_neg (fun e => hm (by rw [e]; exact .head _)), ih (fun hh => hm (.tail _ hh))]
        exact this l (by rw [e]; exact h'.1)
      omega
    · rw [if_neg e]
      have := cnt_one y l h'.2
      omega
theorem map_sum_add (f g : Nat → Nat) : ∀ l : List Nat, (l.map fun x => f x + g x).sum = (l.map f).sum + (l.map g).sum
  | [] => rfl
  | x :: l => by rw [List.map_cons, List.sum_cons, map_sum_add f g l, List.map_cons, List.sum_cons, List.map_cons, List.sum_cons]; omega
theorem cnt_all (F : Nat → Nat) (l : List Nat) (h : l.Nodup) : ∀ N, (l.map (cuF F N)).sum ≤ N
  | 0 => by
    have : l.map (cuF F 0) = l.map fun _ => 0 := List.map_congr_left (fun x _ => rfl)
    rw [this]
    clear this h
    induction l with
    | nil => simp
    | cons x l ih => rw [List.map_cons, List.sum_cons]; omega
  | N + 1 => by
    have e : l.map (cuF F (N + 1)) = l.map fun x => cuF F N x + (if F N = x then 1 else 0) := List.map_congr_left (fun x _ => rfl)
    rw [e, map_sum_add (cuF F N) (fun x => if F N = x then 1 else 0)]
    have h1 := cnt_all F l h N
    have h2 := cnt_one (F N) l h
    omega
end Go.Proofs.YtjemjccgfgijiaaDoor
namespace Go.Proofs.YtjemjccgfgijiaaDoor
/-- The bytes of a number: seven bits each, the last alone below 128. -/
def encN (n : Nat) : List UInt8 := if n < 128 then [UInt8.ofNat n] else UInt8.ofNat (n % 128 + 128) :: encN (n / 128)
termination_by n
decreasing_by omega
theorem encN_small {n : Nat} (h : n < 128) : encN n = [UInt8.ofNat n] := by rw [encN, if_pos h]
theorem encN_big {n : Nat} (h : ¬ n < 128) : encN n = UInt8.ofNat (n % 128 + 128) :: encN (n / 128) := by rw [encN, if_neg h]
theorem u8_toN (x : Nat) (h : x < 256) : (UInt8.ofNat x).toNat = x := by rw [UInt8.toNat_ofNat']; omega
theorem u8_injN {x y : Nat} (hx : x < 256) (hy : y < 256) (h : UInt8.ofNat x = UInt8.ofNat y) : x = y := by rw [← u8_toN x hx, ← u8_toN y hy, h]
theorem encN_pre : ∀ (a b : Nat) (x y : List UInt8), encN a ++ x = encN b ++ y → a = b ∧ x = y := by
  intro a
  induction a using Nat.strongRecOn with
  | _ a ih =>
    intro b x y h
    by_cases ha : a < 128
    · rw [encN_small ha] at h
      by_cases hb : b < 128
      · rw [encN_small hb] at h
        simp only [List.cons_append, List.nil_append, List.cons.injEq] at h
        exact ⟨u8_injN (by omega) (by omega) h.1, h.2⟩
      · rw [encN_big hb] at h
        simp only [List.cons_append, List.nil_append, List.cons.injEq] at h
        have := u8_injN (by omega) (by omega) h.1
        omega
    · rw [encN_big ha] at h
      by_cases hb : b < 128
      · rw [encN_small hb] at h
        simp only [List.cons_append, List.nil_append, List.cons.injEq] at h
        have := u8_injN (by omega) (by omega) h.1
        omega
      · rw [encN_big hb] at h
        simp only [List.cons_append, List.cons.injEq] at h
        have h1 := u8_injN (by omega) (by omega) h.1
        obtain ⟨h2, h3⟩ := ih (a / 128) (by omega) (b / 128) x y h.2
        exact ⟨by omega, h3⟩
theorem encN_len : ∀ (k n : Nat), n < 128 ^ k → 1 ≤ k → (encN n).length ≤ k
  | 0, _, _, h => by omega
  | k + 1, n, hn, _ => by
    by_cases h : n < 128
    · rw [encN_small h]; simp
    · rw [encN_big h, List.length_cons]
      have h1 : n / 128 < 128 ^ k := by
        rw [Nat.div_lt_iff_lt_mul (by omega)]
        rw [Nat.pow_succ] at hn
        exact hn
      have hk : 1 ≤ k := by
        rcases Nat.eq_zero_or_pos k with rfl | h2
        · simp at h1; omega
        · exact h2
      have := encN_len k (n / 128) h1 hk
      omega
theorem encN_ten {n : Nat} (h : n < 9223372036854775808) : (encN n).length ≤ 10 := encN_len 10 n (by omega) (by omega)
theorem encN_ne (n : Nat) : encN n ≠ [] := by
  by_cases h : n < 128
  · rw [encN_small h]; simp
  · rw [encN_big h]; simp
/-- The bytes of numbers. -/
def encL (l : List Nat) : List UInt8 := l.flatMap encN
theorem encL_cons (n : Nat) (l : List Nat) : encL (n :: l) = encN n ++ encL l := by unfold encL; rw [List.flatMap_cons]
theorem encL_snoc (l : List Nat) (n : Nat) : encL (l ++ [n]) = encL l ++ encN n := by unfold encL; rw [List.flatMap_append]; simp
theorem encL_inj : ∀ (a b : List Nat), encL a = encL b → a = b
  | [], [], _ => rfl
  | [], y :: b, h => by
    rw [encL_cons] at h
    have : encN y ++ encL b = [] := h.symm
    rw [List.append_eq_nil_iff] at this
    exact absurd this.1 (encN_ne y)
  | x :: a, [], h => by
    rw [encL_cons] at h
    have h' : encN x ++ encL a = [] := h
    rw [List.append_eq_nil_iff] at h'
    exact absurd h'.1 (encN_ne x)
  | x :: a, y :: b, h => by
    rw [encL_cons, encL_cons] at h
    obtain ⟨h1, h2⟩ := encN_pre x y _ _ h
    rw [h1, encL_inj a b h2]
theorem encL_len (l : List Nat) (h : ∀ x ∈ l, x < 9223372036854775808) : (encL l).length ≤ l.length * 10 := by
  induction l with
  | nil => simp [encL]
  | cons x l ih =>
    rw [encL_cons, List.length_append, List.length_cons]
    have h1 := encN_ten (h x (.head _))
    have h2 := ih (fun y hy => h y (.tail _ hy))
    omega
/-- A state is put to the group of its text. -/
def gput (ks : List (List UInt8)) (Ls : List (List Nat)) (k : List UInt8) (s : Nat) : List (List UInt8) × List (List Nat) :=
  if k ∈ ks then (ks, Ls.set (ks.idxOf k) (Ls.getD (ks.idxOf k) [] ++ [s])) else (ks ++ [k], Ls ++ [[s]])
/-- What groups hold: of a row of texts and states. -/
structure GI (ks : List (List UInt8)) (Ls : List (List Nat)) (seq : List (List UInt8 × Nat)) : Prop where
  len : ks.length = Ls.length
  nd : ks.Nodup
  mem : ∀ i (hi : i < ks.length), ∀ s, s ∈ Ls.getD i [] ↔ (ks[i], s) ∈ seq
  all : ∀ x ∈ seq, x.1 ∈ ks
  ne : ∀ i, i < ks.length → Ls.getD i [] ≠ []
  up : ∀ i, i < ks.length → (Ls.getD i []).Nodup
theorem gi_nil : GI [] [] [] := ⟨rfl, List.nodup_nil, fun i h => absurd h (Nat.not_lt_zero _), fun x h => (by cases h), fun i h => absurd h (Nat.not_lt_zero _), fun i h => absurd h (Nat.not_lt_zero _)⟩
theorem GI.put {ks : List (List UInt8)} {Ls : List (List Nat)} {seq : List (List UInt8 × Nat)} (h : GI ks Ls seq) (k : List UInt8) (s : Nat) (hs : ∀ x ∈ seq, x.2 ≠ s) : GI (gput ks Ls k s).1 (gput ks Ls k s).2 (seq ++ [(k, s)]) := by
  unfold gput
  by_cases hk : k ∈ ks
  · rw [if_pos hk]
    have hi := List.idxOf_lt_length_iff.2 hk
    have hg : ∀ j, (Ls.set (ks.idxOf k) (Ls.getD (ks.idxOf k) [] ++ [s])).getD j [] = if j = ks.idxOf k then Ls.getD (ks.idxOf k) [] ++ [s] else Ls.getD j [] := fun j => by
      rw [List.getD_eq_getElem?_getD]
      by_cases e : j = ks.idxOf k
      · rw [if_pos e, e, List.getElem?_set_self (by rw [← h.len]; exact hi)]; rfl
      · rw [if_neg e, List.getElem?_set_ne (fun q => e q.symm), List.getD_eq_getElem?_getD]
    have hki : ks[ks.idxOf k] = k := List.getElem_idxOf hi
    refine ⟨by rw [List.length_set]; exact h.len, h.nd, fun i hi' t => ?_, fun x hx => ?_, fun i hi' => ?_, fun i hi' => ?_⟩
    · rw [hg, List.mem_append, List.mem_singleton]
      by_cases e : i = ks.idxOf k
      · subst e
        rw [if_pos rfl, List.mem_append, List.mem_singleton, h.mem _ hi, hki]
        simp
      · rw [if_neg e, h.mem i hi']
        constructor
        · exact .inl
        · rintro (hx | hx)
          · exact hx
          · exfalso
            injection hx with hx _
            apply e
            have := List.pairwise_iff_getElem.1 (List.nodup_iff_pairwise_ne.1 h.nd)
            rcases Nat.lt_trichotomy i (ks.idxOf k) with hl | hl | hl
            · exact absurd (hx.trans hki.symm) (this i _ hi' hi hl)
            · exact hl
            · exact absurd (hki.trans hx.symm) (this _ i hi hi' hl)
    · rcases List.mem_append.1 hx with hx | hx
      · exact h.all x hx
      · rw [List.mem_singleton.1 hx]; exact hk
    · rw [hg]
      split
      · simp
      · exact h.ne i hi'
    · rw [hg]
      split
      · rw [List.nodup_append]
        refine ⟨h.up _ hi, by simp, fun a ha b hb => ?_⟩
        rw [List.mem_singleton.1 hb]
        have := (h.mem _ hi a).1 ha
        exact hs _ this
      · exact h.up i hi'
  · rw [if_neg hk]
    have hg : ∀ j, j < ks.length + 1 → (Ls ++ [[s]]).getD j [] = if j = ks.length then [s] else Ls.getD j [] := fun j hj => by
      rw [List.getD_eq_getElem?_getD]
      by_cases e : j = ks.length
      · rw [if_pos e, e, h.len, List.getElem?_append_right (Nat.le_refl _)]; simp
      · rw [if_neg e, List.getElem?_append_left (by rw [← h.len]; omega), List.getD_eq_getElem?_getD]
    refine ⟨by simp [h.len], ?_, fun i hi' t => ?_, fun x hx => ?_, fun i hi' => ?_, fun i hi' => ?_⟩
    · rw [List.nodup_append]
      exact ⟨h.nd, by simp, fun a ha b hb e => hk (by rw [← List.mem_singleton.1 hb, ← e]; exact ha)⟩
    · rw [List.length_append, List.length_singleton] at hi'
      rw [hg i hi', List.mem_append, List.mem_singleton]
      by_cases e : i = ks.length
      · subst e
        rw [if_pos rfl, List.getElem_append_right (Nat.le_refl _)]
        simp only [Nat.sub_self, List.getElem_cons_zero, List.mem_singleton]
        constructor
        · rintro rfl; exact .inr rfl
        · rintro (hx | hx)
          · exact absurd (h.all _ hx) hk
          · injection hx
      · rw [if_neg e, List.getElem_append_left (by omega), h.mem i (by omega)]
        constructor
        · exact .inl
        · rintro (hx | hx)
          · exact hx
          · exfalso
            injection hx with hx _
            exact hk (by rw [← hx]; exact List.getElem_mem _)
    · rcases List.mem_append.1 hx with hx | hx
      · exact List.mem_append_left _ (h.all x hx)
      · rw [List.mem_singleton.1 hx]; simp
    · rw [List.length_append, List.length_singleton] at hi'
      rw [hg i hi']
      split
      · simp
      · exact h.ne i (by omega)
    · rw [List.length_append, List.length_singleton] at hi'
      rw [hg i hi']
      split
      · simp
      · exact h.up i (by omega)
theorem gput_len (ks : List (List UInt8)) (Ls : List (List Nat)) (k : List UInt8) (s : Nat) : (gput ks Ls k s).1.length ≤ ks.length + 1 := by
  unfold gput
  split
  · exact Nat.le_succ _
  · simp
/-- No two groups have a state in common. -/
theorem GI.apart {ks : List (List UInt8)} {Ls : List (List Nat)} {seq : List (List UInt8 × Nat)} (h : GI ks Ls seq) (hd : ∀ x ∈ seq, ∀ y ∈ seq, x.2 = y.2 → x.1 = y.1) : ∀ i j (hi : i < Ls.length) (hj : j < Ls.length), i ≠ j → ∀ x ∈ Ls[i], x ∉ Ls[j] := by
  intro i j hi hj hij x hx hy
  have hgi : Ls.getD i [] = Ls[i] := by rw [List.getD_eq_getElem?_getD, List.getElem?_eq_getElem hi]; rfl
  have hgj : Ls.getD j [] = Ls[j] := by rw [List.getD_eq_getElem?_getD, List.getElem?_eq_getElem hj]; rfl
  have h1 := (h.mem i (by rw [h.len]; exact hi) x).1 (by rw [hgi]; exact hx)
  have h2 := (h.mem j (by rw [h.len]; exact hj) x).1 (by rw [hgj]; exact hy)
  have h3 := hd _ h1 _ h2 rfl
  simp only at h3
  have := List.pairwise_iff_getElem.1 (List.nodup_iff_pairwise_ne.1 h.nd)
  rcases Nat.lt_trichotomy i j with hl | hl | hl
  · exact this i j _ _ hl h3
  · exact hij hl
  · exact this j i _ _ hl h3.symm
end Go.Proofs.YtjemjccgfgijiaaDoor
namespace Go.Proofs.YtjemjccgfgijiaaDoor
open Go.RowKit
theorem hid1 {p : Prop} (h : p) : Hid p := h
/-- The eleven refusals: each variable's cell, each its own object. -/
structure Sents (w : World) (A : Nat → Addr) : Prop where
  c0 : w.cell? ⟨0, 0, none⟩ = some (.iface 135 (.pointer (some (A 0))))
  c1 : w.cell? ⟨1, 0, none⟩ = some (.iface 135 (.pointer (some (A 1))))
  c2 : w.cell? ⟨2, 0, none⟩ = some (.iface 135 (.pointer (some (A 2))))
  c3 : w.cell? ⟨3, 0, none⟩ = some (.iface 135 (.pointer (some (A 3))))
  c4 : w.cell? ⟨4, 0, none⟩ = some (.iface 135 (.pointer (some (A 4))))
  c5 : w.cell? ⟨6, 0, none⟩ = some (.iface 135 (.pointer (some (A 5))))
  c6 : w.cell? ⟨5, 0, none⟩ = some (.iface 135 (.pointer (some (A 6))))
  c7 : w.cell? ⟨7, 0, none⟩ = some (.iface 135 (.pointer (some (A 7))))
  c8 : w.cell? ⟨8, 0, none⟩ = some (.iface 135 (.pointer (some (A 8))))
  c9 : w.cell? ⟨9, 0, none⟩ = some (.iface 135 (.pointer (some (A 9))))
  c10 : w.cell? ⟨10, 0, none⟩ = some (.iface 135 (.pointer (some (A 10))))
  ne : ∀ i j, i < 11 → j < 11 → i ≠ j → A i ≠ A j
  blk : ∀ i, i < 11 → ∃ c t, w.heap[(A i).block]? = some (.cells c t (0, 0))
theorem compErr : (Tryd.prog.info? 135).map (·.comparable) = some true := by kernel_rfl
theorem sizeErr : (Tryd.prog.info? 151).map (·.size) = some 1 := by kernel_rfl
theorem Sents.eql {w : World} {A : Nat → Addr} (h : Sents w A) (i j : Nat) (hi : i < 11) (hj : j < 11) :
    (binOp .eql 31 (.iface 135 (.pointer (some (A i)))) (.iface 135 (.pointer (some (A j))))).run Tryd.prog w = .ok (.bool (decide (i = j))) w := by
  obtain ⟨ti, h1, h2⟩ := Option.map_eq_some_iff.1 compErr
  obtain ⟨tj, h3, h4⟩ := Option.map_eq_some_iff.1 sizeErr
  by_cases e : i = j
  · subst e
    rw [run_eql_iface_ptr_same w (A i) Tryd.underlying31 Tryd.underlying135 h1 h2 h3]
    simp
  · obtain ⟨ca, ta, ha⟩ := h.blk i hi
    obtain ⟨cb, tb, hb⟩ := h.blk j hj
    rw [run_eql_iface_ptr_other w Tryd.underlying31 Tryd.underlying135 h1 h2 h3 (by rw [h4]; decide) (h.ne i j hi hj e) ha hb]
    simp [e]
theorem Sents.below {w w' : World} {A : Nat → Addr} (h : Sents w A) (hb : Below w.heap.size w w') : Sents w' A where
  c0 := (hb.cell (p := ⟨0, 0, none⟩) (World.block_lt_of_cell? w _ h.c0)).trans h.c0
  c1 := (hb.cell (p := ⟨1, 0, none⟩) (World.block_lt_of_cell? w _ h.c1)).trans h.c1
  c2 := (hb.cell (p := ⟨2, 0, none⟩) (World.block_lt_of_cell? w _ h.c2)).trans h.c2
  c3 := (hb.cell (p := ⟨3, 0, none⟩) (World.block_lt_of_cell? w _ h.c3)).trans h.c3
  c4 := (hb.cell (p := ⟨4, 0, none⟩) (World.block_lt_of_cell? w _ h.c4)).trans h.c4
  c5 := (hb.cell (p := ⟨6, 0, none⟩) (World.block_lt_of_cell? w _ h.c5)).trans h.c5
  c6 := (hb.cell (p := ⟨5, 0, none⟩) (World.block_lt_of_cell? w _ h.c6)).trans h.c6
  c7 := (hb.cell (p := ⟨7, 0, none⟩) (World.block_lt_of_cell? w _ h.c7)).trans h.c7
  c8 := (hb.cell (p := ⟨8, 0, none⟩) (World.block_lt_of_cell? w _ h.c8)).trans h.c8
  c9 := (hb.cell (p := ⟨9, 0, none⟩) (World.block_lt_of_cell? w _ h.c9)).trans h.c9
  c10 := (hb.cell (p := ⟨10, 0, none⟩) (World.block_lt_of_cell? w _ h.c10)).trans h.c10
  ne := h.ne
  blk := fun i hi => by
    obtain ⟨c, t, hc⟩ := h.blk i hi
    exact ⟨c, t, (hb.block _ (Array.getElem?_eq_some_iff.1 hc).1).trans hc⟩
/-- The number of the refusal at a place of the list. -/
def refNo (i : Nat) : Int := [1, 2, 3, 4, 5, 7, 6, 8, 9, 10, 11].getD i 0
set_option maxRecDepth 10000 in
set_option maxHeartbeats 1600000 in
theorem kitNum_at (w : World) (A : Nat → Addr) (h : Sents w A) (i : Nat) (hi : i < 11) :
    Calls Tryd.prog 11 #[.iface 135 (.pointer (some (A i)))] w fun e w' => e = .returned (.int .i64 (refNo i)) ∧ w' = w := by
  have d0 := h.c0
  have d1 := h.c1
  have d2 := h.c2
  have d3 := h.c3
  have d4 := h.c4
  have d5 := h.c5
  have d6 := h.c6
  have d7 := h.c7
  have d8 := h.c8
  have d9 := h.c9
  have d10 := h.c10
  have hq := fun j => h.eql i j hi
  clear h
  have h11 : i = 0 ∨ i = 1 ∨ i = 2 ∨ i = 3 ∨ i = 4 ∨ i = 5 ∨ i = 6 ∨ i = 7 ∨ i = 8 ∨ i = 9 ∨ i = 10 := by omega
  clear hi
  have q0 := hq 0 (by omega)
  have q1 := hq 1 (by omega)
  have q2 := hq 2 (by omega)
  have q3 := hq 3 (by omega)
  have q4 := hq 4 (by omega)
  have q5 := hq 5 (by omega)
  have q6 := hq 6 (by omega)
  have q7 := hq 7 (by omega)
  have q8 := hq 8 (by omega)
  have q9 := hq 9 (by omega)
  have q10 := hq 10 (by omega)
  clear hq
  rcases h11 with rfl | rfl | rfl | rfl | rfl | rfl | rfl | rfl | rfl | rfl | rfl
  all_goals
    go_enter Tryd.func11, Tryd.ntmps11
    go_wp2
    go_ret
    exact ⟨rfl, rfl⟩
set_option maxRecDepth 10000 in
theorem kitNum_nil (w : World) : Calls Tryd.prog 11 #[.nilIface] w fun e w' => e = .returned (.int .i64 0) ∧ w' = w := by
  go_enter Tryd.func11, Tryd.ntmps11
  go_wp2
  go_ret
  exact ⟨rfl, rfl⟩
end Go.Proofs.YtjemjccgfgijiaaDoor
