/-
  MkKW, MkNW, MlM, MlNM, MlAW, MlBW, MlCW, MlDW, MlEM, MlEW.
-/
import Derived.Test.YtjmmckkiicefhaaDoorMgg
import Derived.Test.YtjmmckkiicefhaaDoorMgd
import Derived.Test.YtjmmckkiicefhaaDoorMga
namespace Go.Proofs.YtjmmckkiicefhaaDoor
open Go.RowKit Go.Shelf
theorem own_snoc {w wr w1 : World} {base n size : Nat} {e : TypeId} {v : Value} {xs : List Value} {o : Obj} (hown : wr.ownsRow base e size v n xs) (hgrow : (wr.alloc o).grownBy w1 v.ownBlock) (hbel : Below base w wr) (hb : base ≤ w.heap.size) : Below base w w1 :=
  (hbel.alloc (by have := hbel.size; omega) o).grown hgrow (by have := hbel.size; simp; omega) (fun k hk => (World.ownsRow.lt hown k hk).1)
theorem own_keep {wr w1 : World} {lo lo2 n n2 size size2 : Nat} {e e2 : TypeId} {v u : Value} {xs ys : List Value} {o : Obj} (hu : wr.ownsRow lo2 e2 size2 u n2 ys) (hv : wr.ownsRow lo e size v n xs) (hne : e ≠ e2) (hgrow : (wr.alloc o).grownBy w1 v.ownBlock) : w1.ownsRow lo2 e2 size2 u n2 ys := by
  refine World.ownsRow.kept (World.ownsRow.alloc hu o) hgrow ?_
  cases h1 : u.ownBlock with
  | none => exact .inl rfl
  | some g =>
    refine .inr fun hc => ?_
    obtain ⟨c1, k1⟩ := own_ty hu h1
    obtain ⟨c2, k2⟩ := own_ty hv hc.symm
    rw [k1] at k2
    injection k2 with k2
    injection k2 with _ k3
    exact hne k3.symm
theorem own_sl {w : World} {base n size : Nat} {e : TypeId} {v : Value} {xs : List Value} (h : w.ownsRow base e size v n xs) : ∃ a c, v = .slice a n c := by
  rcases h.2 with ⟨rfl, hn⟩ | ⟨g, cap, cur, rfl, _⟩
  · exact ⟨none, 0, by rw [hn]⟩
  · exact ⟨_, cap, rfl⟩
end Go.Proofs.YtjmmckkiicefhaaDoor
namespace Go.Proofs.YtjmmckkiicefhaaDoor
open Go.RowKit Go.Shelf
/-- Where the first k states lie. -/
structure AtI (Q : List Nat) (k : Nat) (AT : List Nat) : Prop where
  len : AT.length = Q.length
  at' : ∀ j, j < k → AT.getD (Q.getD j 0) 0 = j
theorem AtI.zero (Q : List Nat) : AtI Q 0 (List.replicate Q.length 0) := ⟨by simp, fun j hj => absurd hj (Nat.not_lt_zero _)⟩
theorem AtI.step {n : Nat} {Q : List Nat} {k : Nat} {AT : List Nat} (h : AtI Q k AT) (hp : Prm n Q) (hk : k < Q.length) : AtI Q (k + 1) (AT.set (Q.getD k 0) k) := by
  refine ⟨by rw [List.length_set]; exact h.len, fun j hj => ?_⟩
  have hl := hp.len
  have hkl := (hp.get hk).1
  rw [List.getD_eq_getElem?_getD, List.getElem?_set]
  by_cases e : j = k
  · subst e
    rw [if_pos rfl, if_pos (by rw [h.len]; omega)]
    rfl
  · rw [if_neg, ← List.getD_eq_getElem?_getD]
    · exact h.at' j (by omega)
    · intro e2
      have h1 := (hp.get (i := j) (by omega)).2
      have h2 := (hp.get hk).2
      rw [← e2] at h1
      omega
theorem AtI.done {n : Nat} {Q : List Nat} {AT : List Nat} (h : AtI Q Q.length AT) (hp : Prm n Q) {y : Nat} (hy : y < n) : AT.getD y 0 = Q.idxOf y := by
  obtain ⟨h1, h2⟩ := hp.at hy
  have h3 := h.at' _ h1
  rw [h2] at h3
  exact h3
theorem natI_at (q : List Nat) (i : Nat) (h : i < q.length) : (natI q)[i]'(by rw [natI_len]; exact h) = ((q.getD i 0 : Nat) : Int) := by
  unfold natI
  rw [List.getElem_map, List.getD_eq_getElem?_getD, List.getElem?_eq_getElem h]
  rfl
theorem natI_set (q : List Nat) (i v : Nat) : natI (q.set i v) = (natI q).set i (v : Int) := by
  unfold natI
  rw [List.map_set]
theorem natI_rep (k : Nat) : natI (List.replicate k 0) = List.replicate k 0 := by
  unfold natI
  rw [List.map_replicate]
  rfl
/-- A row's first c numbers. -/
def dbR (N : List (List Int)) (Q : List Nat) (i c : Nat) : List Nat := (List.range c).map (dbC N Q i)
theorem dbR_succ (N : List (List Int)) (Q : List Nat) (i c : Nat) : dbR N Q i (c + 1) = dbR N Q i c ++ [dbC N Q i c] := by
  unfold dbR
  rw [List.range_succ, List.map_append]
  rfl
theorem dbN_take {N : List (List Int)} {Q : List Nat} {m k : Nat} (h : k < 2 * Q.length) : (dbN N Q m).take (k + 1) = (dbN N Q m).take k ++ [natI (dbR N Q k m)] := by
  have hl := (dbl_len N [] Q m).1
  rw [List.take_succ_eq_append_getElem (by omega)]
  congr 2
  unfold dbN
  rw [List.getElem_map, List.getElem_range]
  unfold natI dbR
  rw [List.map_map]
  rfl
theorem dbO_take {O : List (List Int)} {Q : List Nat} {k : Nat} (h : k < 2 * Q.length) : (dbO O Q).take (k + 1) = (dbO O Q).take k ++ [outF O (dbF Q k)] := by
  have hl := (dbl_len [] O Q 0).2
  rw [List.take_succ_eq_append_getElem (by omega)]
  congr 2
  unfold dbO
  rw [List.getElem_map, List.getElem_range]
theorem tmod_nat (a b : Nat) : (a : Int).tmod (b : Int) = ((a % b : Nat) : Int) := by
  rw [Int.tmod_eq_emod_of_nonneg (by omega)]
  rfl
end Go.Proofs.YtjmmckkiicefhaaDoor
namespace Go.Proofs.YtjmmckkiicefhaaDoor
/-- Two states are alike, by the classes so far. -/
def alk (m : Nat) (F : Nat → Nat) (out : Nat → List Int) (cl : Nat → Nat) (a b : Nat) : Prop := out a = out b ∧ cl a = cl b ∧ ∀ c, c < m → cl (F (a * m + c)) = cl (F (b * m + c))
theorem alk.symm {m : Nat} {F : Nat → Nat} {out : Nat → List Int} {cl : Nat → Nat} {a b : Nat} (h : alk m F out cl a b) : alk m F out cl b a := ⟨h.1.symm, h.2.1.symm, fun c hc => (h.2.2 c hc).symm⟩
theorem alk.trans {m : Nat} {F : Nat → Nat} {out : Nat → List Int} {cl : Nat → Nat} {a b d : Nat} (h : alk m F out cl a b) (k : alk m F out cl b d) : alk m F out cl a d := ⟨h.1.trans k.1, h.2.1.trans k.2.1, fun c hc => (h.2.2 c hc).trans (k.2.2 c hc)⟩
theorem alk.self (m : Nat) (F : Nat → Nat) (out : Nat → List Int) (cl : Nat → Nat) (a : Nat) : alk m F out cl a a := ⟨rfl, rfl, fun _ _ => rfl⟩
/-- New classes: of each state the first one that is alike. -/
structure Par (n m : Nat) (F : Nat → Nat) (out : Nat → List Int) (cl cl' : Nat → Nat) : Prop where
  le : ∀ i, i < n → cl' i ≤ i
  is : ∀ i, i < n → alk m F out cl (cl' i) i
  first : ∀ i, i < n → ∀ k, k < cl' i → ¬ alk m F out cl k i
section
variable {n m : Nat} {F : Nat → Nat} {out : Nat → List Int} {cl cl' cl2 : Nat → Nat}
theorem Par.eq (h : Par n m F out cl cl') {i j : Nat} (hi : i < n) (hj : j < n) : cl' i = cl' j ↔ alk m F out cl i j := by
  constructor
  · intro e
    have h1 := h.is i hi
    rw [e] at h1
    exact h1.symm.trans (h.is j hj)
  · intro ha
    rcases Nat.lt_trichotomy (cl' i) (cl' j) with hl | he | hl
    · exact absurd ((h.is i hi).trans ha) (h.first j hj _ hl)
    · exact he
    · exact absurd ((h.is j hj).trans ha.symm) (h.first i hi _ hl)
theorem Par.idem (h : Par n m F out cl cl') {i : Nat} (hi : i < n) : cl' (cl' i) = cl' i := (h.eq (by have := h.le i hi; omega) hi).2 (h.is i hi)
/-- The classes by rounds. -/
structure Rnd (n m : Nat) (F : Nat → Nat) (out : Nat → List Int) (cs : Nat → Nat → Nat) (r : Nat) : Prop where
  zero : ∀ i, cs 0 i = 0
  step : ∀ q, q < r → Par n m F out (cs q) (cs (q + 1))
theorem Rnd.le {cs : Nat → Nat → Nat} {r : Nat} (h : Rnd n m F out cs r) {q : Nat} (hq : q ≤ r) {i : Nat} (hi : i < n) : cs q i ≤ i := by
  cases q with
  | zero => rw [h.zero]; exact Nat.zero_le _
  | succ q => exact (h.step q (by omega)).le i hi
def repN (n : Nat) (c : Nat → Nat) : Nat := (List.range n).countP (fun i => c i == i)
theorem countP_le' {p q : Nat → Bool} : ∀ (l : List Nat), (∀ x ∈ l, p x = true → q x = true) → l.countP p ≤ l.countP q ∧ (l.countP p = l.countP q → ∀ x ∈ l, q x = true → p x = true)
  | [], _ => ⟨Nat.le_refl _, fun _ x hx => by cases hx⟩
  | y :: l, h => by
    obtain ⟨h1, h2⟩ := countP_le' l (fun x hx => h x (List.mem_cons_of_mem _ hx))
    rw [List.countP_cons, List.countP_cons]
    have h3 := h y List.mem_cons_self
    cases hp : p y with
    | true =>
      rw [h3 hp]
      refine ⟨by simp; omega, fun e x hx hqx => ?_⟩
      rcases List.mem_cons.1 hx with rfl | hx
      · exact hp
      · exact h2 (by simp at e; omega) x hx hqx
    | false =>
      cases hq : q y with
      | true => exact ⟨by simp; omega, fun e => by simp at e; omega⟩
      | false =>
        refine ⟨by simp; omega, fun e x hx hqx => ?_⟩
        rcases List.mem_cons.1 hx with rfl | hx
        · rw [hq] at hqx; cases hqx
        · exact h2 (by simp at e; omega) x hx hqx
theorem Rnd.rep {cs : Nat → Nat → Nat} {r : Nat} (h : Rnd n m F out cs r) {q : Nat} (hq : q < r) {i : Nat} (hi : i < n) (he : cs q i = i) : cs (q + 1) i = i := by
  have h1 := (h.step q hq).is i hi
  have h2 := (h.step q hq).le i hi
  have h3 : cs q (cs (q + 1) i) = cs q i := h1.2.1
  have h4 := h.le (q := q) (by omega) (i := cs (q + 1) i) (by omega)
  omega
/-- The classes part no more. -/
def Stb (n : Nat) (c d : Nat → Nat) : Prop := ∀ i j, i < n → j < n → (c i = c j ↔ d i = d j)
theorem Rnd.grow {cs : Nat → Nat → Nat} {r : Nat} (h : Rnd n m F out cs r) {q : Nat} (hq : q < r) : repN n (cs q) < repN n (cs (q + 1)) ∨ Stb n (cs q) (cs (q + 1)) := by
  obtain ⟨h1, h2⟩ := countP_le' (p := fun i => cs q i == i) (q := fun i => cs (q + 1) i == i) (List.range n) (fun x hx hp => by
    have hx' := List.mem_range.1 hx
    simp only [beq_iff_eq] at hp ⊢
    exact h.rep hq hx' hp)
  by_cases e : repN n (cs q) = repN n (cs (q + 1))
  · refine .inr (fun i j hi hj => ?_)
    have key : ∀ i, i < n → cs (q + 1) i = cs q i := fun i hi => by
      have hp := h.step q hq
      have h3 := hp.le i hi
      have h4 := h2 e (cs (q + 1) i) (List.mem_range.2 (by omega)) (by simp only [beq_iff_eq]; exact hp.idem hi)
      simp only [beq_iff_eq] at h4
      rw [← (hp.is i hi).2.1, h4]
    rw [key i hi, key j hj]
  · exact .inl (by unfold repN at e ⊢; omega)
theorem Rnd.stay {cs : Nat → Nat → Nat} {r : Nat} (h : Rnd n m F out cs r) (hF : ∀ i c, i < n → c < m → F (i * m + c) < n) {q : Nat} (hq : q + 1 < r) (hs : Stb n (cs q) (cs (q + 1))) : Stb n (cs (q + 1)) (cs (q + 2)) := fun i j hi hj => by
  rw [(h.step (q + 1) hq).eq hi hj, (h.step q (by omega)).eq hi hj]
  constructor
  · rintro ⟨h1, h2, h3⟩
    exact ⟨h1, (hs i j hi hj).1 h2, fun c hc => (hs _ _ (hF i c hi hc) (hF j c hj hc)).1 (h3 c hc)⟩
  · rintro ⟨h1, h2, h3⟩
    exact ⟨h1, (hs i j hi hj).2 h2, fun c hc => (hs _ _ (hF i c hi hc) (hF j c hj hc)).2 (h3 c hc)⟩
theorem Rnd.stable {cs : Nat → Nat → Nat} (h : Rnd n m F out cs (n + 1)) (hn : 0 < n) (hF : ∀ i c, i < n → c < m → F (i * m + c) < n) : Stb n (cs n) (cs (n + 1)) := by
  have key : ∀ q, q ≤ n → Stb n (cs q) (cs (q + 1)) ∨ q + 2 ≤ repN n (cs (q + 1)) := by
    intro q
    induction q with
    | zero =>
      intro _
      rcases h.grow (q := 0) (by omega) with h1 | h1
      · right
        have : 1 ≤ repN n (cs 0) := by
          unfold repN
          exact List.countP_pos_iff.2 ⟨0, List.mem_range.2 hn, by simp [h.zero]⟩
        omega
      · exact .inl h1
    | succ q ih =>
      intro hq
      rcases ih (by omega) with h1 | h1
      · exact .inl (h.stay hF (by omega) h1)
      · rcases h.grow (q := q + 1) (by omega) with h2 | h2
        · right; omega
        · exact .inl h2
  rcases key n (Nat.le_refl _) with h1 | h1
  · exact h1
  · exfalso
    have : repN n (cs (n + 1)) ≤ n := by
      unfold repN
      exact Nat.le_trans List.countP_le_length (by simp)
    omega
/-- As fine as they must be. -/
theorem Rnd.cls {cs : Nat → Nat → Nat} (h : Rnd n m F out cs (n + 1)) (hn : 0 < n) (hF : ∀ i c, i < n → c < m → F (i * m + c) < n) : Cls m n F out (cs (n + 1)) := by
  have hst := h.stable hn hF
  have hp := h.step n (by omega)
  refine ⟨fun s t hs ht e => ((hp.eq hs ht).1 e).1, fun s t hs ht e c hc => (hst _ _ (hF s c hs hc) (hF t c ht hc)).1 (((hp.eq hs ht).1 e).2.2 c hc), fun s t hs ht hl => ?_⟩
  have key : ∀ q, q ≤ n + 1 → ∀ s t, s < n → t < n → SameL m (fun x c => F (x * m + c)) (fun x c => F (x * m + c)) out out s t → cs q s = cs q t := by
    intro q
    induction q with
    | zero => intro _ s t _ _ _; rw [h.zero, h.zero]
    | succ q ih =>
      intro hq s t hs ht hl
      exact ((h.step q (by omega)).eq hs ht).2 ⟨hl.nil, ih (by omega) s t hs ht hl, fun c hc => ih (by omega) _ _ (hF s c hs hc) (hF t c ht hc) (hl.step hc)⟩
  exact key (n + 1) (Nat.le_refl _) s t hs ht hl
end
/-- A machine renamed. -/
def rnN (n m : Nat) (F : Nat → Nat) : List (List Int) := (List.range n).map fun i => (List.range m).map fun c => ((F (i * m + c) : Nat) : Int)
def rnO (n : Nat) (O : List (List Int)) (g : Nat → Nat) : List (List Int) := (List.range n).map fun i => outF O (g i)
theorem rnN_at {n m : Nat} {F : Nat → Nat} {i c : Nat} (hi : i < n) (hc : c < m) : nxF (rnN n m F) i c = F (i * m + c) := by
  have e : (rnN n m F).getD i [] = (List.range m).map fun c => ((F (i * m + c) : Nat) : Int) := by
    rw [rnN, List.getD_eq_getElem?_getD, List.getElem?_map, List.getElem?_range hi]
    rfl
  rw [nxF, e, List.getD_eq_getElem?_getD, List.getElem?_map, List.getElem?_range hc]
  simp
theorem rnO_at {n : Nat} {O : List (List Int)} {g : Nat → Nat} {i : Nat} (hi : i < n) : outF (rnO n O g) i = outF O (g i) := by
  rw [outF, rnO, List.getD_eq_getElem?_getD, List.getElem?_map, List.getElem?_range hi]
  rfl
theorem rn_len (n m : Nat) (F : Nat → Nat) (O : List (List Int)) (g : Nat → Nat) : (rnN n m F).length = n ∧ (rnO n O g).length = n := by
  unfold rnN rnO
  simp
section
variable {m st n : Nat} {N O : List (List Int)} {g F : Nat → Nat}
theorem Whl.may (h : Whl m st N n g F) (hmay : mayF (st : Int) N O (m : Int) = true) : mayF 0 (rnN n m F) (rnO n O g) (m : Int) = true := by
  obtain ⟨n', hn', hm⟩ := mayF_may hmay
  obtain rfl : m = n' := by omega
  obtain ⟨l1, l2⟩ := rn_len n m F O g
  have hp := h.pos
  refine mayF_of (by omega) (by omega) ?_ ?_ ?_
  · intro r hr
    obtain ⟨i, hi, rfl⟩ := List.mem_map.1 hr
    simp
  · intro r hr z hz
    obtain ⟨i, hi, rfl⟩ := List.mem_map.1 hr
    obtain ⟨c, hc, rfl⟩ := List.mem_map.1 hz
    have := h.fl i c (List.mem_range.1 hi) (List.mem_range.1 hc)
    rw [l1]
    omega
  · intro r hr
    obtain ⟨i, hi, rfl⟩ := List.mem_map.1 hr
    have hlt := h.gl i (List.mem_range.1 hi)
    have hlo : g i < O.length := by have := hm.out; omega
    have e : outF O (g i) = O[g i] := by rw [outF, List.getD_eq_getElem?_getD, List.getElem?_eq_getElem hlo]; rfl
    rw [e]
    exact upF_rise hmay _ (List.getElem_mem hlo)
/-- A state of the renamed machine says what the state says whose new name it is. -/
theorem Whl.same (h : Whl m st N n g F) {i : Nat} (hi : i < n) : SameL m (nxF (rnN n m F)) (nxF N) (outF (rnO n O g)) (outF O) i (g i) := fun u hu => by
  have hin : ∀ x c, x < n → c < m → nxF (rnN n m F) x c < n := fun x c hx hc => by rw [rnN_at hx hc]; exact h.fl x c hx hc
  have hh := runW_hom (φ := g) hin (fun x c hx hc => by rw [rnN_at hx hc]; exact (h.fs x c hx hc).symm) u i hi hu
  rw [rnO_at (runW_in hin u i hi hu), hh]
theorem Whl.bfsR (h : Whl m st N n g F) : Bfs (clF (rnN n m F) m) (rnN n m F).length m := by
  have hl := (rn_len n m F [] g).1
  rw [hl]
  have key : ∀ j, j < n * m → clF (rnN n m F) m j = F j := fun j hj => by
    have hm0 : 0 < m := by
      rcases Nat.eq_zero_or_pos m with e | e
      · rw [e, Nat.mul_zero] at hj; omega
      · exact e
    have h1 : j / m < n := (Nat.div_lt_iff_lt_mul hm0).2 hj
    unfold clF
    rw [rnN_at h1 (Nat.mod_lt _ hm0), Nat.mul_comm, Nat.div_add_mod]
  refine ⟨fun i hi => ?_, fun q hq => ?_⟩
  · rw [key i hi, top_congr (fun j hj => key j (by omega))]
    exact h.bfs.up i hi
  · have hle : q * m ≤ n * m := Nat.mul_le_mul_right m (by omega)
    rw [top_congr (fun j hj => key j (by omega))]
    exact h.bfs.row q hq
end
end Go.Proofs.YtjmmckkiicefhaaDoor
namespace Go.Proofs.YtjmmckkiicefhaaDoor
section
variable {m st n : Nat} {N O : List (List Int)} {g F cl : Nat → Nat}
/-- The rows in which each state stands for its class. -/
def jnN (n m : Nat) (F cl : Nat → Nat) : List (List Int) := rnN n m (fun i => cl (F i))
theorem runW_id {n m : Nat} {f h : Nat → Nat → Nat} (hf : ∀ s c, s < n → c < m → f s c < n) (e : ∀ s c, s < n → c < m → h s c = f s c) (u : List Nat) (s : Nat) (hs : s < n) (hu : okW m u) : runW h s u = runW f s u := runW_hom (φ := fun x => x) hf e u s hs hu
theorem Whl.outs (_h : Whl m st N n g F) {i : Nat} (hi : i < n) : outF (rnO n O g) i = outF O (g i) := rnO_at hi
/-- Joined it says the same. -/
theorem join_same {out : Nat → List Int} (hF : ∀ i c, i < n → c < m → F (i * m + c) < n) (hc : Cls m n F out cl) (hle : ∀ i, i < n → cl i ≤ i) (hid : ∀ i, i < n → cl (cl i) = cl i) (u : List Nat) (hu : okW m u) : ∀ s t, s < n → t < n → cl s = cl t → runW (nxF (jnN n m F cl)) s u < n ∧ cl (runW (nxF (jnN n m F cl)) s u) = cl (runW (fun x c => F (x * m + c)) t u) := by
  induction u with
  | nil => intro s t hs ht e; exact ⟨hs, e⟩
  | cons c u ih =>
    intro s t hs ht e
    have hcm := hu c List.mem_cons_self
    have h1 : nxF (jnN n m F cl) s c = cl (F (s * m + c)) := rnN_at hs hcm
    have h2 := hF s c hs hcm
    have h3 := hle _ h2
    have h4 := ih (fun d hd => hu d (List.mem_cons_of_mem _ hd)) (cl (F (s * m + c))) (F (t * m + c)) (by omega) (hF t c ht hcm) (by rw [hid _ h2]; exact hc.next s t hs ht e c hcm)
    show runW (nxF (jnN n m F cl)) (nxF (jnN n m F cl) s c) u < n ∧ cl (runW (nxF (jnN n m F cl)) (nxF (jnN n m F cl) s c) u) = cl (runW (fun x c => F (x * m + c)) (F (t * m + c)) u)
    rw [h1]
    exact h4
/-- What the document's Of answers. -/
theorem doc_lst {n2 : Nat} {g2 F2 : Nat → Nat} (hmay : mayF (st : Int) N O (m : Int) = true) (h1 : Whl m st N n g F) (hc : Cls m n F (fun i => outF O (g i)) cl) (hle : ∀ i, i < n → cl i ≤ i) (hid : ∀ i, i < n → cl (cl i) = cl i) (h2 : Whl m 0 (jnN n m F cl) n2 g2 F2) (hinj : ∀ p q, p < n2 → q < n2 → g2 p = g2 q → p = q) :
    Lst m (st : Int) N O (rnN n2 m F2) (rnO n2 (rnO n O g) g2) := by
  have hn := h1.pos
  have hF : ∀ i c, i < n → c < m → F (i * m + c) < n := h1.fl
  have hjl : (jnN n m F cl).length = n := (rn_len n m (fun i => cl (F i)) [] g).1
  have hcl0 : cl 0 = 0 := by have := hle 0 hn; omega
  have hcF : ∀ i c, i < n → c < m → cl (F (i * m + c)) < n := fun i c hi hcm => by have := hF i c hi hcm; have := hle _ this; omega
  have hmayJ : mayF 0 (jnN n m F cl) (rnO n O g) (m : Int) = true := by
    have hw := h1.may hmay
    obtain ⟨l1, l2⟩ := rn_len n m F O g
    refine mayF_of (by rw [hjl]; exact l2) (by omega) ?_ ?_ (upF_rise hw)
    · intro r hr
      obtain ⟨i, hi, rfl⟩ := List.mem_map.1 hr
      simp
    · intro r hr z hz
      obtain ⟨i, hi, rfl⟩ := List.mem_map.1 hr
      obtain ⟨c, hcm, rfl⟩ := List.mem_map.1 hz
      have h9 := hcF i c (List.mem_range.1 hi) (List.mem_range.1 hcm)
      rw [hjl]
      show (0 : Int) ≤ ((cl (F (i * m + c)) : Nat) : Int) ∧ ((cl (F (i * m + c)) : Nat) : Int) < (n : Int)
      omega
  have hg2 : ∀ i, i < n2 → g2 i < n := fun i hi => by have := h2.gl i hi; rw [hjl] at this; exact this
  have hself : ∀ i, i < n2 → cl (g2 i) = g2 i := by
    intro i hi
    rcases Nat.eq_zero_or_pos i with rfl | hp
    · rw [h2.g0]; exact hcl0
    · have hr := h2.bfs.row i hi
      obtain ⟨j, hj, e⟩ := h2.bfs.hit (i * m) (Nat.mul_le_mul_right m (by omega)) i hp hr
      have hm0 : 0 < m := by
        rcases Nat.eq_zero_or_pos m with e0 | e0
        · rw [e0, Nat.mul_zero] at hj; omega
        · exact e0
      have hq : j / m < i := (Nat.div_lt_iff_lt_mul hm0).2 hj
      have hr2 := Nat.mod_lt j hm0
      have h3 := h2.fs (j / m) (j % m) (by omega) hr2
      rw [Nat.mul_comm, Nat.div_add_mod, e] at h3
      have h4 : nxF (jnN n m F cl) (g2 (j / m)) (j % m) = cl (F (g2 (j / m) * m + j % m)) := rnN_at (hg2 _ (by omega)) hr2
      rw [h3, h4]
      exact hid _ (hF _ _ (hg2 _ (by omega)) hr2)
  have hJ : ∀ s, s < n → SameL m (nxF (jnN n m F cl)) (fun x c => F (x * m + c)) (outF (rnO n O g)) (fun i => outF O (g i)) s s := fun s hs u hu => by
    obtain ⟨a1, a2⟩ := join_same hF hc hle hid u hu s s hs hs rfl
    have a3 : runW (fun x c => F (x * m + c)) s u < n := runW_in hF u s hs hu
    rw [rnO_at a1]
    exact hc.told _ _ a1 a3 a2
  refine ⟨⟨h2.may hmayJ, h2.bfsR, fun p q hp hq hl => ?_⟩, ?_, ?_⟩
  · rw [(rn_len n2 m F2 [] g2).1] at hp hq
    have k1 := ((h2.same (O := rnO n O g) hp).symm.trans hl).trans (h2.same (O := rnO n O g) hq)
    have k2 := ((hJ _ (hg2 p hp)).symm.trans k1).trans (hJ _ (hg2 q hq))
    have k3 := hc.wide _ _ (hg2 p hp) (hg2 q hq) k2
    rw [hself p hp, hself q hq] at k3
    exact hinj p q hp hq k3
  · rw [Int.toNat_natCast]
    have k1 := h2.same (O := rnO n O g) h2.pos
    rw [h2.g0] at k1
    have k2 := k1.trans (hJ 0 hn)
    have k3 : SameL m (fun x c => F (x * m + c)) (nxF N) (fun i => outF O (g i)) (outF O) 0 st := fun u hu => by
      have h5 := runW_hom (φ := g) hF (fun x c hx hcm => (h1.fs x c hx hcm).symm) u 0 hn hu
      rw [h1.g0] at h5
      rw [h5]
    exact k2.trans k3
  · have h6 := h2.le
    have h7 := h1.le
    rw [(rn_len n2 m F2 [] g2).1]
    omega
end
end Go.Proofs.YtjmmckkiicefhaaDoor
namespace Go.Proofs.YtjmmckkiicefhaaDoor
open Go.RowKit Go.Shelf
/-- The number of each state among those met. -/
def nbI (n : Nat) (L : List Nat) : List Int := (List.range n).map fun s => if s ∈ L then (L.idxOf s : Int) else -1
theorem nbI_len (n : Nat) (L : List Nat) : (nbI n L).length = n := by simp [nbI]
theorem nbI_nil (n : Nat) : nbI n [] = List.replicate n (-1) := by
  apply List.ext_getElem
  · simp [nbI]
  · intro i h1 h2
    simp [nbI]
theorem nbI_at {n : Nat} (L : List Nat) {s : Nat} (h : s < n) : (nbI n L)[s]? = some (if s ∈ L then (L.idxOf s : Int) else -1) := by
  unfold nbI
  rw [List.getElem?_map, List.getElem?_range h]
  rfl
theorem nbI_set {n : Nat} {L : List Nat} {y : Nat} (hy : y < n) (hn : y ∉ L) : (nbI n L).set y (L.length : Int) = nbI n (L ++ [y]) := by
  apply List.ext_getElem?
  intro s
  rw [List.getElem?_set, nbI_len]
  by_cases hs : s < n
  · by_cases e : y = s
    · subst e
      rw [if_pos rfl, if_pos hy, nbI_at _ hy, if_pos (by simp), (idxOf_add1 y L y).2 hn]
    · rw [if_neg e, nbI_at _ hs, nbI_at _ hs]
      by_cases hm : s ∈ L
      · rw [if_pos hm, if_pos (by simp [hm]), (idxOf_add1 y L s).1 hm]
      · rw [if_neg hm, if_neg (by simp [hm]; exact fun h => e h.symm)]
  · rw [if_neg (by omega), List.getElem?_eq_none (by rw [nbI_len]; omega), List.getElem?_eq_none (by rw [nbI_len]; omega)]
/-- What met answers. -/
def MetR (w w' : World) (m s0 : Nat) (N : List (List Int)) (e : Ending) : Prop := ∃ (L FN : List Nat) (aL aB : Option Addr) (cL cB : Nat), e = .returned (.tuple #[.slice aL L.length cL, .slice aB N.length cB]) ∧ OwnI w' w.heap.size (.slice aL L.length cL) (natI L) ∧ OwnI w' w.heap.size (.slice aB N.length cB) (nbI N.length L) ∧ BfI m s0 N L FN L.length 0 ∧ Below w.heap.size w w'
set_option maxRecDepth 10000 in
set_option maxHeartbeats 3200000 in
theorem met_any (s0 m : Nat) (N O : List (List Int)) (aN aO : Option Addr) (cN lO cO : Nat) (w : World) (hm : May (s0 : Int) N O m) (hnb : N.length ≤ 2200000) (hmb : m ≤ 2200000) (rN : RwA w aN N) :
    Calls Tryd.prog 25 #[.agg #[.int .i64 (s0 : Int), .slice aN N.length cN, .slice aO lO cO], .int .i64 (m : Int)] w fun e w' => MetR w w' m s0 N e := by
  obtain ⟨j0, hj, hy0, hy1, hy2⟩ := info_parts infoInt
  obtain ⟨w0, hw0⟩ : ∃ w0, w0 = w.alloc (.cells #[.int .i64 (s0 : Int), .slice aN N.length cN, .slice aO lO cO] 24) := ⟨_, rfl⟩
  have hB0 : Below w.heap.size w w0 := by rw [hw0]; exact below_alloc _ _
  have hX0 : MBox w0 w.heap.size (s0 : Int) (.slice aN N.length cN) (.slice aO lO cO) := by rw [hw0]; exact MBox.new _ _ _ _
  have HAl : Hid (∀ V : World, Below w0.heap.size w0 V → RwA V aN N ∧ (V.cell? ⟨w.heap.size, 0, none⟩ = some (.int .i64 (s0 : Int)) ∧ V.cell? ⟨w.heap.size, 1, none⟩ = some (.slice aN N.length cN)) ∧ Below w.heap.size w V) := hid0 (fun V hV => by
    have h := Below.later hB0 hV
    have hc := (hX0.past hV).c
    exact ⟨rN.past h, ⟨hc.1, hc.2.1⟩, h⟩)
  have hs0 : s0 < N.length := by have := hm.start; omega
  have hn : 0 < N.length := by omega
  have HM := hid0 hm
  have HLo := hid0 hB0.size
  obtain ⟨x0, x1⟩ := (HAl.out w0 (below_refl0 w0)).2.1
  have q0 := hw0.symm
  clear hw0 hB0 hX0 rN hm
  go_enter Tryd.func25, Tryd.ntmps25
  go_wp2
  clear q0 x0 x1
  go_loopw [6, 7] (fun v i wr => ∃ k : Nat, k ≤ N.length ∧ i = .int .i64 (k : Int) ∧ Hid (OwnI wr w0.heap.size v (List.replicate k (-1))) ∧ Hid (Below w0.heap.size w0 wr)) (fun _ i _ => N.length - (intOf i).toNat)
  case atStart => exact ⟨0, Nat.zero_le _, rfl, hid0 (World.ownsRow_nil _ _ _ _), hid0 (Below.refl _ _)⟩
  case round =>
    obtain ⟨k, hk, rfl, HO, HB⟩ := hrel
    have hbs := HB.out.size
    obtain ⟨x0, x1⟩ := (HAl.out wr HB.out).2.1
    by_cases hlt : k < N.length
    · have hkI : (k : Int) < (N.length : Int) := by omega
      have HOk : Hid (wr.ownsRow w0.heap.size 3 1 u6 k (List.replicate k (.int .i64 (-1)))) := hid0 (by have h := HO.out; unfold OwnI at h; rw [List.length_replicate, List.map_replicate] at h; exact h)
      clear HO
      obtain ⟨av, cv, ev⟩ := own_sl HOk.out
      subst ev
      go_wp2_with (at_builtin; go_loud ((
        refine wpList_append_own_at _ rfl _ _ 25 rfl w0.heap.size 3 j0 (.int .i64 0) 1 8 Tryd.underlying25 hj hy0 hy1 hy2 rfl (by decide) (.slice av k cv) k (List.replicate k (.int .i64 (-1))) rfl (World.ownsRow.alloc HOk.out _) ⟨wr.heap.size, 0, none⟩ 1 1 [.int .i64 (-1)] rfl rfl (cell_one_new _ _ _) (by simp [Value.oneCell']) (by unfold maxLen; omega) (by omega) (by simp; omega) ?_
        intro v2 w3 hown2 hgrow2 _ _
        have HB3 := hid0 (own_snoc HOk.out hgrow2 HB.out (Nat.le_refl _))
        have HO3 : Hid (OwnI w3 w0.heap.size v2 (List.replicate (k + 1) (-1))) := hid0 (by unfold OwnI; rw [List.length_replicate, List.map_replicate, List.replicate_succ']; exact hown2)
        clear hown2 hgrow2)))
      go_roundw
      case rel => exact ⟨k + 1, by omega, by go_num, HO3, HB3⟩
      case measure => simp [intOf]; omega
    · have hkI : ¬ (k : Int) < (N.length : Int) := by omega
      have ek : k = N.length := by omega
      have hO := HO.out
      obtain ⟨gn, cn, e6, hg1, hg2, hg3⟩ := own_form hO (by rw [List.length_replicate]; omega)
      rw [List.length_replicate, ek] at e6
      subst e6
      obtain ⟨wo, hwo⟩ : ∃ wo, wo = wr := ⟨_, rfl⟩
      subst hwo
      have HO0 : Hid (wo.ownsRow w0.heap.size 3 1 (.slice (some ⟨gn, 0, none⟩) N.length cn) N.length ((nbI N.length []).map (Value.int .i64))) := hid0 (by
        have h := HO.out
        unfold OwnI at h
        rw [List.length_replicate, ek] at h
        rw [nbI_nil]
        exact h)
      clear hO HO
      obtain ⟨w3, hw3⟩ : ∃ w3, w3 = wo.alloc (.cells #[.int .i64 (s0 : Int)] 3) := ⟨_, rfl⟩
      have hB3 : Below wo.heap.size wo w3 := by rw [hw3]; exact below_alloc _ _
      have hL3 : OwnI w3 w0.heap.size (.slice (some ⟨wo.heap.size, 0, none⟩) 1 1) (natI [s0]) := by
        rw [hw3]
        exact ⟨by simp [natI], .inr ⟨wo.heap.size, 1, #[.int .i64 (s0 : Int)], rfl, hbs, heap_alloc_new wo _, Nat.le_refl _, by unfold maxLen; omega, rfl, by simp [natI]⟩⟩
      have hcell : w3.cell? ⟨gn, s0, none⟩ = some (.int .i64 (-1)) := by
        rw [World.ownsRow.cellAt (row_later HO0.out hB3) s0 (by omega), List.getElem?_map, nbI_at _ hs0]
        simp
      have hfr := World.ownsRow.frozenAt (row_later HO0.out hB3) s0
      obtain ⟨w4, hw4⟩ : ∃ w4, w4 = w3.setCell ⟨gn, s0, none⟩ (.int .i64 0) := ⟨_, rfl⟩
      have HN4 : Hid (w4.ownsRow w0.heap.size 3 1 (.slice (some ⟨gn, 0, none⟩) N.length cn) N.length ((nbI N.length [s0]).map (Value.int .i64))) := hid0 (by
        have h := (World.ownsRow.stored (row_later HO0.out hB3) s0 (.int .i64 0)).1
        have e := nbI_set (L := []) hs0 (by simp)
        rw [List.nil_append] at e
        rw [hw4, ← e, List.map_set]
        exact h)
      have HL4 : Hid (OwnI w4 w0.heap.size (.slice (some ⟨wo.heap.size, 0, none⟩) 1 1) (natI [s0])) := hid0 (by
        rw [hw4]
        refine own_blk hL3 (fun g hg => ?_)
        have hg' : wo.heap.size = g := by simpa [Value.ownBlock] using hg
        have hgl := (World.ownsRow.lt HO0.out gn rfl).2
        exact Below.heap_setCell _ _ _ _ (show g ≠ gn by omega))
      have HB4 : Hid (Below w0.heap.size w0 w4) := hid0 (by
        rw [hw4]
        have h := Below.later HB.out hB3
        exact h.trans ((Only.setCell w3 gn s0 (.int .i64 0)).below h.size (fun i hi => by rw [hi]; exact hg1)))
      have hsI : (s0 : Int) < (N.length : Int) := by omega
      have hsI0 : (0 : Int) ≤ (s0 : Int) := by omega
      obtain ⟨y0, y1⟩ := (HAl.out w3 (Below.later HB.out hB3)).2.1
      have q3 := hw3.symm
      have q4 := hw4.symm
      have HBf := hid0 (bfI_zero m hs0)
      have HAw : Hid ((Value.slice (some ⟨wo.heap.size, 0, none⟩) 1 1).ownBlock ≠ some gn) := hid0 (fun h => by simp [Value.ownBlock] at h; omega)
      clear hw3 hw4 hB3 hL3 HB HO0
      go_wp2
      clear q3 q4 hcell hfr y0 y1 x0 x1
      go_loopw [8, 9] (fun vl i wr => ∃ (i' : Nat) (L FN : List Nat), i = .int .i64 (i' : Int) ∧ Hid (OwnI wr w0.heap.size vl (natI L)) ∧ Hid (vl.ownBlock ≠ some gn) ∧ Hid (wr.ownsRow w0.heap.size 3 1 (.slice (some ⟨gn, 0, none⟩) N.length cn) N.length ((nbI N.length L).map (Value.int .i64))) ∧ Hid (BfI m s0 N L FN i' 0) ∧ Hid (Below w0.heap.size w0 wr)) (fun _ i _ => N.length - (intOf i).toNat)
      case atStart => exact ⟨0, [s0], [], rfl, HL4, HAw, HN4, HBf, HB4⟩
      case round =>
        clear HL4 HN4 HBf HB4 HAw
        obtain ⟨i', L, FN, rfl, HL, HAw, HNb, HBf, HBr⟩ := hrel
        have hLn : L.length ≤ N.length := nodup_le _ _ HBf.out.nd HBf.out.lt
        have hil := HBf.out.il
        obtain ⟨aL, cL, eL⟩ : ∃ a c, u8 = .slice a L.length c := by have h := own_sl HL.out; rw [natI_len] at h; exact h
        subst eL
        by_cases hlt2 : i' < L.length
        · have hiI : (i' : Int) < (L.length : Int) := by omega
          have HCu := hid0 (HBf.out.cur hlt2)
          go_wp2
          go_loopw [8, 10] (fun vl j wr => ∃ (j' : Nat) (L FN : List Nat), j' ≤ m ∧ j = .int .i64 (j' : Int) ∧ Hid (OwnI wr w0.heap.size vl (natI L)) ∧ Hid (vl.ownBlock ≠ some gn) ∧ Hid (wr.ownsRow w0.heap.size 3 1 (.slice (some ⟨gn, 0, none⟩) N.length cn) N.length ((nbI N.length L).map (Value.int .i64))) ∧ Hid (BfI m s0 N L FN i' j' ∧ i' < L.length ∧ i' ≤ top (Fl FN) (i' * m)) ∧ Hid (Below w0.heap.size w0 wr)) (fun _ j _ => m - (intOf j).toNat)
          case atStart => exact ⟨0, L, FN, Nat.zero_le _, rfl, HL, HAw, HNb, hid0 ⟨HBf.out, hlt2, HCu.out⟩, HBr⟩
          case round =>
            clear HL HNb HBf HBr HCu hLn hil hlt2 hiI HAw
            obtain ⟨j', L2, FN2, hj', rfl, HL, HAw, HNb, HBf, HBr⟩ := hrel
            have hLn : L2.length ≤ N.length := nodup_le _ _ HBf.out.1.nd HBf.out.1.lt
            have hil := HBf.out.2.1
            have hbs2 := HBr.out.size
            obtain ⟨aL, cL, eL⟩ : ∃ a c, u8 = .slice a L2.length c := by have h := own_sl HL.out; rw [natI_len] at h; exact h
            subst eL
            by_cases hjm : j' < m
            · have hjI : (j' : Int) < (m : Int) := by omega
              have hjI0 : (0 : Int) ≤ (j' : Int) := by omega
              have hiI : (i' : Int) < (L2.length : Int) := by omega
              have hiI0 : (0 : Int) ≤ (i' : Int) := by omega
              obtain ⟨x0, x1⟩ := (HAl.out wr HBr.out).2.1
              have hxl : Lg1 L2 i' < N.length := HBf.out.1.lt _ (Lg1_mem hil)
              obtain ⟨gl, cl2, el, _, _, _⟩ := own_form HL.out (by rw [natI_len]; omega)
              rw [natI_len] at el
              injection el with ea _ ec
              subst ea
              subst ec
              have dl : wr.cell? ⟨gl, i', none⟩ = some (.int .i64 ((Lg1 L2 i' : Nat) : Int)) := by
                have h := HL.out
                unfold OwnI at h
                rw [natI_len] at h
                rw [World.ownsRow.cellAt h i' (by omega), List.getElem?_map, List.getElem?_eq_getElem (by rw [natI_len]; omega), natI_at L2 i' hil]
                rfl
              obtain ⟨b1, o1, rfl, a1, c1, d1, i1⟩ := rwa_at (HAl.out wr HBr.out).1 hxl
              have hnx := HM.out.next hxl hjm
              have hnl : (outF N (Lg1 L2 i')).length = m := hnx.2.2
              have hpl : j' < (outF N (Lg1 L2 i')).length := by rw [hnl]; exact hjm
              obtain ⟨b4, o4, rfl, _, d4⟩ := i1.at' _ hpl
              have d4' : wr.cell? ⟨b4, o4 + j', none⟩ = some (.int .i64 ((nxF N (Lg1 L2 i') j' : Nat) : Int)) := by
                rw [d4]
                have e : (outF N (Lg1 L2 i'))[j'] = (outF N (Lg1 L2 i')).getD j' 0 := by rw [List.getD_eq_getElem?_getD, List.getElem?_eq_getElem hpl]; rfl
                rw [e]
                have := hnx.2.1
                unfold outF
                rw [this]
              have hyl := hnx.1
              have hpI : (j' : Int) < ((outF N (Lg1 L2 i')).length : Int) := by omega
              have hxI : ((Lg1 L2 i' : Nat) : Int) < (N.length : Int) := by omega
              have hxI0 : (0 : Int) ≤ ((Lg1 L2 i' : Nat) : Int) := by omega
              have hyI : ((nxF N (Lg1 L2 i') j' : Nat) : Int) < (N.length : Int) := by omega
              have hyI0 : (0 : Int) ≤ ((nxF N (Lg1 L2 i') j' : Nat) : Int) := by omega
              have hcell : wr.cell? ⟨gn, nxF N (Lg1 L2 i') j', none⟩ = some (.int .i64 (if nxF N (Lg1 L2 i') j' ∈ L2 then (L2.idxOf (nxF N (Lg1 L2 i') j') : Int) else -1)) := by
                rw [World.ownsRow.cellAt HNb.out _ (by omega), List.getElem?_map, nbI_at _ hyl]
                rfl
              have hfr := World.ownsRow.frozenAt HNb.out (nxF N (Lg1 L2 i') j')
              have HBf2 : Hid (∀ y, y = nxF N (Lg1 L2 i') j' → (y ∈ L2 → BfI m s0 N L2 (FN2 ++ [L2.idxOf y]) i' (j' + 1)) ∧ (y ∉ L2 → BfI m s0 N (L2 ++ [y]) (FN2 ++ [L2.length]) i' (j' + 1))) := hid0 (fun y hy => ⟨fun hmem => HBf.out.1.old hjm hil hy hmem, fun hmem => HBf.out.1.new hjm hil hy (by rw [hy]; exact hyl) hmem⟩)
              have HFl := hid0 HBf.out.1.len
              have HTp := hid0 HBf.out.2.2
              have hyn : nxF N (Lg1 L2 i') j' < N.length := hyl
              clear d4 hnx hnl hpl i1 hyl HBf
              generalize hyy : nxF N (Lg1 L2 i') j' = y at *
              have HyE := hid0 hyy.symm
              clear hyy
              generalize Lg1 L2 i' = xx at *
              generalize (outF N xx).length = ln at *
              by_cases hmem : y ∈ L2
              · rw [if_pos hmem] at hcell
                have HB2 : Hid (BfI m s0 N L2 (FN2 ++ [L2.idxOf y]) i' (j' + 1) ∧ i' < L2.length ∧ i' ≤ top (Fl (FN2 ++ [L2.idxOf y])) (i' * m)) := hid0 ⟨(HBf2.out y rfl).1 hmem, hil, cur_more HTp.out (by have := HFl.out; omega)⟩
                have hix : ¬ ((L2.idxOf y : Nat) : Int) < 0 := by omega
                clear HBf2 HFl HTp hmem HyE
                generalize L2.idxOf y = iy at *
                go_wp2
                go_quiet ((fail))
                go_wp2
                go_roundw
                case rel => exact ⟨j' + 1, L2, FN2 ++ [iy], by omega, by go_num, hid0 (HL.out.past (below_drew' (below_refl0 wr) _)), HAw, hid0 (row_later HNb.out (below_drew' (below_refl0 wr) _)), HB2, hid0 (below_drew' HBr.out _)⟩
                case measure => simp [intOf]; omega
              · rw [if_neg hmem] at hcell
                have HB2 : Hid (BfI m s0 N (L2 ++ [y]) (FN2 ++ [L2.length]) i' (j' + 1) ∧ i' < (L2 ++ [y]).length ∧ i' ≤ top (Fl (FN2 ++ [L2.length])) (i' * m)) := hid0 ⟨(HBf2.out y rfl).2 hmem, by rw [List.length_append]; simp; omega, cur_more HTp.out (by have := HFl.out; omega)⟩
                have HQ := hid0 (fun q => And.intro (HL.out.past (below_drew' (below_refl0 wr) q)) (And.intro (row_later HNb.out (below_drew' (below_refl0 wr) q)) (below_drew' HBr.out q)))
                have HNs := hid0 (nbI_set (L := L2) hyn hmem)
                have HNy : Hid ((nbI N.length L2)[y]? = some (-1)) := hid0 (by rw [nbI_at _ hyn, if_neg hmem])
                have HQe := hid0 (natI_snoc L2 y)
                clear HBf2 HFl HTp hmem HyE
                go_wp2
                go_quiet ((fail))
                generalize hwq : wr.drewN _ = wq
                have hQq : OwnI wq w0.heap.size (.slice (some ⟨gl, 0, none⟩) L2.length cL) (natI L2) ∧ wq.ownsRow w0.heap.size 3 1 (.slice (some ⟨gn, 0, none⟩) N.length cn) N.length ((nbI N.length L2).map (Value.int .i64)) ∧ Below w0.heap.size w0 wq := by rw [← hwq]; exact HQ.out _
                obtain ⟨hL5, hN5, hB5⟩ := hQq
                clear HQ hwq hcell hfr d1 d4' dl x0 x1 HL HNb HBr
                have hcell5 : wq.cell? ⟨gn, y, none⟩ = some (.int .i64 (-1)) := by
                  rw [World.ownsRow.cellAt hN5 _ (by omega), List.getElem?_map, HNy.out]
                  rfl
                have hfr5 := World.ownsRow.frozenAt hN5 y
                obtain ⟨ws, hws⟩ : ∃ ws, ws = wq.setCell ⟨gn, y, none⟩ (.int .i64 (L2.length : Int)) := ⟨_, rfl⟩
                have HN6 : Hid (ws.ownsRow w0.heap.size 3 1 (.slice (some ⟨gn, 0, none⟩) N.length cn) N.length ((nbI N.length (L2 ++ [y])).map (Value.int .i64))) := hid0 (by
                  have h := (World.ownsRow.stored hN5 y (.int .i64 (L2.length : Int))).1
                  rw [hws, ← HNs.out, List.map_set]
                  exact h)
                have HL6 : Hid (OwnI ws w0.heap.size (.slice (some ⟨gl, 0, none⟩) L2.length cL) (natI L2)) := hid0 (by
                  rw [hws]
                  exact own_blk hL5 (fun g hg => Below.heap_setCell _ _ _ _ (fun e => HAw.out (by rw [hg, e]))))
                have HB6 : Hid (Below w0.heap.size w0 ws) := hid0 (by
                  rw [hws]
                  exact hB5.trans ((Only.setCell wq gn y (.int .i64 (L2.length : Int))).below hB5.size (fun i hi => by rw [hi]; exact hg1)))
                have hb6 := HB6.out.size
                have hws' := hws.symm
                clear hws hL5 hN5 hB5
                have HLk : Hid (ws.ownsRow w0.heap.size 3 1 (.slice (some ⟨gl, 0, none⟩) L2.length cL) L2.length ((natI L2).map (Value.int .i64))) := hid0 (by have h := HL6.out; unfold OwnI at h; rw [natI_len] at h; exact h)
                go_wp2_with (at_builtin; go_loud ((
                  refine wpList_append_own_at _ rfl _ _ 25 rfl w0.heap.size 3 j0 (.int .i64 0) 1 8 Tryd.underlying25 hj hy0 hy1 hy2 rfl (by decide) (.slice (some ⟨gl, 0, none⟩) L2.length cL) L2.length ((natI L2).map (Value.int .i64)) rfl (World.ownsRow.alloc HLk.out _) ⟨ws.heap.size, 0, none⟩ 1 1 [.int .i64 (y : Int)] rfl rfl (cell_one_new _ _ _) (by simp [Value.oneCell']) (by unfold maxLen; omega) (by omega) (by simp; omega) ?_
                  intro v7 w7 hown7 hgrow7 _ hat7
                  have HB7 := hid0 (own_snoc HLk.out hgrow7 HB6.out (Nat.le_refl _))
                  have HL7 : Hid (OwnI w7 w0.heap.size v7 (natI (L2 ++ [y]))) := hid0 (by unfold OwnI; rw [HQe.out, List.length_append, natI_len, List.map_append]; exact hown7)
                  have HN7 : Hid (w7.ownsRow w0.heap.size 3 1 (.slice (some ⟨gn, 0, none⟩) N.length cn) N.length ((nbI N.length (L2 ++ [y])).map (Value.int .i64))) := hid0 (World.ownsRow.kept (World.ownsRow.alloc HN6.out _) hgrow7 (.inr (fun hc => HAw.out hc.symm)))
                  have HA7 : Hid (v7.ownBlock ≠ some gn) := hid0 (fun h => by
                    rcases hat7 with h1 | h1
                    · exact HAw.out (h1.symm.trans h)
                    · have h2 := (World.ownsRow.lt HN6.out gn rfl).2
                      rw [h1] at h
                      simp at h
                      omega)
                  clear hown7 hgrow7 hat7)))
                go_roundw
                case rel => exact ⟨j' + 1, L2 ++ [y], FN2 ++ [L2.length], by omega, by go_num, HL7, HA7, HN7, HB2, HB7⟩
                case measure => simp [intOf]; omega
            · have hjI : ¬ (j' : Int) < (m : Int) := by omega
              have HB2 : Hid (BfI m s0 N L2 FN2 (i' + 1) 0) := hid0 (by
                have h := HBf.out.1
                have e : j' = m := by omega
                rw [e] at h
                exact h.next hil HBf.out.2.2)
              go_wp2
              go_roundw
              case rel => exact ⟨i' + 1, L2, FN2, by go_num, HL, HAw, HNb, HB2, HBr⟩
              case measure => simp [intOf]; omega
        · have hiI : ¬ (i' : Int) < (L.length : Int) := by omega
          have HB2 : Hid (BfI m s0 N L FN L.length 0) := hid0 (by
            have h := HBf.out
            have e : i' = L.length := by omega
            rw [e] at h
            exact h)
          have HFin : Hid (MetR w wr m s0 N (.returned (.tuple #[.slice aL L.length cL, .slice (some ⟨gn, 0, none⟩) N.length cn]))) := hid0 ⟨L, FN, aL, _, cL, cn, rfl, owns_lower HL.out HLo.out, owns_lower (by rw [nbI_len]; exact HNb.out) HLo.out, HB2.out, (HAl.out wr HBr.out).2.2⟩
          go_wp2
          go_returns
          exact HFin.out
end Go.Proofs.YtjmmckkiicefhaaDoor
namespace Go.Proofs.YtjmmckkiicefhaaDoor
open Go.RowKit Go.Shelf
/-- A list spread behind none, as one step of a region that draws its order. -/
theorem step_spreadI {ops : Array Oper} {o : Oper} {a : Act} {w : World} {K : Act → World → Prop} {Q : Exit → Act → World → Prop} {E : Prop} (hg : o.guard = none) (s x : Operand) (ho : o.op = .call { callee := .builtin .append, args := #[s, x], argTypes := #[25, 25] })
    (aN : Option Addr) (L : List Int) (cN base : Nat) (hs : a.eval s = .slice none 0 0) (hx : a.eval x = .slice aN L.length cN) (hnil : aN = none → cN = 0) (ha : IA w aN L) (hl : L.length ≤ 17592186044416) (hb : base ≤ w.heap.size)
    (h : ∀ v' w', OwnI w' base v' L → w.grownBy w' none → K (a.put o.dst v') w') : if Region.wanted o (yielded ops a.tmps) = true then Oper.wp Tryd.prog o a w K Q else E := by
  have hw : Region.wanted o (yielded ops a.tmps) = true := by simp [Region.wanted, hg]
  rw [if_pos hw]
  obtain ⟨i0, hi, hz0, hz1, hz2⟩ := info_parts infoInt
  cases aN with
  | none =>
    have hL : L = [] := by
      cases L with
      | nil => rfl
      | cons y r => obtain ⟨b, off, e, _⟩ := ha.at' 0 (by simp); cases e
    subst hL
    have hc := hnil rfl
    subst hc
    have hr := app_nilI w o.type
    unfold Oper.wp execOp
    simp only [ho, resolve, invoke, builtin, Sem.run_bind, Sem.run_pure, Result.andThen_ok, List.map_toArray, List.map_cons, List.map_nil, hs, hx, List.length_nil, hr]
    exact h _ _ (World.ownsRow_nil _ _ _ _) ⟨rfl, rfl, rfl, Nat.le_refl _, fun _ _ _ => rfl⟩
  | some ad =>
    have hnews : ∀ j u, (L.map (Value.int .i64))[j]? = some u → w.cell? (ad.add j) = some u := fun j u hu => by
      have hj : j < L.length := by have := (List.getElem?_eq_some_iff.1 hu).1; simpa using this
      obtain ⟨b, off, e, h1, h2⟩ := ha.at' j hj
      cases e
      rw [Addr.add_mid, h2]
      have : (L.map (Value.int .i64))[j]? = some (.int .i64 L[j]) := by simp [hj]
      rw [this] at hu
      exact hu
    obtain ⟨v', w', hr, h2, h3, _, _⟩ := run_append_own_at (P := Tryd.prog) w base 25 o.type 3 i0 (.int .i64 0) 1 8 Tryd.underlying25 hi hz0 hz1 hz2 rfl (by decide) (.slice none 0 0) 0 [] (World.ownsRow_nil _ _ _ _) ad L.length cN (L.map (Value.int .i64)) (by simp) hnews (fun u hu => by obtain ⟨y, _, rfl⟩ := List.mem_map.1 hu; rfl) (by unfold maxLen; omega) (by omega) hb
    unfold Oper.wp execOp
    simp only [ho, resolve, invoke, builtin, Sem.run_bind, Sem.run_pure, Result.andThen_ok, List.map_toArray, List.map_cons, List.map_nil, hs, hx, hr]
    exact h v' w' (by rw [Nat.zero_add, List.nil_append] at h2; exact h2) h3
/-- A row's first c numbers. -/
def rnR (m : Nat) (F : Nat → Nat) (i c : Nat) : List Nat := (List.range c).map fun d => F (i * m + d)
theorem rnR_succ (m : Nat) (F : Nat → Nat) (i c : Nat) : rnR m F i (c + 1) = rnR m F i c ++ [F (i * m + c)] := by
  unfold rnR
  rw [List.range_succ, List.map_append]
  rfl
theorem rnR_len (m : Nat) (F : Nat → Nat) (i c : Nat) : (natI (rnR m F i c)).length = c := by rw [natI_len]; unfold rnR; simp
theorem rnN_take {n m : Nat} {F : Nat → Nat} {k : Nat} (h : k < n) : (rnN n m F).take (k + 1) = (rnN n m F).take k ++ [natI (rnR m F k m)] := by
  have hl := (rn_len n m F [] (fun x => x)).1
  rw [List.take_succ_eq_append_getElem (by omega)]
  congr 2
  unfold rnN
  rw [List.getElem_map, List.getElem_range]
  unfold natI rnR
  rw [List.map_map]
  rfl
theorem rnO_take {n : Nat} {O : List (List Int)} {g : Nat → Nat} {k : Nat} (h : k < n) : (rnO n O g).take (k + 1) = (rnO n O g).take k ++ [outF O (g k)] := by
  have hl := (rn_len n 0 (fun x => x) O g).2
  rw [List.take_succ_eq_append_getElem (by omega)]
  congr 2
  unfold rnO
  rw [List.getElem_map, List.getElem_range]
/-- The number of a successor. -/
theorem BfI.num {m st : Nat} {N : List (List Int)} {L FN : List Nat} (h : BfI m st N L FN L.length 0) {i c : Nat} (hi : i < L.length) (hc : c < m) : nxF N (Lg1 L i) c ∈ L ∧ L.idxOf (nxF N (Lg1 L i) c) = Fl FN (i * m + c) := by
  have hw := h.done rfl
  have h1 := hw.fl i c hi hc
  have h2 := hw.fs i c hi hc
  rw [← h2]
  refine ⟨Lg1_mem h1, ?_⟩
  have e : Lg1 L (Fl FN (i * m + c)) = L[Fl FN (i * m + c)] := by unfold Lg1; rw [List.getD_eq_getElem?_getD, List.getElem?_eq_getElem h1]; rfl
  rw [e]
  exact h.nd.idxOf_getElem _ h1
/-- What renamed answers. -/
def RenR (w w' : World) (m s0 : Nat) (N O : List (List Int)) (e : Ending) : Prop := ∃ (L FN : List Nat) (aD aE : Option Addr) (cD cE : Nat), e = .returned (.agg #[.int .i64 0, .slice aD L.length cD, .slice aE L.length cE]) ∧ DbB w.heap.size w' (.slice aD L.length cD) (.slice aE L.length cE) (rnN L.length m (Fl FN)) (rnO L.length O (Lg1 L)) ∧ BfI m s0 N L FN L.length 0 ∧ Below w.heap.size w w'
set_option maxRecDepth 10000 in
set_option maxHeartbeats 3200000 in
theorem renamed_any (s0 m : Nat) (N O : List (List Int)) (aN aO : Option Addr) (cN cO : Nat) (w : World) (hm : May (s0 : Int) N O m) (hnb : N.length ≤ 2200000) (hmb : m ≤ 2200000) (hOr : ∀ r ∈ O, r.length ≤ 2200000) (rN : RwA w aN N) (rO : RwN w aO O) :
    Calls Tryd.prog 15 #[.agg #[.int .i64 (s0 : Int), .slice aN N.length cN, .slice aO O.length cO], .int .i64 (m : Int)] w fun e w' => RenR w w' m s0 N O e := by
  obtain ⟨j0, hj, hy0, hy1, hy2⟩ := info_parts infoInt
  obtain ⟨i0, hi, hz0, hz1, hz2⟩ := info_parts infoInts
  obtain ⟨w0, hw0⟩ : ∃ w0, w0 = w.alloc (.cells #[.int .i64 (s0 : Int), .slice aN N.length cN, .slice aO O.length cO] 24) := ⟨_, rfl⟩
  obtain ⟨w1, hw1⟩ : ∃ w1, w1 = w0.alloc (.cells #[.int .i64 0, .slice none 0 0, .slice none 0 0] 24) := ⟨_, rfl⟩
  have hB0 : Below w.heap.size w w0 := by rw [hw0]; exact below_alloc _ _
  have hB1 : Below w0.heap.size w0 w1 := by rw [hw1]; exact below_alloc _ _
  have hX0 : MBox w1 w.heap.size (s0 : Int) (.slice aN N.length cN) (.slice aO O.length cO) := by
    have h : MBox w0 w.heap.size (s0 : Int) (.slice aN N.length cN) (.slice aO O.length cO) := by rw [hw0]; exact MBox.new _ _ _ _
    exact h.past hB1
  have hR1 : w1.heap[w0.heap.size]? = some (.cells #[.int .i64 0, .slice none 0 0, .slice none 0 0] 24 (0, 0)) := by rw [hw1]; exact heap_alloc_new _ _
  have HAl : Hid (∀ V : World, Below w1.heap.size w1 V → RwA V aN N ∧ RwN V aO O ∧ (V.cell? ⟨w.heap.size, 0, none⟩ = some (.int .i64 (s0 : Int)) ∧ V.cell? ⟨w.heap.size, 1, none⟩ = some (.slice aN N.length cN) ∧ V.cell? ⟨w.heap.size, 2, none⟩ = some (.slice aO O.length cO)) ∧ V.heap[w0.heap.size]? = some (.cells #[.int .i64 0, .slice none 0 0, .slice none 0 0] 24 (0, 0)) ∧ Below w.heap.size w V) := hid0 (fun V hV => by
    have h := Below.later (Below.later hB0 hB1) hV
    exact ⟨rN.past h, rO.past h, (hX0.past hV).c, (hV.block _ (Array.getElem?_eq_some_iff.1 hR1).1).trans hR1, h⟩)
  have HMt := hid0 (met_any s0 m N O aN aO cN O.length cO w1 hm hnb hmb (HAl.out w1 (below_refl0 w1)).1)
  have HM := hid0 hm
  have HLo := hid0 hB0.size
  have HLo1 : Hid (w.heap.size ≤ w1.heap.size) := hid0 (Nat.le_trans hB0.size hB1.size)
  have HOr := hid0 hOr
  obtain ⟨x0, x1, x2⟩ := (HAl.out w1 (below_refl0 w1)).2.2.1
  have q0 := hw0.symm
  have q1 := hw1.symm
  clear hw0 hw1 hB0 hB1 hX0 hR1 rN rO hm hOr
  go_enter Tryd.func15, Tryd.ntmps15
  go_upto_region 2 with (go_at_call 25; go_loud ((refine HMt.out.mono ?_; rintro e w2 ⟨L, FN, aL, aB, cL, cB, rfl, hL2, hN2, hBf2, hB2⟩; have HL2 := hid0 hL2; have HN2 := hid0 hN2; have HBf := hid0 hBf2; have HB2 := hid0 hB2; clear hL2 hN2 hBf2 hB2)))
  clear q0 q1 x0 x1 x2 HMt
  have hLn : L.length ≤ N.length := nodup_le _ _ HBf.out.nd HBf.out.lt
  have hLp := HBf.out.h0.2
  obtain ⟨w3, hw3⟩ : ∃ w3, w3 = w2.alloc (.cells #[.int .i64 0, .slice none 0 0, .slice none 0 0] 24) := ⟨_, rfl⟩
  have hB3 : Below w2.heap.size w2 w3 := by rw [hw3]; exact below_alloc _ _
  have HMk3 : Hid (MkM w3 w1.heap.size w2.heap.size 0 (.slice none 0 0) (.slice none 0 0) [] []) := hid0 (mkM_new (by rw [hw3]; exact heap_alloc_new _ _) HB2.out.size)
  have HL3 : Hid (OwnI w3 w1.heap.size (.slice aL L.length cL) (natI L)) := hid0 (HL2.out.past hB3)
  have HN3 : Hid (OwnI w3 w1.heap.size (.slice aB N.length cB) (nbI N.length L)) := hid0 (HN2.out.past hB3)
  have HB3 := hid0 (Below.later HB2.out hB3)
  clear hB3
  go_wp2
  try rw [← hw3]
  clear hw3 HL2 HN2 HB2
  go_loopw [8] (fun i wr => ∃ (p : Nat) (vN vO : Value) (pN pO : Lot), p ≤ L.length ∧ i = .int .i64 (p : Int) ∧ Hid (MkM wr w1.heap.size w2.heap.size 0 vN vO pN pO) ∧ Hid (pN.map (·.2) = (rnN L.length m (Fl FN)).take p ∧ pO.map (·.2) = (rnO L.length O (Lg1 L)).take p) ∧ Hid (OwnI wr w1.heap.size (.slice aL L.length cL) (natI L)) ∧ Hid (OwnI wr w1.heap.size (.slice aB N.length cB) (nbI N.length L)) ∧ Hid (Below w1.heap.size w1 wr)) (fun i _ => L.length - (intOf i).toNat)
  case atStart => exact ⟨0, _, _, [], [], Nat.zero_le _, rfl, HMk3, hid0 ⟨rfl, rfl⟩, HL3, HN3, HB3⟩
  case round =>
    clear HMk3 HL3 HN3 HB3
    obtain ⟨p, vN, vO, pN, pO, hp, rfl, HMk, HTk, HL, HNb, HBr⟩ := hrel
    obtain ⟨wi, hwi⟩ : ∃ wi, wi = wr := ⟨_, rfl⟩
    subst hwi
    have hbi := HBr.out.size
    by_cases hplt : p < L.length
    · have hpI : (p : Int) < (L.length : Int) := by omega
      have hpI0 : (0 : Int) ≤ (p : Int) := by omega
      have hsl : Lg1 L p < N.length := HBf.out.lt _ (Lg1_mem hplt)
      obtain ⟨gl, cl2, el, _, _, _⟩ := own_form HL.out (by rw [natI_len]; omega)
      rw [natI_len] at el
      injection el with ea _ ec
      subst ea
      subst ec
      obtain ⟨gn, cn2, en, _, _, _⟩ := own_form HNb.out (by rw [nbI_len]; omega)
      rw [nbI_len] at en
      injection en with eb _ ed
      subst eb
      subst ed
      have HCl : Hid (∀ V : World, Below wi.heap.size wi V → V.cell? ⟨gl, p, none⟩ = some (.int .i64 ((Lg1 L p : Nat) : Int)) ∧ ∀ y, y ∈ L → y < N.length → V.cell? ⟨gn, y, none⟩ = some (.int .i64 ((L.idxOf y : Nat) : Int))) := hid0 (fun V hV => by
        have h1 := HL.out.past hV
        have h2 := HNb.out.past hV
        unfold OwnI at h1 h2
        rw [natI_len] at h1
        rw [nbI_len] at h2
        refine ⟨?_, fun y hy hyn => ?_⟩
        · rw [World.ownsRow.cellAt h1 p (by omega), List.getElem?_map, List.getElem?_eq_getElem (by rw [natI_len]; omega), natI_at L p hplt]
          rfl
        · rw [World.ownsRow.cellAt h2 y (by omega), List.getElem?_map, nbI_at _ hyn, if_pos hy]
          rfl)
      go_wp2
      go_loopw [9, 11] (fun v j wr => ∃ c : Nat, c ≤ m ∧ j = .int .i64 (c : Int) ∧ Hid (OwnI wr wi.heap.size v (natI (rnR m (Fl FN) p c))) ∧ Hid (Below wi.heap.size wi wr)) (fun _ j _ => m - (intOf j).toNat)
      case atStart => exact ⟨0, Nat.zero_le _, rfl, hid0 (World.ownsRow_nil _ _ _ _), hid0 (Below.refl _ _)⟩
      case round =>
        obtain ⟨c, hcm, rfl, HRo, HBc⟩ := hrel
        have hbc := HBc.out.size
        have HB1c := hid0 (Below.later HBr.out HBc.out)
        obtain ⟨x0, x1, x2⟩ := (HAl.out wr HB1c.out).2.2.1
        obtain ⟨dl, hnum⟩ := HCl.out wr HBc.out
        by_cases hclt : c < m
        · have hcI : (c : Int) < (m : Int) := by omega
          have hcI0 : (0 : Int) ≤ (c : Int) := by omega
          have hsI2 : ((Lg1 L p : Nat) : Int) < (N.length : Int) := by omega
          have hsI3 : (0 : Int) ≤ ((Lg1 L p : Nat) : Int) := by omega
          obtain ⟨b1, o1, rfl, a1, c1, d1, i1⟩ := rwa_at (HAl.out wr HB1c.out).1 hsl
          have hnx := HM.out.next hsl hclt
          have hnl : (outF N (Lg1 L p)).length = m := hnx.2.2
          have hpl : c < (outF N (Lg1 L p)).length := by rw [hnl]; exact hclt
          obtain ⟨b4, o4, rfl, _, d4⟩ := i1.at' _ hpl
          have d4' : wr.cell? ⟨b4, o4 + c, none⟩ = some (.int .i64 ((nxF N (Lg1 L p) c : Nat) : Int)) := by
            rw [d4]
            have e : (outF N (Lg1 L p))[c] = (outF N (Lg1 L p)).getD c 0 := by rw [List.getD_eq_getElem?_getD, List.getElem?_eq_getElem hpl]; rfl
            rw [e]
            have := hnx.2.1
            unfold outF
            rw [this]
          have hyl := hnx.1
          obtain ⟨hym, hyi⟩ := HBf.out.num hplt hclt
          have hat := hnum _ hym hyl
          rw [hyi] at hat
          have hyI : ((nxF N (Lg1 L p) c : Nat) : Int) < (N.length : Int) := by omega
          have hyI0 : (0 : Int) ≤ ((nxF N (Lg1 L p) c : Nat) : Int) := by omega
          have hpcI : (c : Int) < ((outF N (Lg1 L p)).length : Int) := by omega
          have HRs : Hid (natI (rnR m (Fl FN) p (c + 1)) = natI (rnR m (Fl FN) p c) ++ [((Fl FN (p * m + c) : Nat) : Int)]) := hid0 (by rw [rnR_succ, natI_snoc])
          have HOk : Hid (wr.ownsRow wi.heap.size 3 1 u9 c ((natI (rnR m (Fl FN) p c)).map (Value.int .i64))) := hid0 (by have h := HRo.out; unfold OwnI at h; rw [rnR_len] at h; exact h)
          clear d4 hnx hnl hpl i1 hyl hym hyi hnum HRo
          generalize Fl FN (p * m + c) = iy at *
          generalize nxF N (Lg1 L p) c = y at *
          generalize (outF N (Lg1 L p)).length = ln at *
          generalize Lg1 L p = sp at *
          obtain ⟨av, cv, ev⟩ := own_sl HOk.out
          subst ev
          go_upto_region 10 with (fail)
          obtain ⟨wA, hwA⟩ : ∃ wA, wA = wr.alloc (.cells #[.int .i64 (iy : Int)] 3) := ⟨_, rfl⟩
          have hOA : Below wr.heap.size wr wA := by rw [hwA]; exact below_alloc _ _
          have HNew : Hid (∀ j u, [Value.int .i64 (iy : Int)][j]? = some u → wA.cell? ((⟨wr.heap.size, 0, none⟩ : Addr).add j) = some u) := hid0 (by rw [hwA]; exact cell_one_new _ _ _)
          have HOwn : Hid (wA.ownsRow wi.heap.size 3 1 (.slice av c cv) c ((natI (rnR m (Fl FN) p c)).map (Value.int .i64))) := hid0 (row_later HOk.out hOA)
          have HLo8 : Hid (wi.heap.size ≤ wA.heap.size) := hid0 (by have := hOA.size; omega)
          have HNx : Hid (∀ (v' : Value) (w5 : World), w5.ownsRow wi.heap.size 3 1 v' (c + 1) ((natI (rnR m (Fl FN) p c)).map (Value.int .i64) ++ [.int .i64 (iy : Int)]) → wA.drew.grownBy w5 (Value.slice av c cv).ownBlock → OwnI w5 wi.heap.size v' (natI (rnR m (Fl FN) p (c + 1))) ∧ Below wi.heap.size wi w5) := hid0 (fun v' w5 hown hgrow => by
            refine ⟨?_, (below_drew' (Below.later HBc.out hOA) 1).grown hgrow HLo8.out (fun k hk => (World.ownsRow.lt HOwn.out k hk).1)⟩
            unfold OwnI
            rw [HRs.out, List.length_append, rnR_len, List.map_append]
            exact hown)
          have gA := hwA.symm
          clear hwA hOA
          go_wp2_with fail
          go_region_law ((refine step_append_own_at (by rfl) _ _ 25 (by rfl) wi.heap.size 3 j0 _ 1 8 Tryd.underlying25 hj hy0 hy1 hy2 rfl (by decide) (.slice av c cv) c ((natI (rnR m (Fl FN) p c)).map (Value.int .i64)) (by rfl) HOwn.out ⟨wr.heap.size, 0, none⟩ 1 1 [.int .i64 (iy : Int)] (by rfl) (by rfl) HNew.out (by simp [Value.oneCell']) (by unfold maxLen; omega) (by omega) HLo8.out ?_; intro v' w5 hown hgrow hat5; have HN5 := hid0 (HNx.out _ _ hown hgrow); clear hown hgrow hat5))
          all_goals
            go_wp2
            go_roundw
            case rel => exact ⟨c + 1, by omega, by go_num, hid0 HN5.out.1, hid0 HN5.out.2⟩
            case measure => simp [intOf]; omega
        · have hcI : ¬ (c : Int) < (m : Int) := by omega
          have ecm : c = m := by omega
          rw [ecm] at HRo
          clear ecm
          have hso : Lg1 L p < O.length := by have := HM.out.out; omega
          obtain ⟨bO, oO, rfl, _, a1, c1, d1, i1, n1⟩ := (HAl.out wr HB1c.out).2.1.at' (Lg1 L p) hso
          have e0 : O[Lg1 L p] = outF O (Lg1 L p) := by rw [outF, List.getD_eq_getElem?_getD, List.getElem?_eq_getElem hso]; rfl
          rw [e0] at d1 i1
          have hol := HOr.out _ (List.getElem_mem hso)
          rw [e0] at hol
          clear e0
          have HI1 := hid0 i1
          have HN1 := hid0 n1
          clear i1 n1 hnum
          have hsI2 : ((Lg1 L p : Nat) : Int) < (O.length : Int) := by omega
          have hsI3 : (0 : Int) ≤ ((Lg1 L p : Nat) : Int) := by omega
          have HTn := hid0 (And.intro (rnN_take (m := m) (F := Fl FN) hplt) (rnO_take (O := O) (g := Lg1 L) hplt))
          generalize outF O (Lg1 L p) = oo at *
          generalize natI (rnR m (Fl FN) p m) = rr at *
          generalize Lg1 L p = sp at *
          obtain ⟨aR, cR, eR, _⟩ := HRo.out.ia
          subst eR
          have HpN : Hid (pN.length = p ∧ pO.length = p) := hid0 (by
            have h1 := congrArg List.length HTk.out.1
            have h2 := congrArg List.length HTk.out.2
            have h3 := rn_len L.length m (Fl FN) O (Lg1 L)
            rw [List.length_map, List.length_take] at h1 h2
            omega)
          obtain ⟨aV, cV, eV⟩ : ∃ a c, vN = .slice a p c := by have h := own_sl HMk.out.bN.outer; rw [HpN.out.1] at h; exact h
          obtain ⟨aU, cU, eU⟩ : ∃ a c, vO = .slice a p c := by have h := own_sl HMk.out.bO.outer; rw [HpN.out.2] at h; exact h
          subst eV
          subst eU
          have HAway : Hid ((∀ y ∈ pN, ∀ g, y.1.ownBlock = some g → g < wi.heap.size) ∧ ∀ y ∈ pO, ∀ g, y.1.ownBlock = some g → g < wi.heap.size) := hid0 ⟨fun y hy g hg => (World.ownsRow.lt (HMk.out.bN.row y hy) g hg).2, fun y hy g hg => (World.ownsRow.lt (HMk.out.bO.row y hy) g hg).2⟩
          go_upto_region 11 with (fail)
          go_cut [10] from 19 to 68 (fun v10 wx => Hid (OwnI wx wi.heap.size v10 oo) ∧ Hid (Below wr.heap.size wr wx))
          case first =>
            have HId : Hid (IA wr.drew a1 oo) := hid0 (HI1.out.past (below_drew' (below_refl0 wr) 1))
            go_wp2_with fail
            go_region_law ((refine step_spreadI (by rfl) _ _ (by rfl) a1 oo c1 wi.heap.size (by rfl) (by rfl) HN1.out HId.out (by omega) (by first | exact hbc | (simp; omega)) ?_; intro v5 w5 hown5 hgrow5; have HX5 := hid0 (And.intro hown5 ((below_drew' (below_refl0 wr) 1).grown hgrow5 (Nat.le_refl _) (fun k hk => by cases hk))); clear hown5 hgrow5))
            all_goals
              go_wp2_with fail
              go_meet
              exact ⟨hid0 HX5.out.1, hid0 HX5.out.2⟩
          case rest =>
           obtain ⟨HE5, HB5⟩ := hcut
           generalize wc = w5 at *
           clear x0 x1 x2 dl d1
           have HMk5 := hid0 (HMk.out.past (Below.later HBc.out HB5.out))
           have HR5 : Hid (OwnI w5 wi.heap.size (.slice aR rr.length cR) rr) := hid0 (HRo.out.past HB5.out)
           have HL5 := hid0 ((HL.out.past HBc.out).past HB5.out)
           have HN5 := hid0 ((HNb.out.past HBc.out).past HB5.out)
           have HBx5 := hid0 (Below.later HB1c.out HB5.out)
           obtain ⟨aE, cE, eE, _⟩ := HE5.out.ia
           subst eE
           obtain ⟨y0, y1, y2, yf⟩ := HMk5.out.c
           have HMx := hid0 HMk5.out.box
           have HbN5 : Hid (w5.ownsRow w1.heap.size 25 1 (.slice aV p cV) p (pN.map (·.1))) := hid0 (by have h := HMk5.out.bN.outer; rw [HpN.out.1] at h; exact h)
           have hs5 := HBx5.out.size
           clear HMk HRo HL HNb HBc HB1c HBr HB5 HI1 HN1 HCl
           go_upto_region 13 with (at_builtin; go_loud ((
             refine wpList_append_own_at _ rfl _ _ 22 rfl w1.heap.size 25 i0 (.slice none 0 0) 1 24 Tryd.underlying22 hi hz0 hz1 hz2 rfl (by decide) (.slice aV p cV) p (pN.map (·.1)) rfl (World.ownsRow.alloc HbN5.out _) ⟨w5.heap.size, 0, none⟩ 1 1 [.slice aR rr.length cR] rfl rfl (cell_one_new _ _ _) (by simp [Value.oneCell']) (by unfold maxLen; omega) (by omega) (by simp; omega) ?_
             intro v6 w6 hown6 hgrow6 _ hat6
             obtain ⟨a6, c6, e6⟩ := own_sl hown6
             subst e6
             obtain ⟨rb, rm, rf⟩ := HMk5.out.addN (x := .slice aR rr.length cR) (l := rr) (owns_lower HR5.out hbi) (fun y hy g hg hx => by have h1 := HAway.out.1 y hy g hg; have h2 := (World.ownsRow.lt HR5.out g hx).1; omega) (by rw [HpN.out.1]; exact hown6) hgrow6 hat6
             obtain ⟨g0, g1, g2, gf⟩ := box_c rb
             obtain ⟨W6, hW6⟩ : ∃ W6, w6.setCell ⟨w2.heap.size, 1, none⟩ (.slice a6 (p + 1) c6) = W6 := ⟨_, rfl⟩
             rw [hW6] at rm rf
             have HM6 := hid0 rm
             have HF6 := hid0 rf
             have HB6 := hid0 rb
             clear rb rm rf hown6 hgrow6 hat6)))
           clear hW6 g0 g1 g2 gf y0 y1 y2 yf HbN5 HMk5 HB6
           have HE6 : Hid (OwnI W6 wi.heap.size (.slice aE oo.length cE) oo) := hid0 (HF6.out.own ⟨_, HMx.out⟩ HE5.out)
           have HL6 := hid0 (HF6.out.own ⟨_, HMx.out⟩ HL5.out)
           have HN6 := hid0 (HF6.out.own ⟨_, HMx.out⟩ HN5.out)
           have HBx6 := hid0 (HF6.out.below HBx5.out (Nat.le_refl _))
           have hs6 := HBx6.out.size
           have HbO6 : Hid (W6.ownsRow w1.heap.size 25 1 (.slice aU p cU) p (pO.map (·.1))) := hid0 (by have h := HM6.out.bO.outer; rw [HpN.out.2] at h; exact h)
           obtain ⟨y0, y1, y2, yf⟩ := HM6.out.c
           go_wp2_with (at_builtin; go_loud ((
             refine wpList_append_own_at _ rfl _ _ 22 rfl w1.heap.size 25 i0 (.slice none 0 0) 1 24 Tryd.underlying22 hi hz0 hz1 hz2 rfl (by decide) (.slice aU p cU) p (pO.map (·.1)) rfl (World.ownsRow.alloc HbO6.out _) ⟨W6.heap.size, 0, none⟩ 1 1 [.slice aE oo.length cE] rfl rfl (cell_one_new _ _ _) (by simp [Value.oneCell']) (by unfold maxLen; omega) (by omega) (by simp; omega) ?_
             intro v7 w7 hown7 hgrow7 _ hat7
             obtain ⟨a7, c7, e7⟩ := own_sl hown7
             subst e7
             obtain ⟨rb, rm, rf⟩ := HM6.out.addO (x := .slice aE oo.length cE) (l := oo) (owns_lower HE6.out hbi) (fun y hy g hg hx => by have h1 := HAway.out.2 y hy g hg; have h2 := (World.ownsRow.lt HE6.out g hx).1; omega) (by rw [HpN.out.2]; exact hown7) hgrow7 hat7
             obtain ⟨g0, g1, g2, gf⟩ := box_c rb
             obtain ⟨W7, hW7⟩ : ∃ W7, w7.setCell ⟨w2.heap.size, 2, none⟩ (.slice a7 (p + 1) c7) = W7 := ⟨_, rfl⟩
             rw [hW7] at rm rf
             have HM7 := hid0 rm
             have HF7 := hid0 rf
             clear rb rm rf hown7 hgrow7 hat7)))
           have HL7 := hid0 (HF7.out.own ⟨_, HM6.out.box⟩ HL6.out)
           have HN7 := hid0 (HF7.out.own ⟨_, HM6.out.box⟩ HN6.out)
           have HBx7 := hid0 (HF7.out.below HBx6.out (Nat.le_refl _))
           have HTk7 : Hid ((pN ++ [(Value.slice aR rr.length cR, rr)] : Lot).map (·.2) = (rnN L.length m (Fl FN)).take (p + 1) ∧ (pO ++ [(Value.slice aE oo.length cE, oo)] : Lot).map (·.2) = (rnO L.length O (Lg1 L)).take (p + 1)) := hid0 (by
             rw [HTn.out.1, HTn.out.2, List.map_append, List.map_append, HTk.out.1, HTk.out.2]
             exact ⟨rfl, rfl⟩)
           go_roundw
           case rel => exact ⟨p + 1, _, _, _, _, by omega, by go_num, HM7, HTk7, HL7, HN7, HBx7⟩
           case measure => simp [intOf]; omega
    · have hpI : ¬ (p : Int) < (L.length : Int) := by omega
      have HTe : Hid (pN.map (·.2) = rnN L.length m (Fl FN) ∧ pO.map (·.2) = rnO L.length O (Lg1 L)) := hid0 (by
        have h := HTk.out
        have h3 := rn_len L.length m (Fl FN) O (Lg1 L)
        rw [List.take_of_length_le (by omega), List.take_of_length_le (by omega)] at h
        exact h)
      have hR := (HAl.out wi HBr.out).2.2.2.1
      obtain ⟨v1, v2, v3, hl⟩ := laidZ (.int .i64 0) vN vO hR
      obtain ⟨aD, cD, eD, _⟩ := (HMk.out.bN.only2 hl.only hR).rwq
      obtain ⟨aE, cE, eE, _⟩ := (HMk.out.bO.only2 hl.only hR).rwq
      rw [HTe.out.1, (rn_len L.length m (Fl FN) O (Lg1 L)).1] at eD
      rw [HTe.out.2, (rn_len L.length m (Fl FN) O (Lg1 L)).2] at eE
      have HFin : Hid (DbB w.heap.size v3 vN vO (rnN L.length m (Fl FN)) (rnO L.length O (Lg1 L)) ∧ Below w.heap.size w v3) := hid0 ⟨⟨pN, pO, (HMk.out.bN.only2 hl.only hR).low HLo1.out, (HMk.out.bO.only2 hl.only hR).low HLo1.out, HTe.out⟩, (HAl.out wi HBr.out).2.2.2.2.trans (hl.only.below (HAl.out wi HBr.out).2.2.2.2.size (fun i hi => by rw [hi]; exact HLo.out))⟩
      subst eD
      subst eE
      have HR := hid0 hl.r
      have g1 := hl.g1
      have g2 := hl.g2
      have g3 := hl.g3
      obtain ⟨z0, z1, z2⟩ := hl.z
      have a1 := hl.a1
      have a2 := hl.a2
      have f0 := hl.f0
      have f1 := hl.f1
      have f2 := hl.f2
      obtain ⟨y0, y1, y2, yf⟩ := HMk.out.c
      have HOut : Hid (RenR w v3 m s0 N O (.returned (.agg #[.int .i64 0, .slice aD L.length cD, .slice aE L.length cE]))) := hid0 ⟨L, FN, aD, aE, cD, cE, rfl, HFin.out.1, HBf.out, HFin.out.2⟩
      clear hl hR HMk HTk HTe
      go_wp2
      (try simp only [Exit.inBlock, Exit.then])
      refine bodyPost_ret (results_cell_row rfl _ _ w0.heap.size 24 _ _ _ rfl HR.out Tryd.underlying24 rfl (by kernel_rfl)) rfl ?_
      exact HOut.out
end Go.Proofs.YtjmmckkiicefhaaDoor
namespace Go.Proofs.YtjmmckkiicefhaaDoor
open Go.RowKit Go.Shelf
/-- Are two states alike, by the classes? -/
def alkB (m : Nat) (N O : List (List Int)) (C : List Nat) (a b : Nat) : Bool := decide (outF O a = outF O b) && decide (C.getD a 0 = C.getD b 0) && (List.range m).all (fun c => decide (C.getD (nxF N a c) 0 = C.getD (nxF N b c) 0))
def alkR (_m : Nat) (N : List (List Int)) (C : List Nat) (a b k : Nat) : Prop := ∀ c, c < k → C.getD (nxF N a c) 0 = C.getD (nxF N b c) 0
theorem alkB_true {m : Nat} {N O : List (List Int)} {C : List Nat} {a b : Nat} (h1 : outF O a = outF O b) (h2 : C.getD a 0 = C.getD b 0) (h3 : alkR m N C a b m) : alkB m N O C a b = true := by
  unfold alkB
  rw [decide_eq_true h1, decide_eq_true h2]
  simp only [Bool.true_and, List.all_eq_true, decide_eq_true_eq]
  exact fun c hc => h3 c (List.mem_range.1 hc)
theorem alkB_false {m : Nat} {N O : List (List Int)} {C : List Nat} {a b c : Nat} (hc : c < m) (h : C.getD (nxF N a c) 0 ≠ C.getD (nxF N b c) 0) : alkB m N O C a b = false := by
  unfold alkB
  have : (List.range m).all (fun c => decide (C.getD (nxF N a c) 0 = C.getD (nxF N b c) 0)) = false := by
    rw [List.all_eq_false]
    exact ⟨c, List.mem_range.2 hc, by simp only [decide_eq_true_eq]; exact h⟩
  rw [this, Bool.and_false]
theorem IA.cellN {w : World} {a : Option Addr} {C : List Nat} (h : IA w a (natI C)) {y : Nat} (hy : y < C.length) : ∃ b off, a = some ⟨b, off, none⟩ ∧ w.cell? ⟨b, off + y, none⟩ = some (.int .i64 ((C.getD y 0 : Nat) : Int)) := by
  obtain ⟨b, off, e, _, h2⟩ := h.at' y (by rw [natI_len]; exact hy)
  rw [natI_at C y hy] at h2
  exact ⟨b, off, e, h2⟩
theorem drew_more0 {w w' : World} {a : Nat} (h : ∃ m, w' = (w.drewN a).drewN m) : ∃ n, w' = w.drewN n := by
  obtain ⟨m, hm⟩ := h
  exact ⟨a + m, by rw [hm, World.drewN_drewN]⟩
set_option maxRecDepth 10000 in
set_option maxHeartbeats 3200000 in
theorem alike_any (st : Int) (m a b : Nat) (N O : List (List Int)) (C : List Nat) (aN aO aC : Option Addr) (cN cO cC : Nat) (w : World) (hm : May st N O m) (hC : C.length = N.length) (ha : a < N.length) (hb : b < N.length) (_hnb : N.length ≤ 2200000) (hmb : m ≤ 2200000) (hOr : ∀ r ∈ O, r.length ≤ 2200000) (rN : RwA w aN N) (rO : RwA w aO O) (rC : IA w aC (natI C)) :
    Calls Tryd.prog 26 #[.agg #[.int .i64 st, .slice aN N.length cN, .slice aO O.length cO], .slice aC N.length cC, .int .i64 (a : Int), .int .i64 (b : Int), .int .i64 (m : Int)] w fun e w' => e = .returned (.bool (alkB m N O C a b)) ∧ Below w.heap.size w w' := by
  obtain ⟨w0, hw0⟩ : ∃ w0, w0 = w.alloc (.cells #[.int .i64 st, .slice aN N.length cN, .slice aO O.length cO] 24) := ⟨_, rfl⟩
  have hB0 : Below w.heap.size w w0 := by rw [hw0]; exact below_alloc _ _
  have hX0 : MBox w0 w.heap.size st (.slice aN N.length cN) (.slice aO O.length cO) := by rw [hw0]; exact MBox.new _ _ _ _
  obtain ⟨x0, x1, x2⟩ := hX0.c
  have HN := hid0 (rN.past hB0)
  have HC := hid0 (rC.past hB0)
  have HB0 := hid0 hB0
  have hoa : a < O.length := by have := hm.out; omega
  have hob : b < O.length := by have := hm.out; omega
  obtain ⟨bO, oO, e1, a1, c1, d1, i1⟩ := rwa_at (rO.past hB0) hoa
  obtain ⟨bO2, oO2, e2, a2, c2, d2, i2⟩ := rwa_at (rO.past hB0) hob
  rw [e1] at e2
  injection e2 with e2
  injection e2 with e3 e4
  subst e3
  subst e4
  subst e1
  obtain ⟨bC, oC, e5, k1⟩ := (rC.past hB0).cellN (y := a) (by omega)
  obtain ⟨bC2, oC2, e6, k2⟩ := (rC.past hB0).cellN (y := b) (by omega)
  rw [e5] at e6
  injection e6 with e6
  injection e6 with e7 e8
  subst e7
  subst e8
  subst e5
  have HS := hid0 (fun n => sameInts_any (outF O a) (outF O b) a1 a2 c1 c2 (w0.drewN n) (by have := outF_le (s := a) hOr; omega) (i1.drewN n) (i2.drewN n))
  have HM := hid0 hm
  have HCl := hid0 hC
  have haI : (a : Int) < (N.length : Int) := by omega
  have haI0 : (0 : Int) ≤ (a : Int) := by omega
  have hbI : (b : Int) < (N.length : Int) := by omega
  have hbI0 : (0 : Int) ≤ (b : Int) := by omega
  have haO : (a : Int) < (O.length : Int) := by omega
  have hbO : (b : Int) < (O.length : Int) := by omega
  have q0 := hw0.symm
  have HT : Hid (outF O a = outF O b ∨ outF O a ≠ outF O b) := hid0 (Classical.em _)
  clear hw0 hB0 hX0 rN rO rC i1 i2 hm hOr hC
  rcases HT.out with ht | ht
  · rw [decide_eq_true ht] at HS
    have HTe := hid0 ht
    clear ht HT
    generalize (outF O a).length = la at *
    generalize (outF O b).length = lb at *
    by_cases hcl : C.getD a 0 = C.getD b 0
    · rw [← hcl] at k2
      have HCe := hid0 (fun h3 => alkB_true (m := m) (N := N) HTe.out hcl h3)
      clear hcl
      generalize C.getD a 0 = ca at *
      have hself : (((ca : Nat) : Int) != ((ca : Nat) : Int)) = false := by simp
      have hself2 : (((ca : Nat) : Int) == ((ca : Nat) : Int)) = true := by simp
      go_enter Tryd.func26, Tryd.ntmps26
      go_wp2
      go_quiet ((go_at_call 40; exact (HS.out _).mono (fun _ _ h => ⟨h.1, drew_more0 h.2⟩)))
      go_wp2
      go_quiet ((fail))
      go_wp2
      go_loopw [12] (fun i wr => ∃ k : Nat, k ≤ m ∧ i = .int .i64 (k : Int) ∧ (∃ n, wr = w0.drewN n) ∧ Hid (alkR m N C a b k)) (fun i _ => m - (intOf i).toNat)
      case atStart => exact ⟨0, Nat.zero_le _, rfl, ⟨_, World.drewN_drewN _ _ _⟩, hid0 (fun c h => absurd h (Nat.not_lt_zero _))⟩
      case round =>
        obtain ⟨k, hk, rfl, ⟨nd, rfl⟩, HE⟩ := hrel
        by_cases hkm : k < m
        · have hkI : (k : Int) < (m : Int) := by omega
          have hkI0 : (0 : Int) ≤ (k : Int) := by omega
          obtain ⟨bN, oN, g1, a3, c3, d3, i3⟩ := rwa_at HN.out ha
          obtain ⟨bN2, oN2, g2, a4, c4, d4, i4⟩ := rwa_at HN.out hb
          rw [g1] at g2
          injection g2 with g2
          injection g2 with g3 g4
          subst g3
          subst g4
          subst g1
          have n1 := HM.out.next ha hkm
          have n2 := HM.out.next hb hkm
          have l1 : (outF N a).length = m := n1.2.2
          have l2 : (outF N b).length = m := n2.2.2
          have p1 : k < (outF N a).length := by rw [l1]; exact hkm
          have p2 : k < (outF N b).length := by rw [l2]; exact hkm
          obtain ⟨b5, o5, rfl, _, d5⟩ := i3.at' _ p1
          obtain ⟨b6, o6, rfl, _, d6⟩ := i4.at' _ p2
          have d5' : w0.cell? ⟨b5, o5 + k, none⟩ = some (.int .i64 ((nxF N a k : Nat) : Int)) := by
            rw [d5]
            have e : (outF N a)[k] = (outF N a).getD k 0 := by rw [List.getD_eq_getElem?_getD, List.getElem?_eq_getElem p1]; rfl
            rw [e]
            have := n1.2.1
            unfold outF
            rw [this]
          have d6' : w0.cell? ⟨b6, o6 + k, none⟩ = some (.int .i64 ((nxF N b k : Nat) : Int)) := by
            rw [d6]
            have e : (outF N b)[k] = (outF N b).getD k 0 := by rw [List.getD_eq_getElem?_getD, List.getElem?_eq_getElem p2]; rfl
            rw [e]
            have := n2.2.1
            unfold outF
            rw [this]
          obtain ⟨b7, o7, f1, k3⟩ := HC.out.cellN (y := nxF N a k) (by have := HCl.out; omega)
          obtain ⟨b8, o8, f2, k4⟩ := HC.out.cellN (y := nxF N b k) (by have := HCl.out; omega)
          injection f1 with f1
          injection f1 with f3 f4
          subst f3
          subst f4
          injection f2 with f2
          injection f2 with f5 f6
          subst f5
          subst f6
          have y1 : ((nxF N a k : Nat) : Int) < (N.length : Int) := by omega
          have y2 : ((nxF N b k : Nat) : Int) < (N.length : Int) := by omega
          have y3 : (0 : Int) ≤ ((nxF N a k : Nat) : Int) := by omega
          have y4 : (0 : Int) ≤ ((nxF N b k : Nat) : Int) := by omega
          have z1 : (k : Int) < ((outF N a).length : Int) := by omega
          have z2 : (k : Int) < ((outF N b).length : Int) := by omega
          by_cases he : C.getD (nxF N a k) 0 = C.getD (nxF N b k) 0
          · have HE2 : Hid (alkR m N C a b (k + 1)) := hid0 (fun c hc => by
              by_cases e : c = k
              · rw [e]; exact he
              · exact HE.out c (by omega))
            rw [← he] at k4
            clear d5 d6 n1 n2 l1 l2 p1 p2 i3 i4 he HE
            generalize C.getD (nxF N a k) 0 = cc at *
            generalize nxF N a k = ya at *
            generalize nxF N b k = yb at *
            generalize (outF N a).length = lna at *
            generalize (outF N b).length = lnb at *
            have hs1 : (((cc : Nat) : Int) != ((cc : Nat) : Int)) = false := by simp
            have hs2 : (((cc : Nat) : Int) == ((cc : Nat) : Int)) = true := by simp
            go_wp2
            go_quiet ((fail))
            go_wp2
            go_roundw
            case rel => exact ⟨k + 1, by omega, by go_num, ⟨_, rfl⟩, HE2⟩
            case measure => simp [intOf]; omega
          · have HV := hid0 (alkB_false (O := O) hkm he)
            have he2 : ¬ ((C.getD (nxF N a k) 0 : Nat) : Int) = ((C.getD (nxF N b k) 0 : Nat) : Int) := by omega
            clear d5 d6 n1 n2 l1 l2 p1 p2 i3 i4 he HE
            generalize C.getD (nxF N a k) 0 = cc at *
            generalize C.getD (nxF N b k) 0 = cd at *
            generalize nxF N a k = ya at *
            generalize nxF N b k = yb at *
            generalize (outF N a).length = lna at *
            generalize (outF N b).length = lnb at *
            have hs1 : (((cc : Nat) : Int) != ((cd : Nat) : Int)) = true := by simp; omega
            have hs2 : (((cc : Nat) : Int) == ((cd : Nat) : Int)) = false := by simp; omega
            go_wp2
            go_quiet ((fail))
            go_wp2
            go_ret
            exact ⟨by rw [HV.out]; rfl, below_drew' (below_drew' HB0.out _) _⟩
        · have hkI : ¬ (k : Int) < (m : Int) := by omega
          have HV : Hid (alkB m N O C a b = true) := hid0 (HCe.out (fun c hc => HE.out c (by omega)))
          go_wp2
          go_ret
          exact ⟨by rw [HV.out]; rfl, below_drew' HB0.out _⟩
    · have HV : Hid (alkB m N O C a b = false) := hid0 (by unfold alkB; rw [decide_eq_false hcl, Bool.and_false]; rfl)
      have hcl2 : ¬ ((C.getD a 0 : Nat) : Int) = ((C.getD b 0 : Nat) : Int) := by omega
      clear hcl
      generalize C.getD a 0 = ca at *
      generalize C.getD b 0 = cb at *
      have hs1 : (((ca : Nat) : Int) != ((cb : Nat) : Int)) = true := by simp; omega
      have hs2 : (((ca : Nat) : Int) == ((cb : Nat) : Int)) = false := by simp; omega
      go_enter Tryd.func26, Tryd.ntmps26
      go_wp2
      go_quiet ((go_at_call 40; exact (HS.out _).mono (fun _ _ h => ⟨h.1, drew_more0 h.2⟩)))
      go_wp2
      go_quiet ((fail))
      go_wp2
      go_ret
      exact ⟨by rw [HV.out]; rfl, below_drew' (below_drew' HB0.out _) _⟩
  · have HV : Hid (alkB m N O C a b = false) := hid0 (by unfold alkB; rw [decide_eq_false ht]; rfl)
    rw [decide_eq_false ht] at HS
    clear ht HT
    generalize (outF O a).length = la at *
    generalize (outF O b).length = lb at *
    go_enter Tryd.func26, Tryd.ntmps26
    go_wp2
    go_quiet ((go_at_call 40; exact (HS.out _).mono (fun _ _ h => ⟨h.1, drew_more0 h.2⟩)))
    go_wp2
    go_quiet ((fail))
    go_wp2
    go_ret
    exact ⟨by rw [HV.out]; rfl, below_drew' (below_drew' HB0.out _) _⟩
end Go.Proofs.YtjmmckkiicefhaaDoor
namespace Go.Proofs.YtjmmckkiicefhaaDoor
open Go.RowKit Go.Shelf
theorem alkB_iff {m : Nat} {N O : List (List Int)} {C : List Nat} {a b : Nat} : alkB m N O C a b = true ↔ alk m (clF N m) (outF O) (fun i => C.getD i 0) a b := by
  unfold alkB alk
  simp only [Bool.and_eq_true, decide_eq_true_eq, List.all_eq_true, List.mem_range]
  constructor
  · rintro ⟨⟨h1, h2⟩, h3⟩
    exact ⟨h1, h2, fun c hc => by rw [clF_at N a hc, clF_at N b hc]; exact h3 c hc⟩
  · rintro ⟨h1, h2, h3⟩
    exact ⟨⟨h1, h2⟩, fun c hc => by have := h3 c hc; rw [clF_at N a hc, clF_at N b hc] at this; exact this⟩
/-- The first that is alike, of those gone through. -/
structure FsA (m : Nat) (N O : List (List Int)) (C : List Nat) (i k f : Nat) : Prop where
  le : k ≤ f ∧ f ≤ i
  is : alk m (clF N m) (outF O) (fun i => C.getD i 0) f i
  no : ∀ j, k ≤ j → j < f → ¬ alk m (clF N m) (outF O) (fun i => C.getD i 0) j i
theorem FsA.begin (m : Nat) (N O : List (List Int)) (C : List Nat) (i : Nat) : FsA m N O C i i i := ⟨⟨Nat.le_refl _, Nat.le_refl _⟩, alk.self _ _ _ _ _, fun j h1 h2 => by omega⟩
theorem FsA.take {m : Nat} {N O : List (List Int)} {C : List Nat} {i k f : Nat} (h : FsA m N O C i (k + 1) f) (hb : alkB m N O C k i = true) : FsA m N O C i k k := ⟨⟨Nat.le_refl _, by have := h.le; omega⟩, alkB_iff.1 hb, fun j h1 h2 => by omega⟩
theorem FsA.pass {m : Nat} {N O : List (List Int)} {C : List Nat} {i k f : Nat} (h : FsA m N O C i (k + 1) f) (hb : alkB m N O C k i = false) : FsA m N O C i k f := ⟨⟨by have := h.le; omega, h.le.2⟩, h.is, fun j h1 h2 => by
  by_cases e : j = k
  · rw [e]
    intro ha
    rw [alkB_iff.2 ha] at hb
    cases hb
  · exact h.no j (by omega) h2⟩
/-- New classes, of the first states. -/
def ParI (m : Nat) (N O : List (List Int)) (C D : List Nat) (k : Nat) : Prop := D.length = k ∧ ∀ i, i < k → FsA m N O C i 0 (D.getD i 0)
theorem ParI.snoc {m : Nat} {N O : List (List Int)} {C D : List Nat} {k f : Nat} (h : ParI m N O C D k) (hf : FsA m N O C k 0 f) : ParI m N O C (D ++ [f]) (k + 1) := by
  refine ⟨by rw [List.length_append, h.1]; rfl, fun i hi => ?_⟩
  by_cases e : i = k
  · subst e
    have : (D ++ [f]).getD i 0 = f := by rw [← h.1]; exact getD_new D f
    rw [this]
    exact hf
  · have : (D ++ [f]).getD i 0 = D.getD i 0 := getD_old (by rw [h.1]; omega)
    rw [this]
    exact h.2 i (by omega)
theorem ParI.par {m : Nat} {N O : List (List Int)} {C D : List Nat} {n : Nat} (h : ParI m N O C D n) : Par n m (clF N m) (outF O) (fun i => C.getD i 0) (fun i => D.getD i 0) := ⟨fun i hi => (h.2 i hi).le.2, fun i hi => (h.2 i hi).is, fun i hi k hk => (h.2 i hi).no k (Nat.zero_le _) hk⟩
set_option maxRecDepth 10000 in
set_option maxHeartbeats 3200000 in
theorem refParted_any (st : Int) (m : Nat) (N O : List (List Int)) (C : List Nat) (aN aO aC : Option Addr) (cN cO cC : Nat) (w : World) (hm : May st N O m) (hC : C.length = N.length) (hnb : N.length ≤ 2200000) (hmb : m ≤ 2200000) (hOr : ∀ r ∈ O, r.length ≤ 2200000) (rN : RwA w aN N) (rO : RwA w aO O) (rC : IA w aC (natI C)) :
    Calls Tryd.prog 16 #[.agg #[.int .i64 st, .slice aN N.length cN, .slice aO O.length cO], .slice aC N.length cC, .int .i64 (m : Int)] w fun e w' => ∃ (D : List Nat) (aD : Option Addr) (cD : Nat), e = .returned (.slice aD N.length cD) ∧ ParI m N O C D N.length ∧ OwnI w' w.heap.size (.slice aD N.length cD) (natI D) ∧ Below w.heap.size w w' := by
  obtain ⟨j0, hj, hy0, hy1, hy2⟩ := info_parts infoInt
  obtain ⟨w0, hw0⟩ : ∃ w0, w0 = w.alloc (.cells #[.int .i64 st, .slice aN N.length cN, .slice aO O.length cO] 24) := ⟨_, rfl⟩
  have hB0 : Below w.heap.size w w0 := by rw [hw0]; exact below_alloc _ _
  have hX0 : MBox w0 w.heap.size st (.slice aN N.length cN) (.slice aO O.length cO) := by rw [hw0]; exact MBox.new _ _ _ _
  have HAl : Hid (∀ V : World, Below w0.heap.size w0 V → (V.cell? ⟨w.heap.size, 0, none⟩ = some (.int .i64 st) ∧ V.cell? ⟨w.heap.size, 1, none⟩ = some (.slice aN N.length cN) ∧ V.cell? ⟨w.heap.size, 2, none⟩ = some (.slice aO O.length cO)) ∧ Below w.heap.size w V) := hid0 (fun V hV => ⟨(hX0.past hV).c, Below.later hB0 hV⟩)
  have HAk : Hid (∀ (V : World) (a b : Nat), Below w0.heap.size w0 V → a < N.length → b < N.length → Calls Tryd.prog 26 #[.agg #[.int .i64 st, .slice aN N.length cN, .slice aO O.length cO], .slice aC N.length cC, .int .i64 (a : Int), .int .i64 (b : Int), .int .i64 (m : Int)] V fun e w' => e = .returned (.bool (alkB m N O C a b)) ∧ Below V.heap.size V w') := hid0 (fun V a b hV ha hb => by
    have h := Below.later hB0 hV
    exact alike_any st m a b N O C aN aO aC cN cO cC V hm hC ha hb hnb hmb hOr (rN.past h) (rO.past h) (rC.past h))
  obtain ⟨x0, x1, x2⟩ := (HAl.out w0 (below_refl0 w0)).1
  have q0 := hw0.symm
  have HLo := hid0 hB0.size
  clear hw0 hB0 hX0 rN rO rC hm hOr hC
  go_enter Tryd.func16, Tryd.ntmps16
  go_wp2
  clear q0 x0 x1 x2
  go_loopw [7, 8] (fun v i wr => ∃ (i' : Nat) (D : List Nat), i' ≤ N.length ∧ i = .int .i64 (i' : Int) ∧ Hid (OwnI wr w0.heap.size v (natI D)) ∧ Hid (ParI m N O C D i') ∧ Hid (Below w0.heap.size w0 wr)) (fun _ i _ => N.length - (intOf i).toNat)
  case atStart => exact ⟨0, [], Nat.zero_le _, rfl, hid0 (World.ownsRow_nil _ _ _ _), hid0 ⟨rfl, fun i h => absurd h (Nat.not_lt_zero _)⟩, hid0 (Below.refl _ _)⟩
  case round =>
    obtain ⟨i', D, hi', rfl, HO, HP, HB⟩ := hrel
    obtain ⟨wi, hwi⟩ : ∃ wi, wi = wr := ⟨_, rfl⟩
    subst hwi
    obtain ⟨x0, x1, x2⟩ := (HAl.out wi HB.out).1
    have hDl := HP.out.1
    have HOk : Hid (wi.ownsRow w0.heap.size 3 1 u7 i' ((natI D).map (Value.int .i64))) := hid0 (by have h := HO.out; unfold OwnI at h; rw [natI_len, hDl] at h; exact h)
    have HDl := hid0 hDl
    clear HO hDl
    obtain ⟨av, cv, ev⟩ := own_sl HOk.out
    subst ev
    by_cases hlt : i' < N.length
    · have hiI : (i' : Int) < (N.length : Int) := by omega
      go_wp2
      clear x0 x1 x2
      go_loopw [9, 10] (fun f k wr => ∃ (k' f' : Nat) (z : Int), k' ≤ i' ∧ Hid ((k' : Int) = z + 1) ∧ k = .int .i64 z ∧ f = .int .i64 (f' : Int) ∧ Hid (FsA m N O C i' k' f') ∧ Hid (Below wi.heap.size wi wr)) (fun _ k _ => (intOf k + 1).toNat)
      case atStart => exact ⟨i', i', (i' : Int) - 1, Nat.le_refl _, hid0 (by omega), by go_num, rfl, hid0 (FsA.begin m N O C i'), hid0 (Below.refl _ _)⟩
      case round =>
        obtain ⟨k', f', z, hk', HZ, rfl, rfl, HF, HBk⟩ := hrel
        have HBw := hid0 (Below.later HB.out HBk.out)
        have hbk := HBk.out.size
        obtain ⟨x0, x1, x2⟩ := (HAl.out wr HBw.out).1
        cases k' with
        | zero =>
          have hk0 : ¬ z ≥ 0 := by have := HZ.out; omega
          have hk1 : z < 0 := by omega
          have hfb := HF.out.le.2
          have HPs := hid0 (HP.out.snoc HF.out)
          have HQe := hid0 (natI_snoc D f')
          have hb0 := HB.out.size
          have HOw : Hid (wr.ownsRow w0.heap.size 3 1 (.slice av i' cv) i' ((natI D).map (Value.int .i64))) := hid0 (row_later HOk.out HBk.out)
          go_wp2_with (at_builtin; go_loud ((
            refine wpList_append_own_at _ rfl _ _ 25 rfl w0.heap.size 3 j0 (.int .i64 0) 1 8 Tryd.underlying25 hj hy0 hy1 hy2 rfl (by decide) (.slice av i' cv) i' ((natI D).map (Value.int .i64)) rfl (World.ownsRow.alloc HOw.out _) ⟨wr.heap.size, 0, none⟩ 1 1 [.int .i64 (f' : Int)] rfl rfl (cell_one_new _ _ _) (by simp [Value.oneCell']) (by unfold maxLen; omega) (by omega) (by simp; omega) ?_
            intro v2 w3 hown2 hgrow2 _ _
            have HB3 := hid0 (own_snoc HOw.out hgrow2 HBw.out (Nat.le_refl _))
            have HO3 : Hid (OwnI w3 w0.heap.size v2 (natI (D ++ [f']))) := hid0 (by unfold OwnI; rw [HQe.out, List.length_append, natI_len, HDl.out, List.map_append]; exact hown2)
            clear hown2 hgrow2)))
          go_roundw
          case rel => exact ⟨i' + 1, D ++ [f'], by omega, by go_num, HO3, HPs, HB3⟩
          case measure => simp [intOf]; omega
        | succ k' =>
          obtain rfl : z = (k' : Int) := by have := HZ.out; omega
          have hk0 : (k' : Int) ≥ 0 := by omega
          have hk1 : (0 : Int) ≤ (k' : Int) := by omega
          have HCk := hid0 (HAk.out wr k' i' HBw.out (by omega) hlt)
          cases hb : alkB m N O C k' i' with
          | true =>
            have HF2 := hid0 (HF.out.take hb)
            rw [hb] at HCk
            clear hb
            go_wp2_with (go_at_call 26; go_loud ((refine HCk.out.mono ?_; rintro e w3 ⟨rfl, hb3⟩; have HB3 := hid0 (Below.later HBk.out hb3); clear hb3)))
            go_roundw
            case rel => exact ⟨k', k', (k' : Int) - 1, by omega, hid0 (by omega), by go_num, rfl, HF2, HB3⟩
            case measure => simp [intOf]
          | false =>
            have HF2 := hid0 (HF.out.pass hb)
            rw [hb] at HCk
            clear hb
            go_wp2_with (go_at_call 26; go_loud ((refine HCk.out.mono ?_; rintro e w3 ⟨rfl, hb3⟩; have HB3 := hid0 (Below.later HBk.out hb3); clear hb3)))
            go_roundw
            case rel => exact ⟨k', f', (k' : Int) - 1, by omega, hid0 (by omega), by go_num, rfl, HF2, HB3⟩
            case measure => simp [intOf]
    · have hiI : ¬ (i' : Int) < (N.length : Int) := by omega
      have ei : i' = N.length := by omega
      have HFin : Hid (ParI m N O C D N.length ∧ OwnI wi w.heap.size (.slice av N.length cv) (natI D) ∧ Below w.heap.size w wi) := hid0 (by
        refine ⟨by have h := HP.out; rw [ei] at h; exact h, ?_, (HAl.out wi HB.out).2⟩
        have h : OwnI wi w0.heap.size (.slice av i' cv) (natI D) := by unfold OwnI; rw [natI_len, HDl.out]; exact HOk.out
        rw [ei] at h
        exact owns_lower h HLo.out)
      rw [ei]
      clear ei
      go_wp2
      go_ret
      exact ⟨D, av, cv, rfl, HFin.out⟩
end Go.Proofs.YtjmmckkiicefhaaDoor
namespace Go.Proofs.YtjmmckkiicefhaaDoor
open Go.RowKit Go.Shelf
/-- A machine is stored over another. -/
structure LaidG (W v1 v2 v3 : World) (R : Nat) (p q r y a b : Value) : Prop where
  g1 : W.setCell ⟨R, 0, none⟩ y = v1
  g2 : v1.setCell ⟨R, 1, none⟩ a = v2
  g3 : v2.setCell ⟨R, 2, none⟩ b = v3
  z : W.cell? ⟨R, 0, none⟩ = some p ∧ W.cell? ⟨R, 1, none⟩ = some q ∧ W.cell? ⟨R, 2, none⟩ = some r
  a1 : v1.cell? ⟨R, 1, none⟩ = some q
  a2 : v2.cell? ⟨R, 2, none⟩ = some r
  f0 : ∀ k, W.frozen? ⟨R, k, none⟩ = false
  f1 : ∀ k, v1.frozen? ⟨R, k, none⟩ = false
  f2 : ∀ k, v2.frozen? ⟨R, k, none⟩ = false
  row : v3.heap[R]? = some (.cells #[y, a, b] 24 (0, 0))
  only : Only W v3 (fun k => k = R)
theorem laidG {W : World} {R : Nat} {p q r : Value} (y a b : Value) (hrb : W.heap[R]? = some (.cells #[p, q, r] 24 (0, 0))) : ∃ v1 v2 v3, LaidG W v1 v2 v3 R p q r y a b := by
  have r1 := heap_setCell_same W R 0 _ _ y hrb
  have r2 := heap_setCell_same _ R 1 _ _ a r1
  have r3 := heap_setCell_same _ R 2 _ _ b r2
  refine ⟨_, _, _, rfl, rfl, rfl, ⟨?_, ?_, ?_⟩, ?_, ?_, fun k => by simp [World.frozen?, hrb], fun k => by simp [World.frozen?, r1], fun k => by simp [World.frozen?, r2], r3, ((Only.setCell _ _ _ _).trans (Only.setCell _ _ _ _) (fun _ h => .inl h)).trans (Only.setCell _ _ _ _) (fun _ h => .inl h)⟩
  all_goals first
    | (rw [cell_of_row _ _ _ _ _ _ hrb]; rfl)
    | (rw [cell_of_row _ _ _ _ _ _ r1]; rfl)
    | (rw [cell_of_row _ _ _ _ _ _ r2]; rfl)
/-- The list of lists that is made, in a box whose third cell is what it is. -/
structure MkJ (W : World) (lo X : Nat) (st : Int) (vN vO : Value) (pN : Lot) : Prop where
  box : W.heap[X]? = some (.cells #[.int .i64 st, vN, vO] 24 (0, 0))
  bN : Bag W lo vN pN
  loX : lo ≤ X
theorem MkJ.past {W W' : World} {lo X : Nat} {st : Int} {vN vO : Value} {pN : Lot} (h : MkJ W lo X st vN vO pN) (hb : Below W.heap.size W W') : MkJ W' lo X st vN vO pN := ⟨(hb.block _ (Array.getElem?_eq_some_iff.1 h.box).1).trans h.box, h.bN.later hb, h.loX⟩
theorem MkJ.addN {wr w1 : World} {lo X : Nat} {st : Int} {vN vO v' x : Value} {pN : Lot} {l : List Int} {o : Obj} (h : MkJ wr lo X st vN vO pN) (hx : OwnI wr lo x l) (hxr : ∀ y ∈ pN, ∀ g, y.1.ownBlock = some g → x.ownBlock ≠ some g)
    (hown' : w1.ownsRow lo 25 1 v' (pN.length + 1) (pN.map (·.1) ++ [x])) (hgrow : (wr.alloc o).grownBy w1 vN.ownBlock) (hat : v'.ownBlock = vN.ownBlock ∨ v'.ownBlock = some (wr.alloc o).heap.size) :
    w1.heap[X]? = some (.cells #[.int .i64 st, vN, vO] 24 (0, 0)) ∧ MkJ (w1.setCell ⟨X, 1, none⟩ v') lo X st v' vO (pN ++ [(x, l)]) ∧ FrM wr (w1.setCell ⟨X, 1, none⟩ v') lo X := by
  have hfr : FrM wr (w1.setCell ⟨X, 1, none⟩ v') lo X := grown_fr h.bN.outer hgrow h.loX
  have hXlt := (Array.getElem?_eq_some_iff.1 h.box).1
  have hb1 : w1.heap[X]? = some (.cells #[.int .i64 st, vN, vO] 24 (0, 0)) := by
    rw [hgrow.block X (by simp; omega) (fun hv => by
      obtain ⟨c2, k2⟩ := own_ty h.bN.outer hv.symm
      exact blk_ne h.box k2 (by decide) rfl), Below.heap_alloc wr o X hXlt]
    exact h.box
  have bN1 := h.bN.snoc2 hx hxr hown' hgrow hat
  exact ⟨hb1, ⟨heap_setCell_same w1 X 1 _ _ v' hb1, bN1.only2 (Only.setCell w1 X 1 v') hb1, h.loX⟩, hfr⟩
theorem MkJ.c {W : World} {lo X : Nat} {st : Int} {vN vO : Value} {pN : Lot} (h : MkJ W lo X st vN vO pN) : W.cell? ⟨X, 0, none⟩ = some (.int .i64 st) ∧ W.cell? ⟨X, 1, none⟩ = some vN ∧ W.cell? ⟨X, 2, none⟩ = some vO ∧ ∀ k, W.frozen? ⟨X, k, none⟩ = false := by
  refine ⟨?_, ?_, ?_, fun k => by simp [World.frozen?, h.box]⟩ <;> (rw [cell_of_row _ _ _ _ _ _ h.box]; rfl)
/-- A bag's lists: those without memory have no room. -/
theorem Bag.rwn {w : World} {base : Nat} {a : Option Addr} {l c : Nat} {ps : Lot} (h : Bag w base (.slice a l c) ps) : RwN w a (ps.map (·.2)) := ⟨fun k hk => by
  have hk' : k < ps.length := by simpa using hk
  obtain ⟨g, cap, e, _, hgl, _⟩ := own_form h.outer (by omega)
  injection e with e1 e2 e3
  subst e1
  subst e2
  subst e3
  have hc := World.ownsRow.cellAt h.outer k (by omega)
  rw [List.getElem?_map, List.getElem?_eq_getElem hk'] at hc
  have hx := h.row ps[k] (List.getElem_mem hk')
  have e2 : (ps.map (·.2))[k] = ps[k].2 := by simp
  rw [e2]
  rcases hx.2 with ⟨e3, hn⟩ | ⟨g2, cap2, cur, e3, _⟩
  · refine ⟨g, 0, rfl, hgl, none, 0, ?_, ⟨fun j hj => by omega⟩, fun _ => rfl⟩
    rw [Nat.zero_add, hc, hn, ← e3]
    rfl
  · obtain ⟨a3, c3, e4, hi⟩ := OwnI.ia hx
    rw [e3] at e4
    injection e4 with e5 _ e7
    refine ⟨g, 0, rfl, hgl, some ⟨g2, 0, none⟩, cap2, ?_, by rw [e5]; exact hi, fun h => by cases h⟩
    rw [Nat.zero_add, hc, ← e3]
    rfl⟩
theorem DbB.rwn {lo : Nat} {W : World} {aD aE : Option Addr} {lD lE cD cE : Nat} {ND OD : List (List Int)} (h : DbB lo W (.slice aD lD cD) (.slice aE lE cE) ND OD) : RwN W aD ND ∧ RwN W aE OD := by
  obtain ⟨pD, pE, h1, h2, rfl, rfl⟩ := h
  exact ⟨h1.rwn, h2.rwn⟩
/-- The classes of the rounds so far. -/
def RdI (n m : Nat) (N O : List (List Int)) (C : List Nat) (r : Nat) : Prop := C.length = n ∧ ∃ cs : Nat → Nat → Nat, Rnd n m (clF N m) (outF O) cs r ∧ cs r = fun i => C.getD i 0
theorem RdI.zero (n m : Nat) (N O : List (List Int)) : RdI n m N O (List.replicate n 0) 0 := ⟨by simp, fun _ _ => 0, ⟨fun _ => rfl, fun q h => absurd h (Nat.not_lt_zero _)⟩, by
  funext i
  rw [List.getD_eq_getElem?_getD, List.getElem?_replicate]
  split <;> rfl⟩
theorem RdI.step {m : Nat} {N O : List (List Int)} {C D : List Nat} {r : Nat} (h : RdI N.length m N O C r) (hp : ParI m N O C D N.length) : RdI N.length m N O D (r + 1) := by
  obtain ⟨_, cs, h1, h2⟩ := h
  refine ⟨hp.1, fun q i => if q = r + 1 then D.getD i 0 else cs q i, ⟨fun i => ?_, fun q hq => ?_⟩, ?_⟩
  · rw [if_neg (by omega)]
    exact h1.zero i
  · by_cases e : q = r
    · subst e
      have e1 : (fun i => if q = q + 1 then D.getD i 0 else cs q i) = fun i => C.getD i 0 := by
        funext i
        rw [if_neg (by omega), h2]
      have e2 : (fun i => if q + 1 = q + 1 then D.getD i 0 else cs (q + 1) i) = fun i => D.getD i 0 := by
        funext i
        rw [if_pos rfl]
      show Par N.length m (clF N m) (outF O) (fun i => if q = q + 1 then D.getD i 0 else cs q i) (fun i => if q + 1 = q + 1 then D.getD i 0 else cs (q + 1) i)
      rw [e1, e2]
      exact hp.par
    · have e1 : (fun i => if q = r + 1 then D.getD i 0 else cs q i) = cs q := by
        funext i
        rw [if_neg (by omega)]
      have e2 : (fun i => if q + 1 = r + 1 then D.getD i 0 else cs (q + 1) i) = cs (q + 1) := by
        funext i
        rw [if_neg (by omega)]
      show Par N.length m (clF N m) (outF O) (fun i => if q = r + 1 then D.getD i 0 else cs q i) (fun i => if q + 1 = r + 1 then D.getD i 0 else cs (q + 1) i)
      rw [e1, e2]
      exact h1.step q (by omega)
  · funext i
    show (if r + 1 = r + 1 then D.getD i 0 else cs (r + 1) i) = D.getD i 0
    rw [if_pos rfl]
/-- Behind all rounds. -/
theorem RdI.done {m : Nat} {N O : List (List Int)} {C : List Nat} (h : RdI N.length m N O C (N.length + 1)) (hn : 0 < N.length) (hF : ∀ i c, i < N.length → c < m → clF N m (i * m + c) < N.length) : Cls m N.length (clF N m) (outF O) (fun i => C.getD i 0) ∧ (∀ i, i < N.length → C.getD i 0 ≤ i) ∧ ∀ i, i < N.length → C.getD (C.getD i 0) 0 = C.getD i 0 := by
  obtain ⟨_, cs, h1, h2⟩ := h
  have h3 := h1.cls hn hF
  have h4 := h1.step N.length (by omega)
  rw [h2] at h3 h4
  exact ⟨h3, h4.le, fun i hi => h4.idem hi⟩
theorem cls_conv {n m : Nat} {F g cl : Nat → Nat} {O : List (List Int)} (hF : ∀ i c, i < n → c < m → F (i * m + c) < n) (h : Cls m n (clF (rnN n m F) m) (outF (rnO n O g)) cl) : Cls m n F (fun i => outF O (g i)) cl := by
  have e1 : ∀ i c, i < n → c < m → clF (rnN n m F) m (i * m + c) = F (i * m + c) := fun i c hi hc => by rw [clF_at _ i hc, rnN_at hi hc]
  refine ⟨fun s t hs ht e => ?_, fun s t hs ht e c hc => ?_, fun s t hs ht hl => ?_⟩
  · have := h.told s t hs ht e
    rw [rnO_at hs, rnO_at ht] at this
    exact this
  · have := h.next s t hs ht e c hc
    rw [e1 s c hs hc, e1 t c ht hc] at this
    exact this
  · refine h.wide s t hs ht (fun u hu => ?_)
    have k : ∀ s, s < n → runW (fun x c => clF (rnN n m F) m (x * m + c)) s u = runW (fun x c => F (x * m + c)) s u := fun s hs => runW_id (n := n) (m := m) hF e1 u s hs hu
    have r : ∀ s, s < n → runW (fun x c => F (x * m + c)) s u < n := fun s hs => runW_in hF u s hs hu
    rw [k s hs, k t ht, rnO_at (r s hs), rnO_at (r t ht)]
    exact hl u hu
/-- The rows of the joined machine. -/
def jnL (L FN C : List Nat) (m : Nat) : List (List Int) := rnN L.length m (fun i => C.getD (Fl FN i) 0)
theorem doc_fin {m st : Nat} {N O : List (List Int)} {L FN C L2 FN2 : List Nat} (hmay : mayF (st : Int) N O (m : Int) = true) (h1 : BfI m st N L FN L.length 0) (hr : RdI L.length m (rnN L.length m (Fl FN)) (rnO L.length O (Lg1 L)) C (L.length + 1)) (h2 : BfI m 0 (jnL L FN C m) L2 FN2 L2.length 0) :
    Lst m (st : Int) N O (rnN L2.length m (Fl FN2)) (rnO L2.length (rnO L.length O (Lg1 L)) (Lg1 L2)) := by
  have hw := h1.done rfl
  have hw2 := h2.done rfl
  have hl := (rn_len L.length m (Fl FN) O (Lg1 L)).1
  have hF := hw.fl
  have hF2 : ∀ i c, i < L.length → c < m → clF (rnN L.length m (Fl FN)) m (i * m + c) < L.length := fun i c hi hc => by rw [clF_at _ i hc, rnN_at hi hc]; exact hF i c hi hc
  obtain ⟨hc0, cs, hc1, hc2⟩ := hr
  have hr2 : RdI (rnN L.length m (Fl FN)).length m (rnN L.length m (Fl FN)) (rnO L.length O (Lg1 L)) C ((rnN L.length m (Fl FN)).length + 1) := by rw [hl]; exact ⟨hc0, cs, hc1, hc2⟩
  obtain ⟨k1, k2, k3⟩ := hr2.done (by rw [hl]; exact hw.pos) (by rw [hl]; exact hF2)
  rw [hl] at k1 k2 k3
  exact doc_lst hmay hw (cls_conv hF k1) k2 k3 hw2 (fun p q hp hq e => by
    unfold Lg1 at e
    rw [List.getD_eq_getElem?_getD, List.getElem?_eq_getElem hp, List.getD_eq_getElem?_getD, List.getElem?_eq_getElem hq] at e
    exact (List.getElem_inj h2.nd).1 e)
theorem rnO_rows {n : Nat} {O : List (List Int)} {g : Nat → Nat} (h : ∀ r ∈ O, r.length ≤ 2200000) : ∀ r ∈ rnO n O g, r.length ≤ 2200000 := fun r hr => by
  obtain ⟨i, _, rfl⟩ := List.mem_map.1 hr
  exact outF_le h
/-- The joined machine may be one. -/
theorem join_may {m st : Nat} {N O : List (List Int)} {L FN C : List Nat} (hmay : mayF (st : Int) N O (m : Int) = true) (h1 : BfI m st N L FN L.length 0) (hr : RdI L.length m (rnN L.length m (Fl FN)) (rnO L.length O (Lg1 L)) C (L.length + 1)) : mayF 0 (jnL L FN C m) (rnO L.length O (Lg1 L)) (m : Int) = true ∧ C.getD 0 0 = 0 ∧ C.length = L.length := by
  have hw := h1.done rfl
  have hl := (rn_len L.length m (Fl FN) O (Lg1 L)).1
  have hl2 := (rn_len L.length m (Fl FN) O (Lg1 L)).2
  have hF := hw.fl
  have hF2 : ∀ i c, i < L.length → c < m → clF (rnN L.length m (Fl FN)) m (i * m + c) < L.length := fun i c hi hc => by rw [clF_at _ i hc, rnN_at hi hc]; exact hF i c hi hc
  have hr2 : RdI (rnN L.length m (Fl FN)).length m (rnN L.length m (Fl FN)) (rnO L.length O (Lg1 L)) C ((rnN L.length m (Fl FN)).length + 1) := by rw [hl]; exact hr
  obtain ⟨k1, k2, k3⟩ := hr2.done (by rw [hl]; exact hw.pos) (by rw [hl]; exact hF2)
  rw [hl] at k2
  have hjl : (jnL L FN C m).length = L.length := (rn_len L.length m (fun i => C.getD (Fl FN i) 0) O (Lg1 L)).1
  have hp := hw.pos
  refine ⟨mayF_of (by omega) (by omega) ?_ ?_ (upF_rise (hw.may hmay)), by have := k2 0 hp; omega, hr.1⟩
  · intro r hr
    obtain ⟨i, hi, rfl⟩ := List.mem_map.1 hr
    simp
  · intro r hr z hz
    obtain ⟨i, hi, rfl⟩ := List.mem_map.1 hr
    obtain ⟨c, hcm, rfl⟩ := List.mem_map.1 hz
    have h9 := hF i c (List.mem_range.1 hi) (List.mem_range.1 hcm)
    have h10 := k2 _ h9
    rw [hjl]
    show (0 : Int) ≤ ((C.getD (Fl FN (i * m + c)) 0 : Nat) : Int) ∧ ((C.getD (Fl FN (i * m + c)) 0 : Nat) : Int) < (L.length : Int)
    omega
end Go.Proofs.YtjmmckkiicefhaaDoor
namespace Go.Proofs.YtjmmckkiicefhaaDoor
open Go.RowKit Go.Shelf
/-- What the document's Of answers, where the machine may be one. -/
def DofR (w w' : World) (m s0 : Nat) (N O : List (List Int)) (e : Ending) : Prop := ∃ (N2 O2 : List (List Int)) (aD aE : Option Addr) (cD cE : Nat), e = .returned (.tuple #[.agg #[.int .i64 0, .slice aD N2.length cD, .slice aE O2.length cE], .int .i64 0]) ∧ Lst m (s0 : Int) N O N2 O2 ∧ DbB w.heap.size w' (.slice aD N2.length cD) (.slice aE O2.length cE) N2 O2 ∧ Below w.heap.size w w'
set_option maxRecDepth 10000 in
set_option maxHeartbeats 1000000 in
theorem refOf_yes (s0 m : Nat) (N O : List (List Int)) (aN aO : Option Addr) (cN cO : Nat) (w : World) (hmay : mayF (s0 : Int) N O (m : Int) = true) (hs : SmlO N O) (rN : RwA w aN N) (rO : RwN w aO O) :
    Calls Tryd.prog 6 #[.agg #[.int .i64 (s0 : Int), .slice aN N.length cN, .slice aO O.length cO], .int .i64 (m : Int)] w fun e w' => DofR w w' m s0 N O e := by
  obtain ⟨j0, hj, hy0, hy1, hy2⟩ := info_parts infoInt
  obtain ⟨i0, hi, hz0, hz1, hz2⟩ := info_parts infoInts
  obtain ⟨n', hn', hm⟩ := mayF_may hmay
  obtain rfl : m = n' := by omega
  obtain ⟨w0, hw0⟩ : ∃ w0, w0 = w.alloc (.cells #[.int .i64 (s0 : Int), .slice aN N.length cN, .slice aO O.length cO] 24) := ⟨_, rfl⟩
  obtain ⟨w1, hw1⟩ : ∃ w1, w1 = w0.alloc (.cells #[.int .i64 0, .slice none 0 0, .slice none 0 0] 24) := ⟨_, rfl⟩
  have hB0 : Below w.heap.size w w0 := by rw [hw0]; exact below_alloc _ _
  have hB1 : Below w0.heap.size w0 w1 := by rw [hw1]; exact below_alloc _ _
  have hs0 : w0.heap.size = w.heap.size + 1 := by rw [hw0]; simp
  have hX0 : MBox w1 w.heap.size (s0 : Int) (.slice aN N.length cN) (.slice aO O.length cO) := by
    have h : MBox w0 w.heap.size (s0 : Int) (.slice aN N.length cN) (.slice aO O.length cO) := by rw [hw0]; exact MBox.new _ _ _ _
    exact h.past hB1
  have hR1 : w1.heap[w0.heap.size]? = some (.cells #[.int .i64 0, .slice none 0 0, .slice none 0 0] 24 (0, 0)) := by rw [hw1]; exact heap_alloc_new _ _
  have HAl : Hid (∀ V : World, Below w1.heap.size w1 V → RwA V aN N ∧ RwN V aO O ∧ MBox V w.heap.size (s0 : Int) (.slice aN N.length cN) (.slice aO O.length cO) ∧ V.heap[w0.heap.size]? = some (.cells #[.int .i64 0, .slice none 0 0, .slice none 0 0] 24 (0, 0)) ∧ Below w.heap.size w V) := hid0 (fun V hV => by
    have h := Below.later (Below.later hB0 hB1) hV
    exact ⟨rN.past h, rO.past h, hX0.past hV, (hV.block _ (Array.getElem?_eq_some_iff.1 hR1).1).trans hR1, h⟩)
  obtain ⟨big1, big2, big3⟩ := hs.big
  obtain ⟨f1, f2, f3⟩ := hs.facts hmay
  have HMb : Hid (Calls Tryd.prog 14 #[.agg #[.int .i64 (s0 : Int), .slice aN N.length cN, .slice aO O.length cO], .int .i64 (m : Int)] w1 fun e w' => e = .returned (.bool true) ∧ Below w1.heap.size w1 w') := hid0 (by
    have h := refMayBe_any (s0 : Int) (m : Int) N O aN aO cN cO w1 big1 big2 big3 (HAl.out w1 (below_refl0 w1)).1 (HAl.out w1 (below_refl0 w1)).2.1.rwa
    rw [hmay] at h
    exact h)
  have HRn : Hid (∀ V : World, Below w1.heap.size w1 V → Calls Tryd.prog 15 #[.agg #[.int .i64 (s0 : Int), .slice aN N.length cN, .slice aO O.length cO], .int .i64 (m : Int)] V fun e w' => RenR V w' m s0 N O e) := hid0 (fun V hV => renamed_any s0 m N O aN aO cN cO V hm hs.n f2 hs.or (HAl.out V hV).1 (HAl.out V hV).2.1)
  have HMy := hid0 (And.intro hmay (And.intro hm hs))
  have HSz := hid0 hs0
  have hnb := hs.n
  have hmb := f2
  obtain ⟨x0, x1, x2⟩ := hX0.c
  have q0 := hw0.symm
  have q1 := hw1.symm
  clear hw0 hw1 hB0 hB1 hX0 hR1 rN rO hmay hm hs big1 big2 big3 f1 f2 f3 hs0 hn'
  go_enter Tryd.func6, Tryd.ntmps6
  go_upto_region 5 with (first
    | (go_at_call 14; go_loud ((refine HMb.out.mono ?_; rintro e w2 ⟨rfl, hb2⟩; have HB2 := hid0 hb2; obtain ⟨y0, y1, y2⟩ := (HAl.out w2 hb2).2.2.1.c; clear hb2 x0 x1 x2)))
    | (go_at_call 15; go_loud ((refine (HRn.out w2 HB2.out).mono ?_; rintro e w3 ⟨L, FN, aD, aE, cD, cE, rfl, hdb, hbf, hb3⟩; have hb13 := Below.later HB2.out hb3; obtain ⟨v1, v2, v3, hl⟩ := laidG (.int .i64 0) (.slice aD L.length cD) (.slice aE L.length cE) (HAl.out w3 hb13).2.2.1.r; have HDb := hid0 (hdb.only2 hl.only (HAl.out w3 hb13).2.2.1.r); have HBf := hid0 hbf; have HB13 := hid0 hb13; have HLg := hid0 hl; have g1 := hl.g1; have g2 := hl.g2; have g3 := hl.g3; obtain ⟨z0, z1, z2⟩ := hl.z; have a1 := hl.a1; have a2 := hl.a2; have e0 := hl.f0; have e1 := hl.f1; have e2 := hl.f2; clear hl hdb hbf hb3 hb13 y0 y1 y2))))
  clear g1 g2 g3 z0 z1 z2 a1 a2 e0 e1 e2 q0 q1
  have hLn : L.length ≤ N.length := nodup_le _ _ HBf.out.nd HBf.out.lt
  have hLp : 0 < L.length := HBf.out.h0.2
  have HC4 : Hid (∀ V : World, Below v3.heap.size v3 V → (RwN V aD (rnN L.length m (Fl FN)) ∧ RwN V aE (rnO L.length O (Lg1 L))) ∧ (V.cell? ⟨w.heap.size, 0, none⟩ = some (.int .i64 0) ∧ V.cell? ⟨w.heap.size, 1, none⟩ = some (.slice aD L.length cD) ∧ V.cell? ⟨w.heap.size, 2, none⟩ = some (.slice aE L.length cE)) ∧ V.heap[w0.heap.size]? = some (.cells #[.int .i64 0, .slice none 0 0, .slice none 0 0] 24 (0, 0)) ∧ Below w.heap.size w V) := hid0 (fun V hV => by
    have h1 := (HDb.out.later hV).rwn
    have h2 : MBox v3 w.heap.size 0 (.slice aD L.length cD) (.slice aE L.length cE) := ⟨HLg.out.row⟩
    have h3 := (HAl.out w3 HB13.out)
    have h4 : v3.heap[w0.heap.size]? = some (.cells #[.int .i64 0, .slice none 0 0, .slice none 0 0] 24 (0, 0)) := (HLg.out.only.block _ (Array.getElem?_eq_some_iff.1 h3.2.2.2.1).1 (by have := HSz.out; omega)).trans h3.2.2.2.1
    have h5 : Below w.heap.size w v3 := h3.2.2.2.2.trans (HLg.out.only.below h3.2.2.2.2.size (fun k hk => by rw [hk]; exact Nat.le_refl _))
    exact ⟨h1, (h2.past hV).c, (hV.block _ (Array.getElem?_eq_some_iff.1 h4).1).trans h4, Below.later h5 hV⟩)
  have HPt : Hid (∀ (V : World) (C : List Nat) (aC : Option Addr) (cC : Nat), Below v3.heap.size v3 V → C.length = L.length → IA V aC (natI C) → Calls Tryd.prog 16 #[.agg #[.int .i64 0, .slice aD L.length cD, .slice aE L.length cE], .slice aC L.length cC, .int .i64 (m : Int)] V fun e w' => ∃ (D : List Nat) (a2 : Option Addr) (c2 : Nat), e = .returned (.slice a2 L.length c2) ∧ Hid (ParI m (rnN L.length m (Fl FN)) (rnO L.length O (Lg1 L)) C D L.length ∧ OwnI w' V.heap.size (.slice a2 L.length c2) (natI D)) ∧ Hid (Below V.heap.size V w')) := hid0 (fun V C aC cC hV hC hI => by
    have hl := rn_len L.length m (Fl FN) O (Lg1 L)
    obtain ⟨hmay, hm, hs⟩ := HMy.out
    obtain ⟨n2, hn2, hm1⟩ := mayF_may ((HBf.out.done rfl).may hmay)
    obtain rfl : m = n2 := by omega
    have h := refParted_any 0 m (rnN L.length m (Fl FN)) (rnO L.length O (Lg1 L)) C aD aE aC cD cE cC V hm1 (by rw [hl.1]; exact hC) (by rw [hl.1]; omega) hmb (rnO_rows hs.or) (HC4.out V hV).1.1.rwa (HC4.out V hV).1.2.rwa hI
    rw [hl.1, hl.2] at h
    exact h.mono (fun e w' hh => by
      obtain ⟨D, a2, c2, h1, h2, h3, h4⟩ := hh
      exact ⟨D, a2, c2, h1, hid0 ⟨h2, h3⟩, hid0 h4⟩))
  have HSt0 : Hid (∀ (C D : List Nat) (r : Nat), RdI L.length m (rnN L.length m (Fl FN)) (rnO L.length O (Lg1 L)) C r → ParI m (rnN L.length m (Fl FN)) (rnO L.length O (Lg1 L)) C D L.length → RdI L.length m (rnN L.length m (Fl FN)) (rnO L.length O (Lg1 L)) D (r + 1)) := hid0 (fun C D r hC hD => by
    have hl := (rn_len L.length m (Fl FN) O (Lg1 L)).1
    have h1 : RdI (rnN L.length m (Fl FN)).length m (rnN L.length m (Fl FN)) (rnO L.length O (Lg1 L)) C r := by rw [hl]; exact hC
    have h2 := h1.step (by rw [hl]; exact hD)
    rw [hl] at h2
    exact h2)
  have HZr := hid0 (RdI.zero L.length m (rnN L.length m (Fl FN)) (rnO L.length O (Lg1 L)))
  have HN1 : Hid ((rnN L.length m (Fl FN)).length = L.length ∧ (rnO L.length O (Lg1 L)).length = L.length ∧ (∀ i c, i < L.length → c < m → nxF (rnN L.length m (Fl FN)) i c = Fl FN (i * m + c) ∧ Fl FN (i * m + c) < L.length) ∧ (∀ i, i < L.length → (outF (rnN L.length m (Fl FN)) i).length = m)) := hid0 (by
    obtain ⟨h1, h2⟩ := rn_len L.length m (Fl FN) O (Lg1 L)
    refine ⟨h1, h2, fun i c hi hc => ⟨rnN_at hi hc, (HBf.out.done rfl).fl i c hi hc⟩, fun i hi => ?_⟩
    rw [outF, rnN, List.getD_eq_getElem?_getD, List.getElem?_map, List.getElem?_range hi]
    simp)
  have HJm : Hid (∀ C : List Nat, RdI L.length m (rnN L.length m (Fl FN)) (rnO L.length O (Lg1 L)) C (L.length + 1) → mayF 0 (jnL L FN C m) (rnO L.length O (Lg1 L)) (m : Int) = true ∧ C.getD 0 0 = 0 ∧ C.length = L.length) := hid0 (fun C hC => join_may HMy.out.1 HBf.out hC)
  have HFi : Hid (∀ C L2 FN2 : List Nat, RdI L.length m (rnN L.length m (Fl FN)) (rnO L.length O (Lg1 L)) C (L.length + 1) → BfI m 0 (jnL L FN C m) L2 FN2 L2.length 0 → Lst m (s0 : Int) N O (rnN L2.length m (Fl FN2)) (rnO L2.length (rnO L.length O (Lg1 L)) (Lg1 L2))) := hid0 (fun C L2 FN2 hC h2 => doc_fin HMy.out.1 HBf.out hC h2)
  have HOr := hid0 (rnO_rows (n := L.length) (g := Lg1 L) HMy.out.2.2.or)
  have HM1 : Hid (May 0 (rnN L.length m (Fl FN)) (rnO L.length O (Lg1 L)) m) := hid0 (by
    obtain ⟨n2, hn2, hm1⟩ := mayF_may ((HBf.out.done rfl).may HMy.out.1)
    obtain rfl : m = n2 := by omega
    exact hm1)
  obtain ⟨x0, x1, x2⟩ := (HC4.out v3 (below_refl0 v3)).2.1
  clear HLg HB13 HRn HMb HB2 HAl HDb
  generalize rnN L.length m (Fl FN) = N1 at *
  generalize rnO L.length O (Lg1 L) = O1 at *
  go_wp2
  clear x0 x1 x2
  go_loopw [7, 8] (fun v i wr => ∃ k : Nat, k ≤ L.length ∧ i = .int .i64 (k : Int) ∧ Hid (OwnI wr v3.heap.size v (List.replicate k 0)) ∧ Hid (Below v3.heap.size v3 wr)) (fun _ i _ => L.length - (intOf i).toNat)
  case atStart => exact ⟨0, Nat.zero_le _, rfl, hid0 (World.ownsRow_nil _ _ _ _), hid0 (Below.refl _ _)⟩
  case round =>
    obtain ⟨k, hk, rfl, HO, HB⟩ := hrel
    have hbs := HB.out.size
    obtain ⟨x0, x1, x2⟩ := (HC4.out wr HB.out).2.1
    by_cases hlt : k < L.length
    · have hkI : (k : Int) < (L.length : Int) := by omega
      have HOk : Hid (wr.ownsRow v3.heap.size 3 1 u7 k (List.replicate k (.int .i64 0))) := hid0 (by have h := HO.out; unfold OwnI at h; rw [List.length_replicate, List.map_replicate] at h; exact h)
      clear HO
      obtain ⟨av, cv, ev⟩ := own_sl HOk.out
      subst ev
      go_wp2_with (at_builtin; go_loud ((
        refine wpList_append_own_at _ rfl _ _ 25 rfl v3.heap.size 3 j0 (.int .i64 0) 1 8 Tryd.underlying25 hj hy0 hy1 hy2 rfl (by decide) (.slice av k cv) k (List.replicate k (.int .i64 0)) rfl (World.ownsRow.alloc HOk.out _) ⟨wr.heap.size, 0, none⟩ 1 1 [.int .i64 0] rfl rfl (cell_one_new _ _ _) (by simp [Value.oneCell']) (by unfold maxLen; omega) (by omega) (by simp; omega) ?_
        intro v2 w3 hown2 hgrow2 _ _
        have HB3 := hid0 (own_snoc HOk.out hgrow2 HB.out (Nat.le_refl _))
        have HO3 : Hid (OwnI w3 v3.heap.size v2 (List.replicate (k + 1) 0)) := hid0 (by unfold OwnI; rw [List.length_replicate, List.map_replicate, List.replicate_succ']; exact hown2)
        clear hown2 hgrow2)))
      go_roundw
      case rel => exact ⟨k + 1, by omega, by go_num, HO3, HB3⟩
      case measure => simp [intOf]; omega
    · have hkI : ¬ (k : Int) < (L.length : Int) := by omega
      have ek : k = L.length := by omega
      obtain ⟨aC, cC, eC⟩ : ∃ a c, u7 = .slice a L.length c := by have h := own_sl HO.out; rw [List.length_replicate, ek] at h; exact h
      subst eC
      have HO0 : Hid (OwnI wr v3.heap.size (.slice aC L.length cC) (natI (List.replicate L.length 0))) := hid0 (by have h := HO.out; rw [ek] at h; rw [natI_rep]; exact h)
      clear HO
      go_wp2
      clear x0 x1 x2
      go_loopw [7, 9] (fun v i wr => ∃ (r : Nat) (C : List Nat) (aC : Option Addr) (cC : Nat), r ≤ L.length + 1 ∧ i = .int .i64 (r : Int) ∧ v = .slice aC L.length cC ∧ Hid (OwnI wr v3.heap.size (.slice aC L.length cC) (natI C)) ∧ Hid (RdI L.length m N1 O1 C r) ∧ Hid (Below v3.heap.size v3 wr)) (fun _ i _ => L.length + 1 - (intOf i).toNat)
      case atStart => exact ⟨0, _, aC, cC, Nat.zero_le _, rfl, rfl, HO0, HZr, HB⟩
      case round =>
        clear HO0 HB
        obtain ⟨r, C, aC, cC, hr, rfl, rfl, HC, HRd, HB⟩ := hrel
        obtain ⟨x0, x1, x2⟩ := (HC4.out wr HB.out).2.1
        by_cases hrl : r ≤ L.length
        · have hrI : (r : Int) ≤ (L.length : Int) := by omega
          have hIA : IA wr aC (natI C) := by
            obtain ⟨a3, c3, e3, h⟩ := HC.out.ia
            injection e3 with e4 _ _
            rw [e4]
            exact h
          have HCp := hid0 (HPt.out wr C aC cC HB.out HRd.out.1 hIA)
          have HSt : Hid (∀ D, ParI m N1 O1 C D L.length → RdI L.length m N1 O1 D (r + 1)) := hid0 (fun D hD => HSt0.out C D r HRd.out hD)
          have hbsz := HB.out.size
          have hr2 : r + 1 ≤ L.length + 1 := Nat.succ_le_succ hrl
          have hr3 : r ≤ 2200000 := Nat.le_trans hrl (Nat.le_trans hLn hnb)
          clear hIA
          go_wp2_with (go_at_call 16; go_loud ((refine HCp.out.mono ?_; rintro e w5 ⟨D, a5, c5, rfl, HD, HB5⟩)))
          go_roundw
          case rel =>
            refine ⟨r + 1, D, a5, c5, hr2, ?_, rfl, hid0 (owns_lower HD.out.2 hbsz), hid0 (HSt.out D HD.out.1), hid0 (Below.later HB.out HB5.out)⟩
            clear HC4 HPt HMy HBf HSt0 HZr HN1 HJm HFi HOr HM1 HCp HSt HRd HC HD
            go_num
          case measure =>
            clear HC4 HPt HMy HBf HSt0 HZr HN1 HJm HFi HOr HM1 HCp HSt HRd HC HD
            simp [intOf]
            omega
        · have hrI : ¬ (r : Int) ≤ (L.length : Int) := by omega
          have er : r = L.length + 1 := by omega
          rw [er] at HRd
          clear er
          obtain ⟨hmJ, hC0, hCl⟩ := HJm.out C HRd.out
          obtain ⟨wb, hwb⟩ : ∃ wb, wb = wr := ⟨_, rfl⟩
          subst hwb
          have HCk : Hid (wb.ownsRow v3.heap.size 3 1 (.slice aC L.length cC) L.length ((natI C).map (Value.int .i64))) := hid0 (by have h := HC.out; unfold OwnI at h; rw [natI_len, hCl] at h; exact h)
          obtain ⟨gc, cc2, ec, _, _, _⟩ := own_form HCk.out hLp
          injection ec with e1 _ e3
          subst e1
          subst e3
          have HCc : Hid (∀ (V : World) (y : Nat), Below wb.heap.size wb V → y < L.length → V.cell? ⟨gc, y, none⟩ = some (.int .i64 ((C.getD y 0 : Nat) : Int))) := hid0 (fun V y hV hy => by
            rw [World.ownsRow.cellAt (row_later HCk.out hV) y (by omega), List.getElem?_map, List.getElem?_eq_getElem (by rw [natI_len]; omega), natI_at C y (by omega)]
            rfl)
          have hcell0 := HCc.out wb 0 (below_refl0 wb) hLp
          rw [hC0] at hcell0
          have hcellA := HCc.out (wb.alloc (.cells #[.int .i64 0, .slice none 0 0, .slice none 0 0] 24)) 0 (below_alloc wb _) hLp
          rw [hC0] at hcellA
          have hx2A := (HC4.out (wb.alloc (.cells #[.int .i64 0, .slice none 0 0, .slice none 0 0] 24)) (Below.later HB.out (below_alloc wb _))).2.1.2.2
          have h0L : (0 : Int) < (L.length : Int) := by omega
          have HmJ := hid0 hmJ
          have HbL := hid0 HB.out.size
          clear hmJ hC0 hCl HC
          go_upto_region 14 with (fail)
          go_cut [10] from 44 (fun v10 wx => ∃ B, v10 = .pointer (some ⟨B, 0, none⟩) ∧ Hid (MkJ wx wb.heap.size B 0 (.slice none 0 0) (.slice aE L.length cE) [] ∧ Below wb.heap.size wb wx))
          case first =>
            go_region
            all_goals go_wp2
            all_goals go_meet
            all_goals exact ⟨_, rfl, hid0 ⟨⟨heap_alloc_new wb _, Bag.nil _ _, Nat.le_refl _⟩, below_drew' (below_alloc wb _) 1⟩⟩
          case rest =>
            obtain ⟨B, rfl, HJ0⟩ := hcut
            generalize wc = wx at *
            have HAll : Hid (∀ V : World, Below wb.heap.size wb V → (RwN V aD N1 ∧ RwN V aE O1) ∧ (V.cell? ⟨w.heap.size, 0, none⟩ = some (.int .i64 0) ∧ V.cell? ⟨w.heap.size, 1, none⟩ = some (.slice aD L.length cD) ∧ V.cell? ⟨w.heap.size, 2, none⟩ = some (.slice aE L.length cE)) ∧ V.heap[w0.heap.size]? = some (.cells #[.int .i64 0, .slice none 0 0, .slice none 0 0] 24 (0, 0)) ∧ Below w.heap.size w V) := hid0 (fun V hV => HC4.out V (Below.later HB.out hV))
            have HJ := hid0 HJ0.out.1
            have HBx := hid0 HJ0.out.2
            clear HJ0 HC4 hcell0 hcellA hx2A x0 x1 x2 HB HPt HSt0 HZr HCk
            go_wp2
            go_loopw [11] (fun i wr => ∃ (p : Nat) (vN : Value) (pN : Lot), p ≤ L.length ∧ i = .int .i64 (p : Int) ∧ Hid (MkJ wr wb.heap.size B 0 vN (.slice aE L.length cE) pN) ∧ Hid (pN.map (·.2) = (jnL L FN C m).take p) ∧ Hid (Below wb.heap.size wb wr)) (fun i _ => L.length - (intOf i).toNat)
            case atStart => exact ⟨0, _, [], Nat.zero_le _, rfl, HJ, hid0 rfl, HBx⟩
            case round =>
              clear HJ HBx
              obtain ⟨p, vN, pN, hp, rfl, HJ, HTk, HBr⟩ := hrel
              obtain ⟨wi, hwi⟩ : ∃ wi, wi = wr := ⟨_, rfl⟩
              subst hwi
              have hbi := HBr.out.size
              obtain ⟨x0, x1, x2⟩ := (HAll.out wi HBr.out).2.1
              by_cases hplt : p < L.length
              · have hpI : (p : Int) < (L.length : Int) := by omega
                have hpI0 : (0 : Int) ≤ (p : Int) := by omega
                go_wp2
                clear x0 x1 x2
                go_loopw [12, 13] (fun v j wr => ∃ c : Nat, c ≤ m ∧ j = .int .i64 (c : Int) ∧ Hid (OwnI wr wi.heap.size v (natI (rnR m (fun i => C.getD (Fl FN i) 0) p c))) ∧ Hid (Below wi.heap.size wi wr)) (fun _ j _ => m - (intOf j).toNat)
                case atStart => exact ⟨0, Nat.zero_le _, rfl, hid0 (World.ownsRow_nil _ _ _ _), hid0 (Below.refl _ _)⟩
                case round =>
                  obtain ⟨c, hcm, rfl, HRo, HBc⟩ := hrel
                  have hbc := HBc.out.size
                  have HB1c := hid0 (Below.later HBr.out HBc.out)
                  obtain ⟨x0, x1, x2⟩ := (HAll.out wr HB1c.out).2.1
                  by_cases hclt : c < m
                  · have hcI : (c : Int) < (m : Int) := by omega
                    have hcI0 : (0 : Int) ≤ (c : Int) := by omega
                    have hpn : p < N1.length := by rw [HN1.out.1]; exact hplt
                    obtain ⟨b1, o1, rfl, a1, c1, d1, i1⟩ := rwa_at (HAll.out wr HB1c.out).1.1.rwa hpn
                    have hnx := HM1.out.next hpn hclt
                    have hnl : (outF N1 p).length = m := hnx.2.2
                    have hpl : c < (outF N1 p).length := by rw [hnl]; exact hclt
                    obtain ⟨b4, o4, rfl, _, d4⟩ := i1.at' _ hpl
                    obtain ⟨hy1', hy2'⟩ := HN1.out.2.2.1 p c hplt hclt
                    have d4' : wr.cell? ⟨b4, o4 + c, none⟩ = some (.int .i64 ((Fl FN (p * m + c) : Nat) : Int)) := by
                      rw [d4]
                      have e : (outF N1 p)[c] = (outF N1 p).getD c 0 := by rw [List.getD_eq_getElem?_getD, List.getElem?_eq_getElem hpl]; rfl
                      rw [e]
                      have := hnx.2.1
                      unfold outF
                      rw [this, hy1']
                    have hat := HCc.out wr (Fl FN (p * m + c)) HB1c.out hy2'
                    have HRs : Hid (natI (rnR m (fun i => C.getD (Fl FN i) 0) p (c + 1)) = natI (rnR m (fun i => C.getD (Fl FN i) 0) p c) ++ [((C.getD (Fl FN (p * m + c)) 0 : Nat) : Int)]) := hid0 (by rw [rnR_succ, natI_snoc])
                    have HRl : Hid ((natI (rnR m (fun i => C.getD (Fl FN i) 0) p c)).length = c) := hid0 (rnR_len _ _ _ _)
                    have hyI : ((Fl FN (p * m + c) : Nat) : Int) < (L.length : Int) := by omega
                    have hyI0 : (0 : Int) ≤ ((Fl FN (p * m + c) : Nat) : Int) := by omega
                    have hpcI : (c : Int) < ((outF N1 p).length : Int) := by omega
                    clear d4 hnx hnl hpl i1 hy1' hy2' hpn
                    generalize C.getD (Fl FN (p * m + c)) 0 = iy at *
                    generalize Fl FN (p * m + c) = y at *
                    generalize (outF N1 p).length = ln at *
                    have HOk : Hid (wr.ownsRow wi.heap.size 3 1 u12 c ((natI (rnR m (fun i => C.getD (Fl FN i) 0) p c)).map (Value.int .i64))) := hid0 (by have h := HRo.out; unfold OwnI at h; rw [HRl.out] at h; exact h)
                    obtain ⟨av, cv, ev⟩ := own_sl HOk.out
                    subst ev
                    go_wp2_with (at_builtin; go_loud ((
                      refine wpList_append_own_at _ rfl _ _ 25 rfl wi.heap.size 3 j0 (.int .i64 0) 1 8 Tryd.underlying25 hj hy0 hy1 hy2 rfl (by decide) (.slice av c cv) c ((natI (rnR m (fun i => C.getD (Fl FN i) 0) p c)).map (Value.int .i64)) rfl (World.ownsRow.alloc HOk.out _) ⟨wr.heap.size, 0, none⟩ 1 1 [.int .i64 (iy : Int)] rfl rfl (cell_one_new _ _ _) (by simp [Value.oneCell']) (by unfold maxLen; omega) (by omega) (by simp; omega) ?_
                      intro v2 w5 hown2 hgrow2 _ _
                      have HB5 := hid0 (own_snoc HOk.out hgrow2 HBc.out (Nat.le_refl _))
                      have HO5 : Hid (OwnI w5 wi.heap.size v2 (natI (rnR m (fun i => C.getD (Fl FN i) 0) p (c + 1)))) := hid0 (by
                        unfold OwnI
                        rw [HRs.out, List.length_append, HRl.out, List.map_append]
                        exact hown2)
                      clear hown2 hgrow2)))
                    go_roundw
                    case rel => exact ⟨c + 1, by omega, by go_num, HO5, HB5⟩
                    case measure => simp [intOf]; omega
                  · have hcI : ¬ (c : Int) < (m : Int) := by omega
                    have ecm : c = m := by omega
                    rw [ecm] at HRo
                    clear ecm
                    have HTn : Hid ((jnL L FN C m).take (p + 1) = (jnL L FN C m).take p ++ [natI (rnR m (fun i => C.getD (Fl FN i) 0) p m)]) := hid0 (rnN_take hplt)
                    have HpN : Hid (pN.length = p) := hid0 (by
                      have h1 := congrArg List.length HTk.out
                      have h3 : (jnL L FN C m).length = L.length := (rn_len L.length m (fun i => C.getD (Fl FN i) 0) O (Lg1 L)).1
                      rw [List.length_map, List.length_take] at h1
                      omega)
                    generalize natI (rnR m (fun i => C.getD (Fl FN i) 0) p m) = rr at *
                    obtain ⟨aR, cR, eR, _⟩ := HRo.out.ia
                    subst eR
                    obtain ⟨aV, cV, eV⟩ : ∃ a c, vN = .slice a p c := by have h := own_sl HJ.out.bN.outer; rw [HpN.out] at h; exact h
                    subst eV
                    have HAway : Hid (∀ y ∈ pN, ∀ g, y.1.ownBlock = some g → g < wi.heap.size) := hid0 (fun y hy g hg => (World.ownsRow.lt (HJ.out.bN.row y hy) g hg).2)
                    have HJ5 := hid0 (HJ.out.past HBc.out)
                    obtain ⟨y0, y1, y2, yf⟩ := HJ5.out.c
                    have HbN5 : Hid (wr.ownsRow wb.heap.size 25 1 (.slice aV p cV) p (pN.map (·.1))) := hid0 (by have h := HJ5.out.bN.outer; rw [HpN.out] at h; exact h)
                    go_wp2_with (at_builtin; go_loud ((
                      refine wpList_append_own_at _ rfl _ _ 22 rfl wb.heap.size 25 i0 (.slice none 0 0) 1 24 Tryd.underlying22 hi hz0 hz1 hz2 rfl (by decide) (.slice aV p cV) p (pN.map (·.1)) rfl (World.ownsRow.alloc HbN5.out _) ⟨wr.heap.size, 0, none⟩ 1 1 [.slice aR rr.length cR] rfl rfl (cell_one_new _ _ _) (by simp [Value.oneCell']) (by unfold maxLen; omega) (by omega) (by simp; omega) ?_
                      intro v6 w6 hown6 hgrow6 _ hat6
                      obtain ⟨a6, c6, e6⟩ := own_sl hown6
                      subst e6
                      obtain ⟨rb, rm, rf⟩ := HJ5.out.addN (x := .slice aR rr.length cR) (l := rr) (owns_lower HRo.out hbi) (fun y hy g hg hx => by have h1 := HAway.out y hy g hg; have h2 := (World.ownsRow.lt HRo.out g hx).1; omega) (by rw [HpN.out]; exact hown6) hgrow6 hat6
                      obtain ⟨g0, g1, g2, gf⟩ := box_c rb
                      obtain ⟨W6, hW6⟩ : ∃ W6, w6.setCell ⟨B, 1, none⟩ (.slice a6 (p + 1) c6) = W6 := ⟨_, rfl⟩
                      rw [hW6] at rm rf
                      have HJ6 := hid0 rm
                      have HB6 := hid0 (rf.below HB1c.out (Nat.le_refl _))
                      clear rb rm rf hown6 hgrow6 hat6)))
                    have HTk6 : Hid ((pN ++ [(Value.slice aR rr.length cR, rr)] : Lot).map (·.2) = (jnL L FN C m).take (p + 1)) := hid0 (by
                      rw [HTn.out, List.map_append, HTk.out]
                      rfl)
                    go_roundw
                    case rel => exact ⟨p + 1, _, _, by omega, by go_num, HJ6, HTk6, HB6⟩
                    case measure => simp [intOf]; omega
              · have hpI : ¬ (p : Int) < (L.length : Int) := by omega
                have hjl : (jnL L FN C m).length = L.length := (rn_len L.length m (fun i => C.getD (Fl FN i) 0) O (Lg1 L)).1
                have HTe : Hid (pN.map (·.2) = jnL L FN C m) := hid0 (by
                  have h := HTk.out
                  rw [List.take_of_length_le (by omega)] at h
                  exact h)
                obtain ⟨aJ, cJ, eJ, qJ⟩ := HJ.out.bN.rwq
                rw [HTe.out, hjl] at eJ
                rw [HTe.out] at qJ
                subst eJ
                have HRn2 : Hid (Calls Tryd.prog 15 #[.agg #[.int .i64 0, .slice aJ L.length cJ, .slice aE L.length cE], .int .i64 (m : Int)] wi fun e w' => RenR wi w' m 0 (jnL L FN C m) O1 e) := hid0 (by
                  obtain ⟨n2, hn2, hmJ⟩ := mayF_may HmJ.out
                  obtain rfl : m = n2 := by omega
                  have h := renamed_any 0 m (jnL L FN C m) O1 aJ aE cJ cE wi hmJ (by omega) hmb HOr.out qJ.rwa (HAll.out wi HBr.out).1.2
                  rw [hjl, HN1.out.2.1] at h
                  exact h)
                have HEnd : Hid (∀ (w7 : World) (L2 FN2 : List Nat) (a2 a3 : Option Addr) (c2 c3 : Nat), DbB wi.heap.size w7 (.slice a2 L2.length c2) (.slice a3 L2.length c3) (rnN L2.length m (Fl FN2)) (rnO L2.length O1 (Lg1 L2)) → BfI m 0 (jnL L FN C m) L2 FN2 L2.length 0 → Below wi.heap.size wi w7 → ∃ u1 u2 u3, LaidZ w7 u1 u2 u3 w0.heap.size (.int .i64 0) (.slice a2 L2.length c2) (.slice a3 L2.length c3) ∧ DofR w u3 m s0 N O (.returned (.tuple #[.agg #[.int .i64 0, .slice a2 L2.length c2, .slice a3 L2.length c3], .int .i64 0]))) := hid0 (fun w7 L2 FN2 a2 a3 c2 c3 hd hbf hb7 => by
                  have h7 := HAll.out w7 (Below.later HBr.out hb7)
                  obtain ⟨u1, u2, u3, hl⟩ := laidZ (.int .i64 0) (.slice a2 L2.length c2) (.slice a3 L2.length c3) h7.2.2.1
                  refine ⟨u1, u2, u3, hl, ?_⟩
                  have hle : w.heap.size ≤ wi.heap.size := (HAll.out wi HBr.out).2.2.2.size
                  have hn2 := rn_len L2.length m (Fl FN2) O1 (Lg1 L2)
                  refine ⟨rnN L2.length m (Fl FN2), rnO L2.length O1 (Lg1 L2), a2, a3, c2, c3, by rw [hn2.1, hn2.2], HFi.out C L2 FN2 HRd.out hbf, ?_, h7.2.2.2.trans (hl.only.below h7.2.2.2.size (fun k hk => by rw [hk]; have := HSz.out; omega))⟩
                  rw [hn2.1, hn2.2]
                  obtain ⟨pD, pE, k1, k2, k3⟩ := hd.only2 hl.only h7.2.2.1
                  exact ⟨pD, pE, k1.low hle, k2.low hle, k3⟩)
                obtain ⟨y0, y1, y2, yf⟩ := HJ.out.c
                clear HAll HmJ HOr HM1 HN1 HFi HTe HTk HJ HRd HMy HBf HJm HCc qJ hjl
                go_wp2_with (go_at_call 15; go_loud ((refine HRn2.out.mono ?_; rintro e w7 ⟨L2, FN2, a2, a3, c2, c3, rfl, hdb, hbf, hb7⟩; obtain ⟨u1, u2, u3, hl, hdof⟩ := HEnd.out w7 L2 FN2 a2 a3 c2 c3 hdb hbf hb7; have HDof := hid0 hdof; have HRow := hid0 hl.r; have g1 := hl.g1; have g2 := hl.g2; have g3 := hl.g3; obtain ⟨z0, z1, z2⟩ := hl.z; have a1 := hl.a1; have a2' := hl.a2; have f0 := hl.f0; have f1 := hl.f1; have f2 := hl.f2; clear hl hdof hdb hbf hb7)))
                obtain ⟨b0, b1, b2, _⟩ := box_c HRow.out
                (try simp only [Exit.inBlock, Exit.then])
                refine bodyPost_ret (by simp [results, Tryd.results6, go_sem, b0, b1, b2]; try rfl) rfl ?_
                exact HDof.out
end Go.Proofs.YtjmmckkiicefhaaDoor
