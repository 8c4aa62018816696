/-
  MlM, MlNM, MlAW.
-/
import Derived.Test.YtjemjccgfgijiaaDoorMhf
import Derived.Test.YtjemjccgfgijiaaDoorMha
import Derived.Test.YtjemjccgfgijiaaDoorMnb
namespace Go.Proofs.YtjemjccgfgijiaaDoor
/-- Two states are alike, by the classes so far. -/
def alk (m : Nat) (F : Nat → Nat) (out : Nat → List Int) (cl : Nat → Nat) (a b : Nat) : Prop := out a = out b ∧ cl a = cl b ∧ ∀ c, c < m → cl (F (a * m + c)) = cl (F (b * m + c))
theorem alk.symm {m : Nat} {F : Nat → Nat} {out : Nat → List Int} {cl : Nat → Nat} {a b : Nat} (h : alk m F out cl a b) : alk m F out cl b a := ⟨h.1.symm, h.2.1.symm, fun c hc => (h.2.2 c hc).symm⟩
theorem alk.trans {m : Nat} {F : Nat → Nat} {out : Nat → List Int} {cl : Nat → Nat} {a b d : Nat} (h : alk m F out cl a b) (k : alk m F out cl b d) : alk m F out cl a d := ⟨h.1.trans k.1, h.2.1.trans k.2.1, fun c hc => (h.2.2 c hc).trans (k.2.2 c hc)⟩
theorem alk.self (m : Nat) (F : Nat → Nat) (out : Nat → List Int) (cl : Nat → Nat) (a : Nat) : alk m F out cl a a := ⟨rfl, rfl, fun _ _ => rfl⟩
/-- New classes: of each state the first one that is alike. -/
structure Par (n m : Nat) (F : Nat → Nat) (out : Nat → List Int) (cl cl' : Nat → Nat) : Prop where
  le : ∀ i, i < n → cl' i ≤ i
  is : ∀ i, i < n → alk m F out cl (cl' i) i
  first : ∀ i, i < n → ∀ k, k < cl' i → ¬ alk m F out cl k i
section
variable {n m : Nat} {F : Nat → Nat} {out : Nat → List Int} {cl cl' cl2 : Nat → Nat}
theorem Par.eq (h : Par n m F out cl cl') {i j : Nat} (hi : i < n) (hj : j < n) : cl' i = cl' j ↔ alk m F out cl i j := by
  constructor
  · intro e
    have h1 := h.is i hi
    rw [e] at h1
    exact h1.symm.trans (h.is j hj)
  · intro ha
    rcases Nat.lt_trichotomy (cl' i) (cl' j) with hl | he | hl
    · exact absurd ((h.is i hi).trans ha) (h.first j hj _ hl)
    · exact he
    · exact absurd ((h.is j hj).trans ha.symm) (h.first i hi _ hl)
theorem Par.idem (h : Par n m F out cl cl') {i : Nat} (hi : i < n) : cl' (cl' i) = cl' i := (h.eq (by have := h.le i hi; omega) hi).2 (h.is i hi)
/-- The classes by rounds. -/
structure Rnd (n m : Nat) (F : Nat → Nat) (out : Nat → List Int) (cs : Nat → Nat → Nat) (r : Nat) : Prop where
  zero : ∀ i, cs 0 i = 0
  step : ∀ q, q < r → Par n m F out (cs q) (cs (q + 1))
theorem Rnd.le {cs : Nat → Nat → Nat} {r : Nat} (h : Rnd n m F out cs r) {q : Nat} (hq : q ≤ r) {i : Nat} (hi : i < n) : cs q i ≤ i := by
  cases q with
  | zero => rw [h.zero]; exact Nat.zero_le _
  | succ q => exact (h.step q (by omega)).le i hi
def repN (n : Nat) (c : Nat → Nat) : Nat := (List.range n).countP (fun i => c i == i)
theorem countP_le' {p q : Nat → Bool} : ∀ (l : List Nat), (∀ x ∈ l, p x = true → q x = true) → l.countP p ≤ l.countP q ∧ (l.countP p = l.countP q → ∀ x ∈ l, q x = true → p x = true)
  | [], _ => ⟨Nat.le_refl _, fun _ x hx => by cases hx⟩
  | y :: l, h => by
    obtain ⟨h1, h2⟩ := countP_le' l (fun x hx => h x (List.mem_cons_of_mem _ hx))
    rw [List.countP_cons, List.countP_cons]
    have h3 := h y List.mem_cons_self
    cases hp : p y with
    | true =>
      rw [h3 hp]
      refine ⟨by simp; omega, fun e x hx hqx => ?_⟩
      rcases List.mem_cons.1 hx with rfl | hx
      · exact hp
      · exact h2 (by simp at e; omega) x hx hqx
    | false =>
      cases hq : q y with
      | true => exact ⟨by simp; omega, fun e => by simp at e; omega⟩
      | false =>
        refine ⟨by simp; omega, fun e x hx hqx => ?_⟩
        rcases List.mem_cons.1 hx with rfl | hx
        · rw [hq] at hqx; cases hqx
        · exact h2 (by simp at e; omega) x hx hqx
theorem Rnd.rep {cs : Nat → Nat → Nat} {r : Nat} (h : Rnd n m F out cs r) {q : Nat} (hq : q < r) {i : Nat} (hi : i < n) (he : cs q i = i) : cs (q + 1) i = i := by
  have h1 := (h.step q hq).is i hi
  have h2 := (h.step q hq).le i hi
  have h3 : cs q (cs (q + 1) i) = cs q i := h1.2.1
  have h4 := h.le (q := q) (by omega) (i := cs (q + 1) i) (by omega)
  omega
/-- The classes part no more. -/
def Stb (n : Nat) (c d : Nat → Nat) : Prop := ∀ i j, i < n → j < n → (c i = c j ↔ d i = d j)
theorem Rnd.grow {cs : Nat → Nat → Nat} {r : Nat} (h : Rnd n m F out cs r) {q : Nat} (hq : q < r) : repN n (cs q) < repN n (cs (q + 1)) ∨ Stb n (cs q) (cs (q + 1)) := by
  obtain ⟨h1, h2⟩ := countP_le' (p := fun i => cs q i == i) (q := fun i => cs (q + 1) i == i) (List.range n) (fun x hx hp => by
    have hx' := List.mem_range.1 hx
    simp only [beq_iff_eq] at hp ⊢
    exact h.rep hq hx' hp)
  by_cases e : repN n (cs q) = repN n (cs (q + 1))
  · refine .inr (fun i j hi hj => ?_)
    have key : ∀ i, i < n → cs (q + 1) i = cs q i := fun i hi => by
      have hp := h.step q hq
      have h3 := hp.le i hi
      have h4 := h2 e (cs (q + 1) i) (List.mem_range.2 (by omega)) (by simp only [beq_iff_eq]; exact hp.idem hi)
      simp only [beq_iff_eq] at h4
      rw [← (hp.is i hi).2.1, h4]
    rw [key i hi, key j hj]
  · exact .inl (by unfold repN at e ⊢; omega)
theorem Rnd.stay {cs : Nat → Nat → Nat} {r : Nat} (h : Rnd n m F out cs r) (hF : ∀ i c, i < n → c < m → F (i * m + c) < n) {q : Nat} (hq : q + 1 < r) (hs : Stb n (cs q) (cs (q + 1))) : Stb n (cs (q + 1)) (cs (q + 2)) := fun i j hi hj => by
  rw [(h.step (q + 1) hq).eq hi hj, (h.step q (by omega)).eq hi hj]
  constructor
  · rintro ⟨h1, h2, h3⟩
    exact ⟨h1, (hs i j hi hj).1 h2, fun c hc => (hs _ _ (hF i c hi hc) (hF j c hj hc)).1 (h3 c hc)⟩
  · rintro ⟨h1, h2, h3⟩
    exact ⟨h1, (hs i j hi hj).2 h2, fun c hc => (hs _ _ (hF i c hi hc) (hF j c hj hc)).2 (h3 c hc)⟩
theorem Rnd.stable {cs : Nat → Nat → Nat} (h : Rnd n m F out cs (n + 1)) (hn : 0 < n) (hF : ∀ i c, i < n → c < m → F (i * m + c) < n) : Stb n (cs n) (cs (n + 1)) := by
  have key : ∀ q, q ≤ n → Stb n (cs q) (cs (q + 1)) ∨ q + 2 ≤ repN n (cs (q + 1)) := by
    intro q
    induction q with
    | zero =>
      intro _
      rcases h.grow (q := 0) (by omega) with h1 | h1
      · right
        have : 1 ≤ repN n (cs 0) := by
          unfold repN
          exact List.countP_pos_iff.2 ⟨0, List.mem_range.2 hn, by simp [h.zero]⟩
        omega
      · exact .inl h1
    | succ q ih =>
      intro hq
      rcases ih (by omega) with h1 | h1
      · exact .inl (h.stay hF (by omega) h1)
      · rcases h.grow (q := q + 1) (by omega) with h2 | h2
        · right; omega
        · exact .inl h2
  rcases key n (Nat.le_refl _) with h1 | h1
  · exact h1
  · exfalso
    have : repN n (cs (n + 1)) ≤ n := by
      unfold repN
      exact Nat.le_trans List.countP_le_length (by simp)
    omega
/-- As fine as they must be. -/
theorem Rnd.cls {cs : Nat → Nat → Nat} (h : Rnd n m F out cs (n + 1)) (hn : 0 < n) (hF : ∀ i c, i < n → c < m → F (i * m + c) < n) : Cls m n F out (cs (n + 1)) := by
  have hst := h.stable hn hF
  have hp := h.step n (by omega)
  refine ⟨fun s t hs ht e => ((hp.eq hs ht).1 e).1, fun s t hs ht e c hc => (hst _ _ (hF s c hs hc) (hF t c ht hc)).1 (((hp.eq hs ht).1 e).2.2 c hc), fun s t hs ht hl => ?_⟩
  have key : ∀ q, q ≤ n + 1 → ∀ s t, s < n → t < n → SameL m (fun x c => F (x * m + c)) (fun x c => F (x * m + c)) out out s t → cs q s = cs q t := by
    intro q
    induction q with
    | zero => intro _ s t _ _ _; rw [h.zero, h.zero]
    | succ q ih =>
      intro hq s t hs ht hl
      exact ((h.step q (by omega)).eq hs ht).2 ⟨hl.nil, ih (by omega) s t hs ht hl, fun c hc => ih (by omega) _ _ (hF s c hs hc) (hF t c ht hc) (hl.step hc)⟩
  exact key (n + 1) (Nat.le_refl _) s t hs ht hl
end
/-- A machine renamed. -/
def rnN (n m : Nat) (F : Nat → Nat) : List (List Int) := (List.range n).map fun i => (List.range m).map fun c => ((F (i * m + c) : Nat) : Int)
def rnO (n : Nat) (O : List (List Int)) (g : Nat → Nat) : List (List Int) := (List.range n).map fun i => outF O (g i)
theorem rnN_at {n m : Nat} {F : Nat → Nat} {i c : Nat} (hi : i < n) (hc : c < m) : nxF (rnN n m F) i c = F (i * m + c) := by
  have e : (rnN n m F).getD i [] = (List.range m).map fun c => ((F (i * m + c) : Nat) : Int) := by
    rw [rnN, List.getD_eq_getElem?_getD, List.getElem?_map, List.getElem?_range hi]
    rfl
  rw [nxF, e, List.getD_eq_getElem?_getD, List.getElem?_map, List.getElem?_range hc]
  simp
theorem rnO_at {n : Nat} {O : List (List Int)} {g : Nat → Nat} {i : Nat} (hi : i < n) : outF (rnO n O g) i = outF O (g i) := by
  rw [outF, rnO, List.getD_eq_getElem?_getD, List.getElem?_map, List.getElem?_range hi]
  rfl
theorem rn_len (n m : Nat) (F : Nat → Nat) (O : List (List Int)) (g : Nat → Nat) : (rnN n m F).length = n ∧ (rnO n O g).length = n := by
  unfold rnN rnO
  simp
section
variable {m st n : Nat} {N O : List (List Int)} {g F : Nat → Nat}
theorem Whl.may (h : Whl m st N n g F) (hmay : mayF (st : Int) N O (m : Int) = true) : mayF 0 (rnN n m F) (rnO n O g) (m : Int) = true := by
  obtain ⟨n', hn', hm⟩ := mayF_may hmay
  obtain rfl : m = n' := by omega
  obtain ⟨l1, l2⟩ := rn_len n m F O g
  have hp := h.pos
  refine mayF_of (by omega) (by omega) ?_ ?_ ?_
  · intro r hr
    obtain ⟨i, hi, rfl⟩ := List.mem_map.1 hr
    simp
  · intro r hr z hz
    obtain ⟨i, hi, rfl⟩ := List.mem_map.1 hr
    obtain ⟨c, hc, rfl⟩ := List.mem_map.1 hz
    have := h.fl i c (List.mem_range.1 hi) (List.mem_range.1 hc)
    rw [l1]
    omega
  · intro r hr
    obtain ⟨i, hi, rfl⟩ := List.mem_map.1 hr
    have hlt := h.gl i (List.mem_range.1 hi)
    have hlo : g i < O.length := by have := hm.out; omega
    have e : outF O (g i) = O[g i] := by rw [outF, List.getD_eq_getElem?_getD, List.getElem?_eq_getElem hlo]; rfl
    rw [e]
    exact upF_rise hmay _ (List.getElem_mem hlo)
/-- A state of the renamed machine says what the state says whose new name it is. -/
theorem Whl.same (h : Whl m st N n g F) {i : Nat} (hi : i < n) : SameL m (nxF (rnN n m F)) (nxF N) (outF (rnO n O g)) (outF O) i (g i) := fun u hu => by
  have hin : ∀ x c, x < n → c < m → nxF (rnN n m F) x c < n := fun x c hx hc => by rw [rnN_at hx hc]; exact h.fl x c hx hc
  have hh := runW_hom (φ := g) hin (fun x c hx hc => by rw [rnN_at hx hc]; exact (h.fs x c hx hc).symm) u i hi hu
  rw [rnO_at (runW_in hin u i hi hu), hh]
theorem Whl.bfsR (h : Whl m st N n g F) : Bfs (clF (rnN n m F) m) (rnN n m F).length m := by
  have hl := (rn_len n m F [] g).1
  rw [hl]
  have key : ∀ j, j < n * m → clF (rnN n m F) m j = F j := fun j hj => by
    have hm0 : 0 < m := by
      rcases Nat.eq_zero_or_pos m with e | e
      · rw [e, Nat.mul_zero] at hj; omega
      · exact e
    have h1 : j / m < n := (Nat.div_lt_iff_lt_mul hm0).2 hj
    unfold clF
    rw [rnN_at h1 (Nat.mod_lt _ hm0), Nat.mul_comm, Nat.div_add_mod]
  refine ⟨fun i hi => ?_, fun q hq => ?_⟩
  · rw [key i hi, top_congr (fun j hj => key j (by omega))]
    exact h.bfs.up i hi
  · have hle : q * m ≤ n * m := Nat.mul_le_mul_right m (by omega)
    rw [top_congr (fun j hj => key j (by omega))]
    exact h.bfs.row q hq
end
end Go.Proofs.YtjemjccgfgijiaaDoor
namespace Go.Proofs.YtjemjccgfgijiaaDoor
section
variable {m st n : Nat} {N O : List (List Int)} {g F cl : Nat → Nat}
/-- The rows in which each state stands for its class. -/
def jnN (n m : Nat) (F cl : Nat → Nat) : List (List Int) := rnN n m (fun i => cl (F i))
theorem runW_id {n m : Nat} {f h : Nat → Nat → Nat} (hf : ∀ s c, s < n → c < m → f s c < n) (e : ∀ s c, s < n → c < m → h s c = f s c) (u : List Nat) (s : Nat) (hs : s < n) (hu : okW m u) : runW h s u = runW f s u := runW_hom (φ := fun x => x) hf e u s hs hu
theorem Whl.outs (_h : Whl m st N n g F) {i : Nat} (hi : i < n) : outF (rnO n O g) i = outF O (g i) := rnO_at hi
/-- Joined it says the same. -/
theorem join_same {out : Nat → List Int} (hF : ∀ i c, i < n → c < m → F (i * m + c) < n) (hc : Cls m n F out cl) (hle : ∀ i, i < n → cl i ≤ i) (hid : ∀ i, i < n → cl (cl i) = cl i) (u : List Nat) (hu : okW m u) : ∀ s t, s < n → t < n → cl s = cl t → runW (nxF (jnN n m F cl)) s u < n ∧ cl (runW (nxF (jnN n m F cl)) s u) = cl (runW (fun x c => F (x * m + c)) t u) := by
  induction u with
  | nil => intro s t hs ht e; exact ⟨hs, e⟩
  | cons c u ih =>
    intro s t hs ht e
    have hcm := hu c List.mem_cons_self
    have h1 : nxF (jnN n m F cl) s c = cl (F (s * m + c)) := rnN_at hs hcm
    have h2 := hF s c hs hcm
    have h3 := hle _ h2
    have h4 := ih (fun d hd => hu d (List.mem_cons_of_mem _ hd)) (cl (F (s * m + c))) (F (t * m + c)) (by omega) (hF t c ht hcm) (by rw [hid _ h2]; exact hc.next s t hs ht e c hcm)
    show runW (nxF (jnN n m F cl)) (nxF (jnN n m F cl) s c) u < n ∧ cl (runW (nxF (jnN n m F cl)) (nxF (jnN n m F cl) s c) u) = cl (runW (fun x c => F (x * m + c)) (F (t * m + c)) u)
    rw [h1]
    exact h4
/-- What the document's Of answers. -/
theorem doc_lst {n2 : Nat} {g2 F2 : Nat → Nat} (hmay : mayF (st : Int) N O (m : Int) = true) (h1 : Whl m st N n g F) (hc : Cls m n F (fun i => outF O (g i)) cl) (hle : ∀ i, i < n → cl i ≤ i) (hid : ∀ i, i < n → cl (cl i) = cl i) (h2 : Whl m 0 (jnN n m F cl) n2 g2 F2) (hinj : ∀ p q, p < n2 → q < n2 → g2 p = g2 q → p = q) :
    Lst m (st : Int) N O (rnN n2 m F2) (rnO n2 (rnO n O g) g2) := by
  have hn := h1.pos
  have hF : ∀ i c, i < n → c < m → F (i * m + c) < n := h1.fl
  have hjl : (jnN n m F cl).length = n := (rn_len n m (fun i => cl (F i)) [] g).1
  have hcl0 : cl 0 = 0 := by have := hle 0 hn; omega
  have hcF : ∀ i c, i < n → c < m → cl (F (i * m + c)) < n := fun i c hi hcm => by have := hF i c hi hcm; have := hle _ this; omega
  have hmayJ : mayF 0 (jnN n m F cl) (rnO n O g) (m : Int) = true := by
    have hw := h1.may hmay
    obtain ⟨l1, l2⟩ := rn_len n m F O g
    refine mayF_of (by rw [hjl]; exact l2) (by omega) ?_ ?_ (upF_rise hw)
    · intro r hr
      obtain ⟨i, hi, rfl⟩ := List.mem_map.1 hr
      simp
    · intro r hr z hz
      obtain ⟨i, hi, rfl⟩ := List.mem_map.1 hr
      obtain ⟨c, hcm, rfl⟩ := List.mem_map.1 hz
      have h9 := hcF i c (List.mem_range.1 hi) (List.mem_range.1 hcm)
      rw [hjl]
      show (0 : Int) ≤ ((cl (F (i * m + c)) : Nat) : Int) ∧ ((cl (F (i * m + c)) : Nat) : Int) < (n : Int)
      omega
  have hg2 : ∀ i, i < n2 → g2 i < n := fun i hi => by have := h2.gl i hi; rw [hjl] at this; exact this
  have hself : ∀ i, i < n2 → cl (g2 i) = g2 i := by
    intro i hi
    rcases Nat.eq_zero_or_pos i with rfl | hp
    · rw [h2.g0]; exact hcl0
    · have hr := h2.bfs.row i hi
      obtain ⟨j, hj, e⟩ := h2.bfs.hit (i * m) (Nat.mul_le_mul_right m (by omega)) i hp hr
      have hm0 : 0 < m := by
        rcases Nat.eq_zero_or_pos m with e0 | e0
        · rw [e0, Nat.mul_zero] at hj; omega
        · exact e0
      have hq : j / m < i := (Nat.div_lt_iff_lt_mul hm0).2 hj
      have hr2 := Nat.mod_lt j hm0
      have h3 := h2.fs (j / m) (j % m) (by omega) hr2
      rw [Nat.mul_comm, Nat.div_add_mod, e] at h3
      have h4 : nxF (jnN n m F cl) (g2 (j / m)) (j % m) = cl (F (g2 (j / m) * m + j % m)) := rnN_at (hg2 _ (by omega)) hr2
      rw [h3, h4]
      exact hid _ (hF _ _ (hg2 _ (by omega)) hr2)
  have hJ : ∀ s, s < n → SameL m (nxF (jnN n m F cl)) (fun x c => F (x * m + c)) (outF (rnO n O g)) (fun i => outF O (g i)) s s := fun s hs u hu => by
    obtain ⟨a1, a2⟩ := join_same hF hc hle hid u hu s s hs hs rfl
    have a3 : runW (fun x c => F (x * m + c)) s u < n := runW_in hF u s hs hu
    rw [rnO_at a1]
    exact hc.told _ _ a1 a3 a2
  refine ⟨⟨h2.may hmayJ, h2.bfsR, fun p q hp hq hl => ?_⟩, ?_, ?_⟩
  · rw [(rn_len n2 m F2 [] g2).1] at hp hq
    have k1 := ((h2.same (O := rnO n O g) hp).symm.trans hl).trans (h2.same (O := rnO n O g) hq)
    have k2 := ((hJ _ (hg2 p hp)).symm.trans k1).trans (hJ _ (hg2 q hq))
    have k3 := hc.wide _ _ (hg2 p hp) (hg2 q hq) k2
    rw [hself p hp, hself q hq] at k3
    exact hinj p q hp hq k3
  · rw [Int.toNat_natCast]
    have k1 := h2.same (O := rnO n O g) h2.pos
    rw [h2.g0] at k1
    have k2 := k1.trans (hJ 0 hn)
    have k3 : SameL m (fun x c => F (x * m + c)) (nxF N) (fun i => outF O (g i)) (outF O) 0 st := fun u hu => by
      have h5 := runW_hom (φ := g) hF (fun x c hx hcm => (h1.fs x c hx hcm).symm) u 0 hn hu
      rw [h1.g0] at h5
      rw [h5]
    exact k2.trans k3
  · have h6 := h2.le
    have h7 := h1.le
    rw [(rn_len n2 m F2 [] g2).1]
    omega
end
end Go.Proofs.YtjemjccgfgijiaaDoor
namespace Go.Proofs.YtjemjccgfgijiaaDoor
open Go.RowKit Go.Shelf
/-- The number of each state among those met. -/
def nbI (n : Nat) (L : List Nat) : List Int := (List.range n).map fun s => if s ∈ L then (L.idxOf s : Int) else -1
theorem nbI_len (n : Nat) (L : List Nat) : (nbI n L).length = n := by simp [nbI]
theorem nbI_nil (n : Nat) : nbI n [] = List.replicate n (-1) := by
  apply List.ext_getElem
  · simp [nbI]
  · intro i h1 h2
    simp [nbI]
theorem nbI_at {n : Nat} (L : List Nat) {s : Nat} (h : s < n) : (nbI n L)[s]? = some (if s ∈ L then (L.idxOf s : Int) else -1) := by
  unfold nbI
  rw [List.getElem?_map, List.getElem?_range h]
  rfl
theorem nbI_set {n : Nat} {L : List Nat} {y : Nat} (hy : y < n) (hn : y ∉ L) : (nbI n L).set y (L.length : Int) = nbI n (L ++ [y]) := by
  apply List.ext_getElem?
  intro s
  rw [List.getElem?_set, nbI_len]
  by_cases hs : s < n
  · by_cases e : y = s
    · subst e
      rw [if_pos rfl, if_pos hy, nbI_at _ hy, if_pos (by simp), (idxOf_add1 y L y).2 hn]
    · rw [if_neg e, nbI_at _ hs, nbI_at _ hs]
      by_cases hm : s ∈ L
      · rw [if_pos hm, if_pos (by simp [hm]), (idxOf_add1 y L s).1 hm]
      · rw [if_neg hm, if_neg (by simp [hm]; exact fun h => e h.symm)]
  · rw [if_neg (by omega), List.getElem?_eq_none (by rw [nbI_len]; omega), List.getElem?_eq_none (by rw [nbI_len]; omega)]
/-- What met answers. -/
def MetR (w w' : World) (m s0 : Nat) (N : List (List Int)) (e : Ending) : Prop := ∃ (L FN : List Nat) (aL aB : Option Addr) (cL cB : Nat), e = .returned (.tuple #[.slice aL L.length cL, .slice aB N.length cB]) ∧ OwnI w' w.heap.size (.slice aL L.length cL) (natI L) ∧ OwnI w' w.heap.size (.slice aB N.length cB) (nbI N.length L) ∧ BfI m s0 N L FN L.length 0 ∧ Below w.heap.size w w'
set_option maxRecDepth 10000 in
set_option maxHeartbeats 3200000 in
theorem met_any (s0 m : Nat) (N O : List (List Int)) (aN aO : Option Addr) (cN lO cO : Nat) (w : World) (hm : May (s0 : Int) N O m) (hnb : N.length ≤ 2200000) (hmb : m ≤ 2200000) (rN : RwA w aN N) :
    Calls Tryd.prog 62 #[.agg #[.int .i64 (s0 : Int), .slice aN N.length cN, .slice aO lO cO], .int .i64 (m : Int)] w fun e w' => MetR w w' m s0 N e := by
  obtain ⟨j0, hj, hy0, hy1, hy2⟩ := info_parts infoInt
  obtain ⟨w0, hw0⟩ : ∃ w0, w0 = w.alloc (.cells #[.int .i64 (s0 : Int), .slice aN N.length cN, .slice aO lO cO] 24) := ⟨_, rfl⟩
  have hB0 : Below w.heap.size w w0 := by rw [hw0]; exact below_alloc _ _
  have hX0 : MBox w0 w.heap.size (s0 : Int) (.slice aN N.length cN) (.slice aO lO cO) := by rw [hw0]; exact MBox.new _ _ _ _
  have HAl : Hid (∀ V : World, Below w0.heap.size w0 V → RwA V aN N ∧ (V.cell? ⟨w.heap.size, 0, none⟩ = some (.int .i64 (s0 : Int)) ∧ V.cell? ⟨w.heap.size, 1, none⟩ = some (.slice aN N.length cN)) ∧ Below w.heap.size w V) := hid0 (fun V hV => by
    have h := Below.later hB0 hV
    have hc := (hX0.past hV).c
    exact ⟨rN.past h, ⟨hc.1, hc.2.1⟩, h⟩)
  have hs0 : s0 < N.length := by have := hm.start; omega
  have hn : 0 < N.length := by omega
  have HM := hid0 hm
  have HLo := hid0 hB0.size
  obtain ⟨x0, x1⟩ := (HAl.out w0 (below_refl0 w0)).2.1
  have q0 := hw0.symm
  clear hw0 hB0 hX0 rN hm
  go_enter Tryd.func62, Tryd.ntmps62
  go_wp2
  clear q0 x0 x1
  go_loopw [6, 7] (fun v i wr => ∃ k : Nat, k ≤ N.length ∧ i = .int .i64 (k : Int) ∧ Hid (OwnI wr w0.heap.size v (List.replicate k (-1))) ∧ Hid (Below w0.heap.size w0 wr)) (fun _ i _ => N.length - (intOf i).toNat)
  case atStart => exact ⟨0, Nat.zero_le _, rfl, hid0 (World.ownsRow_nil _ _ _ _), hid0 (Below.refl _ _)⟩
  case round =>
    obtain ⟨k, hk, rfl, HO, HB⟩ := hrel
    have hbs := HB.out.size
    obtain ⟨x0, x1⟩ := (HAl.out wr HB.out).2.1
    by_cases hlt : k < N.length
    · have hkI : (k : Int) < (N.length : Int) := by omega
      have HOk : Hid (wr.ownsRow w0.heap.size 3 1 u6 k (List.replicate k (.int .i64 (-1)))) := hid0 (by have h := HO.out; unfold OwnI at h; rw [List.length_replicate, List.map_replicate] at h; exact h)
      clear HO
      obtain ⟨av, cv, ev⟩ := own_sl HOk.out
      subst ev
      go_wp2_with (at_builtin; go_loud ((
        refine wpList_append_own_at _ rfl _ _ 25 rfl w0.heap.size 3 j0 (.int .i64 0) 1 8 Tryd.underlying25 hj hy0 hy1 hy2 rfl (by decide) (.slice av k cv) k (List.replicate k (.int .i64 (-1))) rfl (World.ownsRow.alloc HOk.out _) ⟨wr.heap.size, 0, none⟩ 1 1 [.int .i64 (-1)] rfl rfl (cell_one_new _ _ _) (by simp [Value.oneCell']) (by unfold maxLen; omega) (by omega) (by simp; omega) ?_
        intro v2 w3 hown2 hgrow2 _ _
        have HB3 := hid0 (own_snoc HOk.out hgrow2 HB.out (Nat.le_refl _))
        have HO3 : Hid (OwnI w3 w0.heap.size v2 (List.replicate (k + 1) (-1))) := hid0 (by unfold OwnI; rw [List.length_replicate, List.map_replicate, List.replicate_succ']; exact hown2)
        clear hown2 hgrow2)))
      go_roundw
      case rel => exact ⟨k + 1, by omega, by go_num, HO3, HB3⟩
      case measure => simp [intOf]; omega
    · have hkI : ¬ (k : Int) < (N.length : Int) := by omega
      have ek : k = N.length := by omega
      have hO := HO.out
      obtain ⟨gn, cn, e6, hg1, hg2, hg3⟩ := own_form hO (by rw [List.length_replicate]; omega)
      rw [List.length_replicate, ek] at e6
      subst e6
      obtain ⟨wo, hwo⟩ : ∃ wo, wo = wr := ⟨_, rfl⟩
      subst hwo
      have HO0 : Hid (wo.ownsRow w0.heap.size 3 1 (.slice (some ⟨gn, 0, none⟩) N.length cn) N.length ((nbI N.length []).map (Value.int .i64))) := hid0 (by
        have h := HO.out
        unfold OwnI at h
        rw [List.length_replicate, ek] at h
        rw [nbI_nil]
        exact h)
      clear hO HO
      obtain ⟨w3, hw3⟩ : ∃ w3, w3 = wo.alloc (.cells #[.int .i64 (s0 : Int)] 3) := ⟨_, rfl⟩
      have hB3 : Below wo.heap.size wo w3 := by rw [hw3]; exact below_alloc _ _
      have hL3 : OwnI w3 w0.heap.size (.slice (some ⟨wo.heap.size, 0, none⟩) 1 1) (natI [s0]) := by
        rw [hw3]
        exact ⟨by simp [natI], .inr ⟨wo.heap.size, 1, #[.int .i64 (s0 : Int)], rfl, hbs, heap_alloc_new wo _, Nat.le_refl _, by unfold maxLen; omega, rfl, by simp [natI]⟩⟩
      have hcell : w3.cell? ⟨gn, s0, none⟩ = some (.int .i64 (-1)) := by
        rw [World.ownsRow.cellAt (row_later HO0.out hB3) s0 (by omega), List.getElem?_map, nbI_at _ hs0]
        simp
      have hfr := World.ownsRow.frozenAt (row_later HO0.out hB3) s0
      obtain ⟨w4, hw4⟩ : ∃ w4, w4 = w3.setCell ⟨gn, s0, none⟩ (.int .i64 0) := ⟨_, rfl⟩
      have HN4 : Hid (w4.ownsRow w0.heap.size 3 1 (.slice (some ⟨gn, 0, none⟩) N.length cn) N.length ((nbI N.length [s0]).map (Value.int .i64))) := hid0 (by
        have h := (World.ownsRow.stored (row_later HO0.out hB3) s0 (.int .i64 0)).1
        have e := nbI_set (L := []) hs0 (by simp)
        rw [List.nil_append] at e
        rw [hw4, ← e, List.map_set]
        exact h)
      have HL4 : Hid (OwnI w4 w0.heap.size (.slice (some ⟨wo.heap.size, 0, none⟩) 1 1) (natI [s0])) := hid0 (by
        rw [hw4]
        refine own_blk hL3 (fun g hg => ?_)
        have hg' : wo.heap.size = g := by simpa [Value.ownBlock] using hg
        have hgl := (World.ownsRow.lt HO0.out gn rfl).2
        exact Below.heap_setCell _ _ _ _ (show g ≠ gn by omega))
      have HB4 : Hid (Below w0.heap.size w0 w4) := hid0 (by
        rw [hw4]
        have h := Below.later HB.out hB3
        exact h.trans ((Only.setCell w3 gn s0 (.int .i64 0)).below h.size (fun i hi => by rw [hi]; exact hg1)))
      have hsI : (s0 : Int) < (N.length : Int) := by omega
      have hsI0 : (0 : Int) ≤ (s0 : Int) := by omega
      obtain ⟨y0, y1⟩ := (HAl.out w3 (Below.later HB.out hB3)).2.1
      have q3 := hw3.symm
      have q4 := hw4.symm
      have HBf := hid0 (bfI_zero m hs0)
      have HAw : Hid ((Value.slice (some ⟨wo.heap.size, 0, none⟩) 1 1).ownBlock ≠ some gn) := hid0 (fun h => by simp [Value.ownBlock] at h; omega)
      clear hw3 hw4 hB3 hL3 HB HO0
      go_wp2
      clear q3 q4 hcell hfr y0 y1 x0 x1
      go_loopw [8, 9] (fun vl i wr => ∃ (i' : Nat) (L FN : List Nat), i = .int .i64 (i' : Int) ∧ Hid (OwnI wr w0.heap.size vl (natI L)) ∧ Hid (vl.ownBlock ≠ some gn) ∧ Hid (wr.ownsRow w0.heap.size 3 1 (.slice (some ⟨gn, 0, none⟩) N.length cn) N.length ((nbI N.length L).map (Value.int .i64))) ∧ Hid (BfI m s0 N L FN i' 0) ∧ Hid (Below w0.heap.size w0 wr)) (fun _ i _ => N.length - (intOf i).toNat)
      case atStart => exact ⟨0, [s0], [], rfl, HL4, HAw, HN4, HBf, HB4⟩
      case round =>
        clear HL4 HN4 HBf HB4 HAw
        obtain ⟨i', L, FN, rfl, HL, HAw, HNb, HBf, HBr⟩ := hrel
        have hLn : L.length ≤ N.length := nodup_le _ _ HBf.out.nd HBf.out.lt
        have hil := HBf.out.il
        obtain ⟨aL, cL, eL⟩ : ∃ a c, u8 = .slice a L.length c := by have h := own_sl HL.out; rw [natI_len] at h; exact h
        subst eL
        by_cases hlt2 : i' < L.length
        · have hiI : (i' : Int) < (L.length : Int) := by omega
          have HCu := hid0 (HBf.out.cur hlt2)
          go_wp2
          go_loopw [8, 10] (fun vl j wr => ∃ (j' : Nat) (L FN : List Nat), j' ≤ m ∧ j = .int .i64 (j' : Int) ∧ Hid (OwnI wr w0.heap.size vl (natI L)) ∧ Hid (vl.ownBlock ≠ some gn) ∧ Hid (wr.ownsRow w0.heap.size 3 1 (.slice (some ⟨gn, 0, none⟩) N.length cn) N.length ((nbI N.length L).map (Value.int .i64))) ∧ Hid (BfI m s0 N L FN i' j' ∧ i' < L.length ∧ i' ≤ top (Fl FN) (i' * m)) ∧ Hid (Below w0.heap.size w0 wr)) (fun _ j _ => m - (intOf j).toNat)
          case atStart => exact ⟨0, L, FN, Nat.zero_le _, rfl, HL, HAw, HNb, hid0 ⟨HBf.out, hlt2, HCu.out⟩, HBr⟩
          case round =>
            clear HL HNb HBf HBr HCu hLn hil hlt2 hiI HAw
            obtain ⟨j', L2, FN2, hj', rfl, HL, HAw, HNb, HBf, HBr⟩ := hrel
            have hLn : L2.length ≤ N.length := nodup_le _ _ HBf.out.1.nd HBf.out.1.lt
            have hil := HBf.out.2.1
            have hbs2 := HBr.out.size
            obtain ⟨aL, cL, eL⟩ : ∃ a c, u8 = .slice a L2.length c := by have h := own_sl HL.out; rw [natI_len] at h; exact h
            subst eL
            by_cases hjm : j' < m
            · have hjI : (j' : Int) < (m : Int) := by omega
              have hjI0 : (0 : Int) ≤ (j' : Int) := by omega
              have hiI : (i' : Int) < (L2.length : Int) := by omega
              have hiI0 : (0 : Int) ≤ (i' : Int) := by omega
              obtain ⟨x0, x1⟩ := (HAl.out wr HBr.out).2.1
              have hxl : Lg1 L2 i' < N.length := HBf.out.1.lt _ (Lg1_mem hil)
              obtain ⟨gl, cl2, el, _, _, _⟩ := own_form HL.out (by rw [natI_len]; omega)
              rw [natI_len] at el
              injection el with ea _ ec
              subst ea
              subst ec
              have dl : wr.cell? ⟨gl, i', none⟩ = some (.int .i64 ((Lg1 L2 i' : Nat) : Int)) := by
                have h := HL.out
                unfold OwnI at h
                rw [natI_len] at h
                rw [World.ownsRow.cellAt h i' (by omega), List.getElem?_map, List.getElem?_eq_getElem (by rw [natI_len]; omega), natI_at L2 i' hil]
                rfl
              obtain ⟨b1, o1, rfl, a1, c1, d1, i1⟩ := rwa_at (HAl.out wr HBr.out).1 hxl
              have hnx := HM.out.next hxl hjm
              have hnl : (outF N (Lg1 L2 i')).length = m := hnx.2.2
              have hpl : j' < (outF N (Lg1 L2 i')).length := by rw [hnl]; exact hjm
              obtain ⟨b4, o4, rfl, _, d4⟩ := i1.at' _ hpl
              have d4' : wr.cell? ⟨b4, o4 + j', none⟩ = some (.int .i64 ((nxF N (Lg1 L2 i') j' : Nat) : Int)) := by
                rw [d4]
                have e : (outF N (Lg1 L2 i'))[j'] = (outF N (Lg1 L2 i')).getD j' 0 := by rw [List.getD_eq_getElem?_getD, List.getElem?_eq_getElem hpl]; rfl
                rw [e]
                have := hnx.2.1
                unfold outF
                rw [this]
              have hyl := hnx.1
              have hpI : (j' : Int) < ((outF N (Lg1 L2 i')).length : Int) := by omega
              have hxI : ((Lg1 L2 i' : Nat) : Int) < (N.length : Int) := by omega
              have hxI0 : (0 : Int) ≤ ((Lg1 L2 i' : Nat) : Int) := by omega
              have hyI : ((nxF N (Lg1 L2 i') j' : Nat) : Int) < (N.length : Int) := by omega
              have hyI0 : (0 : Int) ≤ ((nxF N (Lg1 L2 i') j' : Nat) : Int) := by omega
              have hcell : wr.cell? ⟨gn, nxF N (Lg1 L2 i') j', none⟩ = some (.int .i64 (if nxF N (Lg1 L2 i') j' ∈ L2 then (L2.idxOf (nxF N (Lg1 L2 i') j') : Int) else -1)) := by
                rw [World.ownsRow.cellAt HNb.out _ (by omega), List.getElem?_map, nbI_at _ hyl]
                rfl
              have hfr := World.ownsRow.frozenAt HNb.out (nxF N (Lg1 L2 i') j')
              have HBf2 : Hid (∀ y, y = nxF N (Lg1 L2 i') j' → (y ∈ L2 → BfI m s0 N L2 (FN2 ++ [L2.idxOf y]) i' (j' + 1)) ∧ (y ∉ L2 → BfI m s0 N (L2 ++ [y]) (FN2 ++ [L2.length]) i' (j' + 1))) := hid0 (fun y hy => ⟨fun hmem => HBf.out.1.old hjm hil hy hmem, fun hmem => HBf.out.1.new hjm hil hy (by rw [hy]; exact hyl) hmem⟩)
              have HFl := hid0 HBf.out.1.len
              have HTp := hid0 HBf.out.2.2
              have hyn : nxF N (Lg1 L2 i') j' < N.length := hyl
              clear d4 hnx hnl hpl i1 hyl HBf
              generalize hyy : nxF N (Lg1 L2 i') j' = y at *
              have HyE := hid0 hyy.symm
              clear hyy
              generalize Lg1 L2 i' = xx at *
              generalize (outF N xx).length = ln at *
              by_cases hmem : y ∈ L2
              · rw [if_pos hmem] at hcell
                have HB2 : Hid (BfI m s0 N L2 (FN2 ++ [L2.idxOf y]) i' (j' + 1) ∧ i' < L2.length ∧ i' ≤ top (Fl (FN2 ++ [L2.idxOf y])) (i' * m)) := hid0 ⟨(HBf2.out y rfl).1 hmem, hil, cur_more HTp.out (by have := HFl.out; omega)⟩
                have hix : ¬ ((L2.idxOf y : Nat) : Int) < 0 := by omega
                clear HBf2 HFl HTp hmem HyE
                generalize L2.idxOf y = iy at *
                go_wp2
                go_quiet ((fail))
                go_wp2
                go_roundw
                case rel => exact ⟨j' + 1, L2, FN2 ++ [iy], by omega, by go_num, hid0 (HL.out.past (below_drew' (below_refl0 wr) _)), HAw, hid0 (row_later HNb.out (below_drew' (below_refl0 wr) _)), HB2, hid0 (below_drew' HBr.out _)⟩
                case measure => simp [intOf]; omega
              · rw [if_neg hmem] at hcell
                have HB2 : Hid (BfI m s0 N (L2 ++ [y]) (FN2 ++ [L2.length]) i' (j' + 1) ∧ i' < (L2 ++ [y]).length ∧ i' ≤ top (Fl (FN2 ++ [L2.length])) (i' * m)) := hid0 ⟨(HBf2.out y rfl).2 hmem, by rw [List.length_append]; simp; omega, cur_more HTp.out (by have := HFl.out; omega)⟩
                have HQ := hid0 (fun q => And.intro (HL.out.past (below_drew' (below_refl0 wr) q)) (And.intro (row_later HNb.out (below_drew' (below_refl0 wr) q)) (below_drew' HBr.out q)))
                have HNs := hid0 (nbI_set (L := L2) hyn hmem)
                have HNy : Hid ((nbI N.length L2)[y]? = some (-1)) := hid0 (by rw [nbI_at _ hyn, if_neg hmem])
                have HQe := hid0 (natI_snoc L2 y)
                clear HBf2 HFl HTp hmem HyE
                go_wp2
                go_quiet ((fail))
                generalize hwq : wr.drewN _ = wq
                have hQq : OwnI wq w0.heap.size (.slice (some ⟨gl, 0, none⟩) L2.length cL) (natI L2) ∧ wq.ownsRow w0.heap.size 3 1 (.slice (some ⟨gn, 0, none⟩) N.length cn) N.length ((nbI N.length L2).map (Value.int .i64)) ∧ Below w0.heap.size w0 wq := by rw [← hwq]; exact HQ.out _
                obtain ⟨hL5, hN5, hB5⟩ := hQq
                clear HQ hwq hcell hfr d1 d4' dl x0 x1 HL HNb HBr
                have hcell5 : wq.cell? ⟨gn, y, none⟩ = some (.int .i64 (-1)) := by
                  rw [World.ownsRow.cellAt hN5 _ (by omega), List.getElem?_map, HNy.out]
                  rfl
                have hfr5 := World.ownsRow.frozenAt hN5 y
                obtain ⟨ws, hws⟩ : ∃ ws, ws = wq.setCell ⟨gn, y, none⟩ (.int .i64 (L2.length : Int)) := ⟨_, rfl⟩
                have HN6 : Hid (ws.ownsRow w0.heap.size 3 1 (.slice (some ⟨gn, 0, none⟩) N.length cn) N.length ((nbI N.length (L2 ++ [y])).map (Value.int .i64))) := hid0 (by
                  have h := (World.ownsRow.stored hN5 y (.int .i64 (L2.length : Int))).1
                  rw [hws, ← HNs.out, List.map_set]
                  exact h)
                have HL6 : Hid (OwnI ws w0.heap.size (.slice (some ⟨gl, 0, none⟩) L2.length cL) (natI L2)) := hid0 (by
                  rw [hws]
                  exact own_blk hL5 (fun g hg => Below.heap_setCell _ _ _ _ (fun e => HAw.out (by rw [hg, e]))))
                have HB6 : Hid (Below w0.heap.size w0 ws) := hid0 (by
                  rw [hws]
                  exact hB5.trans ((Only.setCell wq gn y (.int .i64 (L2.length : Int))).below hB5.size (fun i hi => by rw [hi]; exact hg1)))
                have hb6 := HB6.out.size
                have hws' := hws.symm
                clear hws hL5 hN5 hB5
                have HLk : Hid (ws.ownsRow w0.heap.size 3 1 (.slice (some ⟨gl, 0, none⟩) L2.length cL) L2.length ((natI L2).map (Value.int .i64))) := hid0 (by have h := HL6.out; unfold OwnI at h; rw [natI_len] at h; exact h)
                go_wp2_with (at_builtin; go_loud ((
                  refine wpList_append_own_at _ rfl _ _ 25 rfl w0.heap.size 3 j0 (.int .i64 0) 1 8 Tryd.underlying25 hj hy0 hy1 hy2 rfl (by decide) (.slice (some ⟨gl, 0, none⟩) L2.length cL) L2.length ((natI L2).map (Value.int .i64)) rfl (World.ownsRow.alloc HLk.out _) ⟨ws.heap.size, 0, none⟩ 1 1 [.int .i64 (y : Int)] rfl rfl (cell_one_new _ _ _) (by simp [Value.oneCell']) (by unfold maxLen; omega) (by omega) (by simp; omega) ?_
                  intro v7 w7 hown7 hgrow7 _ hat7
                  have HB7 := hid0 (own_snoc HLk.out hgrow7 HB6.out (Nat.le_refl _))
                  have HL7 : Hid (OwnI w7 w0.heap.size v7 (natI (L2 ++ [y]))) := hid0 (by unfold OwnI; rw [HQe.out, List.length_append, natI_len, List.map_append]; exact hown7)
                  have HN7 : Hid (w7.ownsRow w0.heap.size 3 1 (.slice (some ⟨gn, 0, none⟩) N.length cn) N.length ((nbI N.length (L2 ++ [y])).map (Value.int .i64))) := hid0 (World.ownsRow.kept (World.ownsRow.alloc HN6.out _) hgrow7 (.inr (fun hc => HAw.out hc.symm)))
                  have HA7 : Hid (v7.ownBlock ≠ some gn) := hid0 (fun h => by
                    rcases hat7 with h1 | h1
                    · exact HAw.out (h1.symm.trans h)
                    · have h2 := (World.ownsRow.lt HN6.out gn rfl).2
                      rw [h1] at h
                      simp at h
                      omega)
                  clear hown7 hgrow7 hat7)))
                go_roundw
                case rel => exact ⟨j' + 1, L2 ++ [y], FN2 ++ [L2.length], by omega, by go_num, HL7, HA7, HN7, HB2, HB7⟩
                case measure => simp [intOf]; omega
            · have hjI : ¬ (j' : Int) < (m : Int) := by omega
              have HB2 : Hid (BfI m s0 N L2 FN2 (i' + 1) 0) := hid0 (by
                have h := HBf.out.1
                have e : j' = m := by omega
                rw [e] at h
                exact h.next hil HBf.out.2.2)
              go_wp2
              go_roundw
              case rel => exact ⟨i' + 1, L2, FN2, by go_num, HL, HAw, HNb, HB2, HBr⟩
              case measure => simp [intOf]; omega
        · have hiI : ¬ (i' : Int) < (L.length : Int) := by omega
          have HB2 : Hid (BfI m s0 N L FN L.length 0) := hid0 (by
            have h := HBf.out
            have e : i' = L.length := by omega
            rw [e] at h
            exact h)
          have HFin : Hid (MetR w wr m s0 N (.returned (.tuple #[.slice aL L.length cL, .slice (some ⟨gn, 0, none⟩) N.length cn]))) := hid0 ⟨L, FN, aL, _, cL, cn, rfl, owns_lower HL.out HLo.out, owns_lower (by rw [nbI_len]; exact HNb.out) HLo.out, HB2.out, (HAl.out wr HBr.out).2.2⟩
          go_wp2
          go_returns
          exact HFin.out
end Go.Proofs.YtjemjccgfgijiaaDoor
