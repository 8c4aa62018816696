/-
  McLM, McNM, McOM.
-/
import Derived.Test.YtbbejfkgopcjoaaDoorNeav
namespace Go.Proofs.YtbbejfkgopcjoaaDoor
open Go.RowKit Go.Shelf
theorem nsF_val {T : Nat → List UInt8} {O : Nat → List Nat} {most : Nat} {ks : List (List UInt8)} {outs : Nat} {ou : List (List Nat)} : ∀ {c : Nat} {k : List (List UInt8)} {n : Nat} {o : List (List Nat)} {l : List Nat}, nsF T O most ks outs ou c = some (k, n, o, l) → l.length = c ∧ (∀ x ∈ l, 0 < x ∧ x < k.length + 1) ∧ ks.length ≤ k.length ∧ o.length + ks.length = ou.length + k.length ∧ (ks.length + 1 ≤ most → k.length + 1 ≤ most)
  | 0, k, n, o, l, h => by
    rw [nsF] at h
    simp only [Option.some.injEq, Prod.mk.injEq] at h
    obtain ⟨rfl, rfl, rfl, rfl⟩ := h
    exact ⟨rfl, (fun x hx => by cases hx), Nat.le_refl _, rfl, fun h => h⟩
  | c + 1, k, n, o, l, h => by
    cases hq : nsF T O most ks outs ou c with
    | none => rw [nsF, hq] at h; cases h
    | some q =>
      obtain ⟨k1, n1, o1, l1⟩ := q
      obtain ⟨i1, i2, i3, i4, i5⟩ := nsF_val hq
      by_cases hm : T c ∈ k1
      · rw [nsF_old hq hm] at h
        simp only [Option.some.injEq, Prod.mk.injEq] at h
        obtain ⟨rfl, rfl, rfl, rfl⟩ := h
        have hi := List.idxOf_lt_length_of_mem hm
        refine ⟨by rw [List.length_append, i1]; rfl, fun x hx => ?_, i3, i4, i5⟩
        rcases List.mem_append.1 hx with hx | hx
        · exact i2 x hx
        · rw [List.mem_singleton.1 hx]; omega
      · by_cases hf : k1.length + 1 = most ∨ 4194304 < n1 + (O c).length
        · rw [nsF_full hq hm hf] at h; cases h
        · rw [nsF_new hq hm hf] at h
          simp only [Option.some.injEq, Prod.mk.injEq] at h
          obtain ⟨rfl, rfl, rfl, rfl⟩ := h
          refine ⟨by rw [List.length_append, i1]; rfl, fun x hx => ?_, by rw [List.length_append]; omega, by rw [List.length_append, List.length_append, List.length_singleton, List.length_singleton]; omega, fun h => ?_⟩
          · rw [List.length_append, List.length_singleton]
            rcases List.mem_append.1 hx with hx | hx
            · have := i2 x hx; omega
            · rw [List.mem_singleton.1 hx]; omega
          · have := i5 h
            rw [List.length_append, List.length_singleton]
            omega
/-- What is true of the machine, however far it is made. -/
structure BsV (sy most : Nat) (b : Bs) : Prop where
  row : ∀ l ∈ b.nx, l.length = sy ∧ ∀ x ∈ l, 0 < x ∧ x < b.ks.length + 1
  ou : b.ou.length = b.ks.length + 1
  few : b.ks.length + 1 ≤ most
  nx : b.nx.length ≤ b.ks.length + 1
theorem bRun_val {j : Jn} {N sy most : Nat} {ix : Nat → Nat} {fs : Nat → Nat → Bool} {os : List (List UInt8 × List Nat)} : ∀ {s : Nat} {b : Bs}, bRun j N sy most ix fs os s = some b → BsV sy most b ∧ (b.nx.length = s ∨ (b.nx.length = b.ks.length + 1 ∧ b.nx.length ≤ s))
  | 0, b, h => by
    rw [bRun] at h
    by_cases hf : most = 0 ∨ 4194304 < j.at0.length
    · rw [if_pos hf] at h; cases h
    · rw [if_neg hf] at h
      simp only [Option.some.injEq] at h
      subst h
      exact ⟨⟨(fun l hl => by cases hl), rfl, by show 0 + 1 ≤ most; omega, Nat.zero_le _⟩, .inl rfl⟩
  | s + 1, b, h => by
    cases hq : bRun j N sy most ix fs os s with
    | none => rw [bRun, hq] at h; cases h
    | some b0 =>
      obtain ⟨i1, i2⟩ := bRun_val hq
      by_cases hs : s < b0.ks.length + 1
      · rw [bRun_more hq hs] at h
        unfold bStep at h
        cases hn : nsF (bT j N ix (bR j N fs b0 s)) (fun c => outF j N os (ix c) (andB (bR j N fs b0 s) (ltF j.LE c))) most b0.ks b0.n b0.ou sy with
        | none => rw [hn] at h; cases h
        | some q =>
          obtain ⟨k, n, o, l⟩ := q
          rw [hn] at h
          simp only [Option.some.injEq] at h
          subst h
          obtain ⟨v1, v2, v3, v4, v5⟩ := nsF_val hn
          have hnx : b0.nx.length = s := by
            rcases i2 with e | ⟨e, e2⟩
            · exact e
            · have := i1.nx; omega
          have hl : (b0.nx ++ [l]).length = s + 1 := by rw [List.length_append, hnx]; rfl
          refine ⟨⟨fun r hr => ?_, ?_, v5 i1.few, ?_⟩, .inl hl⟩
          · rcases List.mem_append.1 hr with hr | hr
            · obtain ⟨q1, q2⟩ := i1.row r hr
              exact ⟨q1, fun x hx => by have := q2 x hx; show 0 < x ∧ x < k.length + 1; omega⟩
            · rw [List.mem_singleton.1 hr]; exact ⟨v1, v2⟩
          · show o.length = k.length + 1
            have := i1.ou
            omega
          · show (b0.nx ++ [l]).length ≤ k.length + 1
            rw [hl]; omega
      · rw [bRun, hq] at h
        simp only at h
        rw [if_neg hs] at h
        simp only [Option.some.injEq] at h
        subst h
        refine ⟨i1, .inr ?_⟩
        have h1 := i1.nx
        rcases i2 with e | ⟨e, e2⟩
        · omega
        · omega
/-- All states have their rows: what Check asks of the numbers. -/
theorem bAll_val {j : Jn} {N sy most : Nat} {b : Bs} (h : bAll j N sy most = some b) : BsV sy most b ∧ b.nx.length = b.ks.length + 1 := by
  obtain ⟨i1, i2⟩ := bRun_val h
  refine ⟨i1, ?_⟩
  have h1 := i1.nx
  have h2 := i1.few
  rcases i2 with e | ⟨e, e2⟩
  · omega
  · exact e
end Go.Proofs.YtbbejfkgopcjoaaDoor
namespace Go.Proofs.YtbbejfkgopcjoaaDoor
open Go.RowKit Go.Shelf
/-- Numbers that do not fall, each once, rise. -/
theorem onceC_rise (l : List Nat) : l.Pairwise (· ≤ ·) → (onceC [] l).Pairwise (· < ·) ∧ (onceC [] l).getLast? = l.getLast? ∧ ∀ z, z ∈ onceC [] l ↔ z ∈ l := by
  have key : ∀ n, n ≤ l.length → l.Pairwise (· ≤ ·) → (onceC [] (l.take n)).Pairwise (· < ·) ∧ (onceC [] (l.take n)).getLast? = (l.take n).getLast? ∧ ∀ z, z ∈ onceC [] (l.take n) ↔ z ∈ l.take n := by
    intro n
    induction n with
    | zero => intro _ _; exact ⟨by simp [onceC], by simp [onceC], by simp [onceC]⟩
    | succ n ih =>
      intro hn hp
      obtain ⟨i1, i2, i3⟩ := ih (by omega) hp
      have e : l.take (n + 1) = l.take n ++ [l[n]] := by rw [List.take_add_one, List.getElem?_eq_getElem (by omega)]; rfl
      rw [e, onceC_snoc]
      have hle : ∀ z ∈ l.take n, z ≤ l[n] := fun z hz => by
        obtain ⟨i, hi, rfl⟩ := List.getElem_of_mem hz
        rw [List.getElem_take]
        rw [List.length_take] at hi
        exact List.pairwise_iff_getElem.1 hp i n (by omega) (by omega) (by omega)
      by_cases hl : (onceC [] (l.take n)).getLast? = some l[n]
      · rw [if_pos hl]
        refine ⟨i1, by rw [hl, List.getLast?_concat], fun z => ?_⟩
        rw [i3 z, List.mem_append]
        constructor
        · intro h; exact .inl h
        · rintro (h | h)
          · exact h
          · rw [List.mem_singleton.1 h]
            have := List.mem_of_getLast? hl
            exact (i3 _).1 this
      · rw [if_neg hl]
        refine ⟨?_, by rw [List.getLast?_concat, List.getLast?_concat], fun z => ?_⟩
        · rw [List.pairwise_append]
          refine ⟨i1, List.pairwise_singleton _ _, fun z hz y hy => ?_⟩
          rw [List.mem_singleton.1 hy]
          have h1 := hle z ((i3 z).1 hz)
          by_cases e2 : z = l[n]
          · exfalso
            apply hl
            -- the last is at least z, and at most the next
            have hne : onceC [] (l.take n) ≠ [] := List.ne_nil_of_mem hz
            rw [List.getLast?_eq_some_getLast hne]
            congr 1
            have hlm : (onceC [] (l.take n)).getLast hne ∈ onceC [] (l.take n) := List.getLast_mem hne
            have h2 := hle _ ((i3 _).1 hlm)
            have h3 : z ≤ (onceC [] (l.take n)).getLast hne := by
              have hd := List.dropLast_concat_getLast hne
              rw [← hd] at hz
              rcases List.mem_append.1 hz with hz | hz
              · rw [← hd] at i1
                exact Nat.le_of_lt ((List.pairwise_append.1 i1).2.2 z hz _ (by simp))
              · rw [List.mem_singleton.1 hz]; exact Nat.le_refl _
            omega
          · omega
        · rw [List.mem_append, List.mem_append, i3 z]
  intro hp
  have h := key l.length (Nat.le_refl _) hp
  rw [List.take_length] at h
  exact h
/-- The patterns that end are told rising. -/
theorem endL_rise (g : Nat → Bool) (own : List Nat) (n m : Nat) (hs : own.Pairwise (· ≤ ·)) (hg : ∀ q, g q = true → q < own.length) (hm : ∀ x ∈ own, x < m) : (endL g own n).Pairwise (· < ·) ∧ ∀ x ∈ endL g own n, x < m := by
  have hat : ∀ q ∈ plB g n, own.getD q 0 ∈ own := fun q hq => by
    have h1 := hg q (plB_mem.1 hq).2
    rw [List.getD_eq_getElem?_getD, List.getElem?_eq_getElem h1]
    exact List.getElem_mem h1
  have hp : ((plB g n).map fun q => own.getD q 0).Pairwise (· ≤ ·) := by
    rw [List.pairwise_map]
    have h0 : (plB g n).Pairwise (· < ·) := by unfold plB; exact List.Pairwise.filter _ List.pairwise_lt_range
    refine h0.imp_of_mem (fun {a b} ha hb hab => ?_)
    have h1 := hg a (plB_mem.1 ha).2
    have h2 := hg b (plB_mem.1 hb).2
    rw [List.getD_eq_getElem?_getD, List.getElem?_eq_getElem h1, List.getD_eq_getElem?_getD, List.getElem?_eq_getElem h2]
    exact List.pairwise_iff_getElem.1 hs a b h1 h2 hab
  obtain ⟨h1, _, h3⟩ := onceC_rise _ hp
  refine ⟨h1, fun x hx => ?_⟩
  obtain ⟨q, hq, rfl⟩ := List.mem_map.1 ((h3 x).1 hx)
  exact hm _ (hat q hq)
/-- Patterns are joined in their order. -/
theorem jAcc_rise (ps : List Pt) : ∀ k, k ≤ ps.length → ((jAcc ps k).own.Pairwise (· ≤ ·) ∧ ∀ x ∈ (jAcc ps k).own, x < k) ∧ ((jAcc ps k).at0.Pairwise (· < ·) ∧ ∀ x ∈ (jAcc ps k).at0, x < k) ∧ ((jAcc ps k).alw.Pairwise (· < ·) ∧ ∀ x ∈ (jAcc ps k).alw, x < k)
  | 0, _ => by refine ⟨⟨?_, ?_⟩, ⟨?_, ?_⟩, ?_, ?_⟩ <;> simp [jAcc, jNil]
  | k + 1, hk => by
    obtain ⟨⟨a1, a2⟩, ⟨b1, b2⟩, c1, c2⟩ := jAcc_rise ps k (by omega)
    rw [jAcc_succ (by omega)]
    have app : ∀ l : List Nat, l.Pairwise (· < ·) → (∀ x ∈ l, x < k) → (l ++ [k]).Pairwise (· < ·) ∧ ∀ x ∈ l ++ [k], x < k + 1 := fun l h1 h2 => by
      refine ⟨List.pairwise_append.2 ⟨h1, List.pairwise_singleton _ _, fun x hx y hy => by rw [List.mem_singleton.1 hy]; exact h2 x hx⟩, fun x hx => ?_⟩
      rcases List.mem_append.1 hx with hx | hx
      · have := h2 x hx; omega
      · rw [List.mem_singleton.1 hx]; omega
    refine ⟨⟨?_, ?_⟩, ?_, ?_⟩
    · refine List.pairwise_append.2 ⟨a1, List.pairwise_replicate.2 (.inr (Nat.le_refl _)), fun x hx y hy => ?_⟩
      rw [List.eq_of_mem_replicate hy]
      have := a2 x hx; omega
    · intro x hx
      rcases List.mem_append.1 hx with hx | hx
      · have := a2 x hx; omega
      · rw [List.eq_of_mem_replicate hx]; omega
    · show (if (ps[k]).em then (jAcc ps k).at0 ++ [k] else (jAcc ps k).at0).Pairwise (· < ·) ∧ ∀ x ∈ (if (ps[k]).em then (jAcc ps k).at0 ++ [k] else (jAcc ps k).at0), x < k + 1
      split
      · exact app _ b1 b2
      · exact ⟨b1, fun x hx => by have := b2 x hx; omega⟩
    · show (if (ps[k]).em && !(ps[k]).an then (jAcc ps k).alw ++ [k] else (jAcc ps k).alw).Pairwise (· < ·) ∧ ∀ x ∈ (if (ps[k]).em && !(ps[k]).an then (jAcc ps k).alw ++ [k] else (jAcc ps k).alw), x < k + 1
      split
      · exact app _ c1 c2
      · exact ⟨c1, fun x hx => by have := c2 x hx; omega⟩
end Go.Proofs.YtbbejfkgopcjoaaDoor
namespace Go.Proofs.YtbbejfkgopcjoaaDoor
open Go.RowKit Go.Shelf
theorem nsF_out {T : Nat → List UInt8} {O : Nat → List Nat} {most : Nat} {ks : List (List UInt8)} {outs : Nat} {ou : List (List Nat)} {P : List Nat → Prop} (hO : ∀ c, P (O c)) (hou : ∀ x ∈ ou, P x) : ∀ {c : Nat} {k : List (List UInt8)} {n : Nat} {o : List (List Nat)} {l : List Nat}, nsF T O most ks outs ou c = some (k, n, o, l) → ∀ x ∈ o, P x
  | 0, k, n, o, l, h => by
    rw [nsF] at h
    simp only [Option.some.injEq, Prod.mk.injEq] at h
    obtain ⟨rfl, rfl, rfl, rfl⟩ := h
    exact hou
  | c + 1, k, n, o, l, h => by
    cases hq : nsF T O most ks outs ou c with
    | none => rw [nsF, hq] at h; cases h
    | some q =>
      obtain ⟨k1, n1, o1, l1⟩ := q
      have ih := nsF_out hO hou hq
      by_cases hm : T c ∈ k1
      · rw [nsF_old hq hm] at h
        simp only [Option.some.injEq, Prod.mk.injEq] at h
        obtain ⟨rfl, rfl, rfl, rfl⟩ := h
        exact ih
      · by_cases hf : k1.length + 1 = most ∨ 4194304 < n1 + (O c).length
        · rw [nsF_full hq hm hf] at h; cases h
        · rw [nsF_new hq hm hf] at h
          simp only [Option.some.injEq, Prod.mk.injEq] at h
          obtain ⟨rfl, rfl, rfl, rfl⟩ := h
          intro x hx
          rcases List.mem_append.1 hx with hx | hx
          · exact ih x hx
          · rw [List.mem_singleton.1 hx]; exact hO c
theorem bRun_out {j : Jn} {N sy most : Nat} {ix : Nat → Nat} {fs : Nat → Nat → Bool} {os : List (List UInt8 × List Nat)} {P : List Nat → Prop} (h0 : P j.at0) (hO : ∀ i g, P (outF j N os i g)) : ∀ {s : Nat} {b : Bs}, bRun j N sy most ix fs os s = some b → ∀ x ∈ b.ou, P x
  | 0, b, h => by
    rw [bRun] at h
    by_cases hf : most = 0 ∨ 4194304 < j.at0.length
    · rw [if_pos hf] at h; cases h
    · rw [if_neg hf] at h
      simp only [Option.some.injEq] at h
      subst h
      intro x hx
      rw [List.mem_singleton.1 hx]; exact h0
  | s + 1, b, h => by
    cases hq : bRun j N sy most ix fs os s with
    | none => rw [bRun, hq] at h; cases h
    | some b0 =>
      have ih := bRun_out h0 hO hq
      by_cases hs : s < b0.ks.length + 1
      · rw [bRun_more hq hs] at h
        unfold bStep at h
        cases hn : nsF (bT j N ix (bR j N fs b0 s)) (fun c => outF j N os (ix c) (andB (bR j N fs b0 s) (ltF j.LE c))) most b0.ks b0.n b0.ou sy with
        | none => rw [hn] at h; cases h
        | some q =>
          obtain ⟨k, n, o, l⟩ := q
          rw [hn] at h
          simp only [Option.some.injEq] at h
          subst h
          exact nsF_out (fun c => hO _ _) ih hn
      · rw [bRun, hq] at h
        simp only at h
        rw [if_neg hs] at h
        simp only [Option.some.injEq] at h
        subst h
        exact ih
/-- A list that rises, of numbers below n. -/
def Ris (n : Nat) (l : List Nat) : Prop := l.Pairwise (· < ·) ∧ ∀ x ∈ l, x < n
theorem Ris.mrg {n : Nat} {a b : List Nat} (ha : Ris n a) (hb : Ris n b) : Ris n (mrg a b) := ⟨mrg_rise a b ha.1 hb.1, fun x hx => ((mrg_mem a b x).1 hx).elim (ha.2 x) (hb.2 x)⟩
theorem outF_ris {j : Jn} {N n : Nat} {os : List (List UInt8 × List Nat)} (hs : j.own.Pairwise (· ≤ ·)) (hm : ∀ x ∈ j.own, x < n) (hla : ∀ q, j.la q = true → q < j.own.length) (hal : Ris n j.alw) (hos : ∀ x ∈ os, Ris n x.2) (i : Nat) (g : Nat → Bool) : Ris n (outF j N os i g) := by
  unfold outF
  refine hal.mrg (Ris.mrg ?_ (endL_rise _ _ _ n hs (fun q hq => ?_) hm))
  · rw [List.getD_eq_getElem?_getD]
    by_cases hi : i < os.length
    · rw [List.getElem?_eq_getElem hi]; exact hos _ (List.getElem_mem hi)
    · rw [List.getElem?_eq_none (by omega)]; exact ⟨List.Pairwise.nil, fun x hx => by cases hx⟩
  · rw [Bool.and_eq_true] at hq
    exact hla q hq.2
/-- What Build's machine tells. -/
theorem mAll_ris {rs : List Pr} {sy most : Nat} {b : Bs} (hok : ∀ r ∈ rs, PrOk r sy) (h : mAll rs sy most = some b) : ∀ o ∈ b.ou, Ris rs.length o := by
  have hpl : ∀ p ∈ rs.map toPt, PtOk sy p := fun p hp => by
    obtain ⟨r, hr, rfl⟩ := List.mem_map.1 hp
    exact (hok r hr).pt
  have hN : plN (rs.map toPt) (rs.map toPt).length ≤ 64 * mWd rs := by unfold mWd; omega
  have hJ : JnOk (mJ rs) sy (mWd rs) := jAcc_ok hpl hN _ (Nat.le_refl _)
  have hlen : (rs.map toPt).length = rs.length := List.length_map _
  obtain ⟨⟨a1, a2⟩, ⟨b1, b2⟩, c1, c2⟩ := jAcc_rise (rs.map toPt) (rs.map toPt).length (Nat.le_refl _)
  rw [hlen] at a2 b2 c2
  have a1' : (mJ rs).own.Pairwise (· ≤ ·) := a1
  have a2' : ∀ x ∈ (mJ rs).own, x < rs.length := by unfold mJ; rw [hlen]; exact a2
  have b' : Ris rs.length (mJ rs).at0 := ⟨b1, by unfold mJ; rw [hlen]; exact b2⟩
  have c' : Ris rs.length (mJ rs).alw := ⟨c1, by unfold mJ; rw [hlen]; exact c2⟩
  refine bRun_out b' (fun i g => outF_ris a1' a2' hJ.la' c' (fun x hx => ?_) i g) h
  unfold bOs at hx
  obtain ⟨c, _, rfl⟩ := List.mem_map.1 hx
  refine endL_rise _ _ _ _ a1' (fun q hq => ?_) a2'
  rw [Bool.and_eq_true] at hq
  exact hJ.la' q hq.2
end Go.Proofs.YtbbejfkgopcjoaaDoor
