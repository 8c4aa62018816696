/-
  MfDM, MfOM, MfPM.
-/
import Derived.Test.YtbbejfkgopcjoaaDoorNebe
namespace Go.Proofs.YtbbejfkgopcjoaaDoor
open Go.RowKit Go.Shelf
theorem outF_mem {j : Jn} {N sy x : Nat} (hx : x < (csF (opF j N) sy).length) (g : Nat → Bool) (z : Nat) : z ∈ outF j N (bOs j N sy) x g ↔ z ∈ j.alw ∨ ∃ q, q < 64 * N ∧ (bFs j N sy x q || g q) = true ∧ j.la q = true ∧ j.own.getD q 0 = z := by
  unfold outF
  have hl : (bOs j N sy).length = (csF (opF j N) sy).length := by unfold bOs; rw [List.length_map]
  have eo : ((bOs j N sy).getD x ([], [])).2 = endL (fun q => bFs j N sy x q && j.la q) j.own (64 * N) := by
    unfold bOs bFs
    rw [List.getD_eq_getElem?_getD, List.getElem?_map, List.getD_eq_getElem?_getD, List.getElem?_eq_getElem hx]
    rfl
  rw [mrg_mem, mrg_mem, eo, mem_endL, mem_endL]
  constructor
  · rintro (h | ⟨q, h1, h2, h3⟩ | ⟨q, h1, h2, h3⟩)
    · exact .inl h
    · rw [Bool.and_eq_true] at h2
      exact .inr ⟨q, h1, by rw [h2.1]; rfl, h2.2, h3⟩
    · rw [Bool.and_eq_true] at h2
      exact .inr ⟨q, h1, by rw [h2.1, Bool.or_true], h2.2, h3⟩
  · rintro (h | ⟨q, h1, h2, h3, h4⟩)
    · exact .inl h
    · rw [Bool.or_eq_true] at h2
      rcases h2 with h2 | h2
      · exact .inr (.inl ⟨q, h1, by rw [h2, h3]; rfl, h4⟩)
      · exact .inr (.inr ⟨q, h1, by rw [h2, h3]; rfl, h4⟩)
section
variable {ps : List Pt} {sy N : Nat}
theorem lt_own (hp : ∀ p ∈ ps, PtOk sy p) (hN : plN ps ps.length ≤ 64 * N) {c q : Nat} (h : ltF (jAcc ps ps.length).LE c q = true) : q < plN ps ps.length := by
  have hJ := jAcc_ok hp hN ps.length (Nat.le_refl _)
  rw [← jAcc_own hp ps.length (Nat.le_refl _), ← hJ.le]
  unfold ltF at h
  rw [decide_eq_true_eq] at h
  by_cases hq : q < (jAcc ps ps.length).LE.length
  · exact hq
  · rw [List.getD_eq_getElem?_getD, List.getElem?_eq_none (by omega)] at h
    cases h
theorem cl_op (hp : ∀ p ∈ ps, PtOk sy p) (hN : plN ps ps.length ≤ 64 * N) {q : Nat} (h : (jAcc ps ps.length).cl q = true) : (jAcc ps ps.length).op q = false := by
  have hJ := jAcc_ok hp hN ps.length (Nat.le_refl _)
  have hq := hJ.cl' q h
  rw [jAcc_own hp ps.length (Nat.le_refl _)] at hq
  obtain ⟨k, h1, h2, x, h3, rfl⟩ := plN_cover (ps := ps) _ (Nat.le_refl _) q hq
  have a := jAcc_at hp hN ps.length (Nat.le_refl _) k h1 h2 x h3
  rw [a.cl, Bool.and_eq_true] at h
  rw [a.op, h.1]
  rfl
/-- A step: the text stands for the state. -/
theorem step_rel (hp : ∀ p ∈ ps, PtOk sy p) (hN : plN ps ps.length ≤ 64 * N) (hNs : N ≤ 1000000) {n : Nat} (hsort : (jAcc ps ps.length).own.Pairwise (· ≤ ·)) (hown2 : ∀ x ∈ (jAcc ps ps.length).own, x < n) (hal : Ris n (jAcc ps ps.length).alw) (hos : ∀ x ∈ bOs (jAcc ps ps.length) N sy, Ris n x.2) {a : Rst} {R S0 : Nat → Bool} {c : Nat} (hc : c < sy) (hR : ∀ q, R q = true → (jAcc ps ps.length).op q = false ∨ 64 * N ≤ q) (hst : stepR ps a c = (stnd ps S0, true)) (hS : ∀ q, q < 64 * N → S0 q = (((jAcc ps ps.length).op q || R q) && ltF (jAcc ps ps.length).LE c q)) :
    RelT ps N sy (stepR ps a c) (bT (jAcc ps ps.length) N (bIx (jAcc ps ps.length) N sy) R c) ∧ outF (jAcc ps ps.length) N (bOs (jAcc ps ps.length) N sy) (bIx (jAcc ps ps.length) N sy c) (andB R (ltF (jAcc ps ps.length).LE c)) = outR ps (stepR ps a c) := by
  have hJ := jAcc_ok hp hN ps.length (Nat.le_refl _)
  have hx : bIx (jAcc ps ps.length) N sy c < (csF (opF (jAcc ps ps.length) N) sy).length := ixF_lt _ hc
  have e6 : ∀ q, q < 64 * N → bFs (jAcc ps ps.length) N sy (bIx (jAcc ps ps.length) N sy c) q = ((jAcc ps ps.length).op q && ltF (jAcc ps ps.length).LE c q) := fun q hq => by
    have q1 := csF_text (opF (jAcc ps ps.length) N) hc
    unfold opF at q1
    exact encW_inj (n := N) (by omega) q1 q hq
  have eS : stnd ps S0 = stnd ps (fun q => bFs (jAcc ps ps.length) N sy (bIx (jAcc ps ps.length) N sy c) q || andB R (ltF (jAcc ps ps.length).LE c) q) := by
    rw [stnd_eq]
    intro q hq
    rw [hS q (by omega), e6 q (by omega)]
    unfold andB
    cases (jAcc ps ps.length).op q <;> cases R q <;> cases ltF (jAcc ps ps.length).LE c q <;> rfl
  refine ⟨⟨_, andB R (ltF (jAcc ps ps.length).LE c), hx, fun q hq => ?_, rfl, by rw [hst, eS]⟩, ?_⟩
  · unfold andB at hq
    rw [Bool.and_eq_true] at hq
    have h1 := lt_own hp hN hq.2
    exact ⟨h1, (hR q hq.1).resolve_right (by omega)⟩
  · rw [hst, eS]
    have hris := outF_ris (N := N) (os := bOs (jAcc ps ps.length) N sy) hsort hown2 hJ.la' hal hos (bIx (jAcc ps ps.length) N sy c) (andB R (ltF (jAcc ps ps.length).LE c))
    exact (out_stnd hp hN _ hris.1 (outF_mem hx _)).symm
end
theorem nsF_n {T : Nat → List UInt8} {O : Nat → List Nat} {most : Nat} {ks : List (List UInt8)} {outs : Nat} {ou : List (List Nat)} (h0 : outs ≤ 4194304) : ∀ {c : Nat} {k : List (List UInt8)} {n : Nat} {o : List (List Nat)} {l : List Nat}, nsF T O most ks outs ou c = some (k, n, o, l) → n ≤ 4194304
  | 0, k, n, o, l, h => by
    rw [nsF] at h
    simp only [Option.some.injEq, Prod.mk.injEq] at h
    omega
  | c + 1, k, n, o, l, h => by
    cases hq : nsF T O most ks outs ou c with
    | none => rw [nsF, hq] at h; cases h
    | some q =>
      obtain ⟨k1, n1, o1, l1⟩ := q
      have ih := nsF_n h0 hq
      by_cases hm : T c ∈ k1
      · rw [nsF_old hq hm] at h
        simp only [Option.some.injEq, Prod.mk.injEq] at h
        omega
      · by_cases hf : k1.length + 1 = most ∨ 4194304 < n1 + (O c).length
        · rw [nsF_full hq hm hf] at h; cases h
        · rw [nsF_new hq hm hf] at h
          simp only [Option.some.injEq, Prod.mk.injEq] at h
          omega
theorem run_some {α : Type} {f : Nat → Option α} : ∀ n, f n = none → f 0 = none ∨ ∃ s, s < n ∧ (∃ b, f s = some b) ∧ f (s + 1) = none
  | 0, h => .inl h
  | n + 1, h => by
    cases hq : f n with
    | none =>
      rcases run_some n hq with h1 | ⟨s, h1, h2⟩
      · exact .inl h1
      · exact .inr ⟨s, by omega, h2⟩
    | some b => exact .inr ⟨n, by omega, ⟨b, hq⟩, h⟩
/-- Both say the same. -/
theorem bldR_all {rs : List Pr} {sy most : Nat} (hok : ∀ r ∈ rs, PrOk r sy) (hsy0 : 0 < sy) (hsy : sy ≤ 16384) (hmost : 0 < most) (hm2 : most ≤ 16384) (hpl : plN (rs.map toPt) (rs.map toPt).length ≤ 10000000) : bldR (rs.map toPt) sy most = (mAll rs sy most).map fun b => (b.nx, b.ou) := by
  obtain ⟨ps, hps⟩ : ∃ ps, ps = rs.map toPt := ⟨_, rfl⟩
  obtain ⟨N, hNe⟩ : ∃ N, N = mWd rs := ⟨_, rfl⟩
  have hp : ∀ p ∈ ps, PtOk sy p := fun p hp => by
    rw [hps] at hp
    obtain ⟨r, hr, rfl⟩ := List.mem_map.1 hp
    exact (hok r hr).pt
  have hN : plN ps ps.length ≤ 64 * N := by rw [hps, hNe]; unfold mWd; omega
  have hNs : N ≤ 1000000 := by rw [hNe]; unfold mWd; omega
  have hJe : mJ rs = jAcc ps ps.length := by rw [hps]; rfl
  have hJ := jAcc_ok hp hN ps.length (Nat.le_refl _)
  have hown := jAcc_own hp ps.length (Nat.le_refl _)
  obtain ⟨⟨a1, a2⟩, ⟨b1, b2⟩, c1, c2⟩ := jAcc_rise ps ps.length (Nat.le_refl _)
  have hal : Ris ps.length (jAcc ps ps.length).alw := ⟨c1, c2⟩
  have hos : ∀ x ∈ bOs (jAcc ps ps.length) N sy, Ris ps.length x.2 := fun x hx => by
    unfold bOs at hx
    obtain ⟨c, _, rfl⟩ := List.mem_map.1 hx
    exact endL_rise _ _ _ ps.length a1 (fun q hq => by
      rw [Bool.and_eq_true] at hq
      exact hJ.la' q hq.2) a2
  have hol : (jAcc ps ps.length).own.length ≤ 10000000 := by rw [hown, hps]; exact hpl
  obtain ⟨mst, hmst⟩ : ∃ mst, mst = min most (4194304 / sy) := ⟨_, rfl⟩
  have hdiv : 256 ≤ 4194304 / sy := by rw [Nat.le_div_iff_mul_le hsy0]; omega
  have hall : mAll rs sy most = bRun (jAcc ps ps.length) N sy mst (bIx (jAcc ps ps.length) N sy) (bFs (jAcc ps ps.length) N sy) (bOs (jAcc ps ps.length) N sy) mst := by
    unfold mAll bAll
    rw [hJe, ← hNe, ← hmst]
  rw [hall, ← hps]
  clear hall
  have hstart : outR ps (startR ps) = (jAcc ps ps.length).at0 := out_start (ps := ps) b1 (fun z => Iff.rfl)
  have hsim : ∀ s b, bRun (jAcc ps ps.length) N sy mst (bIx (jAcc ps ps.length) N sy) (bFs (jAcc ps ps.length) N sy) (bOs (jAcc ps ps.length) N sy) s = some b → b.n ≤ 4194304 ∧ ∃ r, runR ps sy most s = some r ∧ SimK ps N sy b.ks b.n b.ou r.all ∧ r.nx = b.nx ∧ (s < b.ks.length + 1 → ∃ a, r.all[s]? = some a ∧ ∀ c, c < sy → RelT ps N sy (stepR ps a c) (bT (jAcc ps ps.length) N (bIx (jAcc ps ps.length) N sy) (bR (jAcc ps ps.length) N (bFs (jAcc ps ps.length) N sy) b s) c) ∧ outF (jAcc ps ps.length) N (bOs (jAcc ps ps.length) N sy) (bIx (jAcc ps ps.length) N sy c) (andB (bR (jAcc ps ps.length) N (bFs (jAcc ps ps.length) N sy) b s) (ltF (jAcc ps ps.length).LE c)) = outR ps (stepR ps a c)) := by
    have hnext : ∀ s b r, bRun (jAcc ps ps.length) N sy mst (bIx (jAcc ps ps.length) N sy) (bFs (jAcc ps ps.length) N sy) (bOs (jAcc ps ps.length) N sy) s = some b → SimK ps N sy b.ks b.n b.ou r → s < b.ks.length + 1 → ∃ a, r[s]? = some a ∧ ∀ c, c < sy → RelT ps N sy (stepR ps a c) (bT (jAcc ps ps.length) N (bIx (jAcc ps ps.length) N sy) (bR (jAcc ps ps.length) N (bFs (jAcc ps ps.length) N sy) b s) c) ∧ outF (jAcc ps ps.length) N (bOs (jAcc ps ps.length) N sy) (bIx (jAcc ps ps.length) N sy c) (andB (bR (jAcc ps ps.length) N (bFs (jAcc ps ps.length) N sy) b s) (ltF (jAcc ps ps.length).LE c)) = outR ps (stepR ps a c) := by
      intro s b r hb hs hlt
      obtain ⟨o1, o2, _, _⟩ := bOs_ok (N := N) hJ hol
      have hO := bRun_ok (fun c hc => o2 c hc) hJ.le hb
      have hT := bRun_t hb
      obtain ⟨al, rfl, h1, h2⟩ := hs.ex
      cases s with
      | zero =>
        refine ⟨startR ps, rfl, fun c hc => ?_⟩
        have eR : bR (jAcc ps ps.length) N (bFs (jAcc ps ps.length) N sy) b 0 = (jAcc ps ps.length).cl := by unfold bR; rw [if_pos rfl]
        rw [eR]
        exact step_rel hp hN hNs a1 a2 hal hos hc (fun q hq => .inl (cl_op hp hN hq)) (step_start hp hN c) (fun q _ => rfl)
      | succ s =>
        have hsl : s < al.length := by omega
        have hsg : s < b.gs.length := by rw [hT.len]; omega
        refine ⟨al[s], by rw [List.getElem?_cons_succ, List.getElem?_eq_getElem hsl], fun c hc => ?_⟩
        have hl : (bOs (jAcc ps ps.length) N sy).length = (csF (opF (jAcc ps ps.length) N) sy).length := by unfold bOs; rw [List.length_map]
        have hrel2 : RelT ps N sy (stnd ps (fun q => bFs (jAcc ps ps.length) N sy (b.gs[s]).1 q || (b.gs[s]).2 q), true) b.ks[s] := ⟨(b.gs[s]).1, (b.gs[s]).2, by
          have := hO.ix _ (List.getElem_mem hsg); omega, fun q hq => ?_, hO.tx s hsg (by omega), rfl⟩
        · have ea : al[s] = (stnd ps (fun q => bFs (jAcc ps ps.length) N sy (b.gs[s]).1 q || (b.gs[s]).2 q), true) := (relT_same hp hN hNs hsy (h2 s hsl (by omega)) hrel2).2 rfl
          have eg : b.gs.getD s (0, fun _ => false) = b.gs[s] := by rw [List.getD_eq_getElem?_getD, List.getElem?_eq_getElem hsg]; rfl
          have eR : ∀ q, q < 64 * N → bR (jAcc ps ps.length) N (bFs (jAcc ps ps.length) N sy) b (s + 1) q = (folF (jAcc ps ps.length) N (fun p => bFs (jAcc ps ps.length) N sy (b.gs[s]).1 p || (b.gs[s]).2 p) q && !(jAcc ps ps.length).op q) := fun q hq => by
            unfold bR
            rw [if_neg (by omega), Nat.add_sub_cancel, eg, rcF_fol _ _ _ _ hq]
          refine step_rel hp hN hNs a1 a2 hal hos hc (fun q hq => ?_) (by rw [ea]; exact step_stnd hp hN _ c) (fun q hq => ?_)
          · by_cases hq2 : q < 64 * N
            · left
              rw [eR q hq2, Bool.and_eq_true, Bool.not_eq_true'] at hq
              exact hq.2
            · exact .inr (by omega)
          · rw [eR q hq]
            unfold acF
            generalize folF (jAcc ps ps.length) N _ q = y
            cases (jAcc ps ps.length).op q <;> cases y <;> cases ltF (jAcc ps ps.length).LE c q <;> rfl
        · obtain ⟨x, g, x1, x2, x3, x4⟩ := h2 s hsl (by omega)
          have tx := hO.tx s hsg (by omega)
          rw [x3] at tx
          obtain ⟨_, e2⟩ := List.append_inj tx (by rw [leB_len, leB_len])
          have hlt2 := hO.lt _ (List.getElem_mem hsg) q hq
          rw [hown] at hlt2
          have e4 := encW_inj (n := N) (by omega) e2 q (by omega)
          exact x2 q (by rw [e4]; exact hq)
    intro s
    induction s with
    | zero =>
      intro b hb
      have hb0 := hb
      rw [bRun] at hb
      by_cases hf : mst = 0 ∨ 4194304 < (jAcc ps ps.length).at0.length
      · rw [if_pos hf] at hb; cases hb
      · rw [if_neg hf] at hb
        simp only [Option.some.injEq] at hb
        subst hb
        have hs : SimK ps N sy ([] : List (List UInt8)) (jAcc ps ps.length).at0.length [(jAcc ps ps.length).at0] [startR ps] := ⟨⟨[], rfl, rfl, fun i h => absurd h (Nat.not_lt_zero _)⟩, by rw [List.map_cons, List.map_nil, hstart], by unfold totR; rw [List.map_cons, List.map_nil, hstart]; simp⟩
        exact ⟨by show (jAcc ps ps.length).at0.length ≤ _; omega, _, rfl, hs, rfl, hnext 0 _ _ hb0 hs⟩
    | succ s ih =>
      intro b hb
      have hb0 := hb
      cases hq : bRun (jAcc ps ps.length) N sy mst (bIx (jAcc ps ps.length) N sy) (bFs (jAcc ps ps.length) N sy) (bOs (jAcc ps ps.length) N sy) s with
      | none => rw [bRun, hq] at hb; cases hb
      | some b0 =>
        obtain ⟨hn0, r, hr, hs, hnx, hstep⟩ := ih b0 hq
        obtain ⟨v1, _⟩ := bRun_val hq
        have hlen : r.all.length = b0.ks.length + 1 := by
          obtain ⟨al, e1, e2, _⟩ := hs.ex
          rw [e1, List.length_cons, e2]
        by_cases hlt : s < b0.ks.length + 1
        · obtain ⟨a, ha, hT⟩ := hstep hlt
          have hb' := hb
          rw [bRun_more hq hlt] at hb'
          unfold bStep at hb'
          cases hns : nsF (bT (jAcc ps ps.length) N (bIx (jAcc ps ps.length) N sy) (bR (jAcc ps ps.length) N (bFs (jAcc ps ps.length) N sy) b0 s)) (fun c => outF (jAcc ps ps.length) N (bOs (jAcc ps ps.length) N sy) (bIx (jAcc ps ps.length) N sy c) (andB (bR (jAcc ps ps.length) N (bFs (jAcc ps ps.length) N sy) b0 s) (ltF (jAcc ps ps.length).LE c))) mst b0.ks b0.n b0.ou sy with
          | none => rw [hns] at hb'; cases hb'
          | some q =>
            obtain ⟨k, n, o, l⟩ := q
            rw [hns] at hb'
            simp only [Option.some.injEq] at hb'
            obtain ⟨s1, s2⟩ := row_sim hp hN hNs hsy hT hs sy (Nat.le_refl _) k n o l hns
            have hn4 : n ≤ 4194304 := nsF_n hn0 hns
            have hfull : ¬ r.full sy most := by
              rw [full_iff hsy0, ← hmst, hlen]
              have := v1.few
              omega
            have hinv := runR_inv _ _ hr
            have hlim : ¬ 4194304 < r.n + (outR ps a).length := by
              have h1 := hinv.n
              have hnl : r.nx.length = s := by
                rcases hinv.cnt with e | ⟨e, e2⟩
                · exact e
                · omega
              have h2 : totR ps (r.all.take s) + (outR ps a).length ≤ totR ps r.all := by
                have e : r.all.take s ++ a :: r.all.drop (s + 1) = r.all := by
                  obtain ⟨hlt', hga⟩ := List.getElem?_eq_some_iff.1 ha
                  rw [← hga, List.getElem_cons_drop, List.take_append_drop]
                have e2 := congrArg (totR ps) e
                rw [totR_app] at e2
                have e3 : totR ps (a :: r.all.drop (s + 1)) = (outR ps a).length + totR ps (r.all.drop (s + 1)) := by unfold totR; rw [List.map_cons, List.sum_cons]
                omega
              rw [hnl] at h1
              have h3 := hs.n
              omega
            have hrun : runR ps sy most (s + 1) = some ⟨(rowR ps a r.all sy).1, r.nx ++ [(rowR ps a r.all sy).2], r.ou ++ [outR ps a], r.n + (outR ps a).length⟩ := by
              rw [runR, hr]
              simp only
              rw [ha]
              simp only
              unfold rndR
              rw [if_neg hfull, if_neg hlim]
            subst hb'
            exact ⟨hn4, _, hrun, s1, by show r.nx ++ [_] = b0.nx ++ [l]; rw [hnx, s2], hnext (s + 1) _ _ hb0 s1⟩
        · rw [bRun, hq] at hb
          simp only at hb
          rw [if_neg hlt] at hb
          simp only [Option.some.injEq] at hb
          subst hb
          exact ⟨hn0, r, runR_done hr (by omega) 1, hs, hnx, fun h => absurd h (by omega)⟩
  cases hq : bRun (jAcc ps ps.length) N sy mst (bIx (jAcc ps ps.length) N sy) (bFs (jAcc ps ps.length) N sy) (bOs (jAcc ps ps.length) N sy) mst with
  | some b =>
    obtain ⟨_, r, hr, hs, hnx, _⟩ := hsim mst b hq
    obtain ⟨v1, v2⟩ := bRun_val hq
    have hlen : r.all.length = b.ks.length + 1 := by
      obtain ⟨al, e1, e2, _⟩ := hs.ex
      rw [e1, List.length_cons, e2]
    have hfew := v1.few
    have hd := runR_done hr (by omega) (most + 1 - mst)
    rw [show mst + (most + 1 - mst) = most + 1 by omega] at hd
    have hfull : ¬ r.full sy most := by
      rw [full_iff hsy0, ← hmst, hlen]
      omega
    have hinv := runR_inv _ _ hr
    have hnl : r.nx.length = r.all.length := by
      have := hinv.le
      rcases hinv.cnt with e | ⟨e, _⟩
      · omega
      · exact e
    unfold bldR
    rw [hd]
    simp only
    rw [if_neg hfull, Option.map_some, hnx, hinv.ou, hnl, List.take_length, ← hs.o]
  | none =>
    rw [Option.map_none]
    rcases run_some mst hq with h0 | ⟨s, hs1, ⟨b, hb⟩, hs2⟩
    · refine bldR_none hsy0 (i := 0) (by omega) (r := ⟨[startR ps], [], [], 0⟩) rfl (.inr ?_)
      rw [bRun] at h0
      by_cases hf : mst = 0 ∨ 4194304 < (jAcc ps ps.length).at0.length
      · rcases hf with hf | hf
        · omega
        · show 4194304 < totR ps [startR ps]
          unfold totR
          rw [List.map_cons, List.map_nil, hstart]
          simpa using hf
      · rw [if_neg hf] at h0; cases h0
    · obtain ⟨hn0, r, hr, hsk, hnx, hstep⟩ := hsim s b hb
      obtain ⟨v1, _⟩ := bRun_val hb
      have hlt : s < b.ks.length + 1 := by
        by_cases hlt : s < b.ks.length + 1
        · exact hlt
        · rw [bRun, hb] at hs2
          simp only at hs2
          rw [if_neg hlt] at hs2
          cases hs2
      obtain ⟨a, ha, hT⟩ := hstep hlt
      rw [bRun_more hb hlt] at hs2
      unfold bStep at hs2
      cases hns : nsF (bT (jAcc ps ps.length) N (bIx (jAcc ps ps.length) N sy) (bR (jAcc ps ps.length) N (bFs (jAcc ps ps.length) N sy) b s)) (fun c => outF (jAcc ps ps.length) N (bOs (jAcc ps ps.length) N sy) (bIx (jAcc ps ps.length) N sy c) (andB (bR (jAcc ps ps.length) N (bFs (jAcc ps ps.length) N sy) b s) (ltF (jAcc ps ps.length).LE c))) mst b.ks b.n b.ou sy with
      | some q => rw [hns] at hs2; cases hs2
      | none =>
        have hover := row_none hp hN hNs hsy hT hsk hns
        cases hr1 : runR ps sy most (s + 1) with
        | none =>
          have := runR_none hr1 (most + 1 - (s + 1))
          rw [show s + 1 + (most + 1 - (s + 1)) = most + 1 by omega] at this
          unfold bldR
          rw [this]
        | some r1 =>
          refine bldR_none hsy0 (i := s + 1) (by omega) hr1 ?_
          have e1 := hr1
          rw [runR, hr] at e1
          simp only at e1
          rw [ha] at e1
          simp only at e1
          unfold rndR at e1
          split at e1
          · cases e1
          · split at e1
            · cases e1
            · injection e1 with e1
              subst e1
              rw [← hmst]
              exact hover
end Go.Proofs.YtbbejfkgopcjoaaDoor
namespace Go.Proofs.YtbbejfkgopcjoaaDoor
open Go.RowKit Go.Shelf
/-- A state that step may read. -/
structure RstOk (rs : List Pr) (a : Rst) : Prop where
  len : a.1.length = rs.length
  at' : ∀ k (h : k < rs.length), ∀ y ∈ a.1.getD k [], y < rs[k].Fo.length
  few : ∀ s ∈ a.1, s.length ≤ 1000000000
theorem okR_start (rs : List Pr) : RstOk rs (startR (rs.map toPt)) := by
  unfold startR
  refine ⟨by simp, fun k hk y hy => ?_, fun s hs => ?_⟩
  · simp [List.getD_eq_getElem?_getD, hk] at hy
  · obtain ⟨_, _, rfl⟩ := List.mem_map.1 hs
    simp
theorem okR_step {rs : List Pr} {sy : Nat} (h : ∀ r ∈ rs, PrOk r sy) (a : Rst) (c : Nat) : RstOk rs (stepR (rs.map toPt) a c) := by
  have e := stpI_R h a.1 a.2 c
  rw [show (a.1, a.2) = a from rfl] at e
  rw [← e]
  refine ⟨stpI_len _ _ _ _ _, fun k hk y hy => ?_, fun s hs => ?_⟩
  · have q : (stpI rs a.1 a.2 c rs.length).getD k [] = toI rs[k] (a.1.getD k []) a.2 c rs[k].Le.length := by
      unfold stpI
      rw [List.getD_eq_getElem?_getD, List.getElem?_map, List.getElem?_range hk, Option.map_some, Option.getD_some, List.getElem?_eq_getElem hk]
    have hy' : y ∈ (stpI rs a.1 a.2 c rs.length).getD k [] := hy
    rw [q] at hy'
    unfold toI at hy'
    have := List.mem_range.1 (List.mem_filter.1 hy').1
    rw [(h _ (List.getElem_mem hk)).len]
    exact this
  · have hs' : s ∈ stpI rs a.1 a.2 c rs.length := hs
    unfold stpI at hs'
    obtain ⟨k, hk, rfl⟩ := List.mem_map.1 hs'
    have hk := List.mem_range.1 hk
    rw [List.getElem?_eq_getElem hk]
    have h1 := toI_len rs[k] (a.1.getD k []) a.2 c rs[k].Le.length
    have h2 := (h _ (List.getElem_mem hk)).few
    simp only
    omega
section
variable {rs : List Pr} {sy most : Nat}
theorem rowR_ok (h : ∀ r ∈ rs, PrOk r sy) (a : Rst) (all : List Rst) (ha : ∀ x ∈ all, RstOk rs x) : ∀ c, ∀ x ∈ (rowR (rs.map toPt) a all c).1, RstOk rs x
  | 0 => ha
  | c + 1 => by
    rw [rowR]
    split
    · exact rowR_ok h a all ha c
    · intro x hx
      rcases List.mem_append.1 hx with hx | hx
      · exact rowR_ok h a all ha c x hx
      · rw [List.mem_singleton] at hx
        subst hx
        exact okR_step h a c
theorem rowR_len (ps : List Pt) (a : Rst) (all : List Rst) : ∀ c, (rowR ps a all c).1.length ≤ all.length + c ∧ (rowR ps a all c).2.length = c
  | 0 => ⟨Nat.le_refl _, rfl⟩
  | c + 1 => by
    have ih := rowR_len ps a all c
    rw [rowR]
    split
    · exact ⟨by show (rowR ps a all c).1.length ≤ _; omega, by show ((rowR ps a all c).2 ++ [_]).length = _; rw [List.length_append, ih.2]; rfl⟩
    · exact ⟨by show ((rowR ps a all c).1 ++ [_]).length ≤ _; rw [List.length_append, List.length_singleton]; omega, by show ((rowR ps a all c).2 ++ [_]).length = _; rw [List.length_append, ih.2]; rfl⟩
/-- What is true of the loop. -/
structure RunJ (rs : List Pr) (sy most i : Nat) (r : Rs) : Prop where
  run : runR (rs.map toPt) sy most i = some r
  ok : ∀ a ∈ r.all, RstOk rs a
  len : r.all.length ≤ 32768
  nx : r.nx.length ≤ i
  ou : r.ou.length ≤ i
  n : r.n ≤ 4194304
theorem runJ_start (_h0 : 0 < most) : RunJ rs sy most 0 ⟨[startR (rs.map toPt)], [], [], 0⟩ := by
  refine ⟨rfl, fun a ha => ?_, by simp, Nat.le_refl _, Nat.le_refl _, Nat.zero_le _⟩
  rw [List.mem_singleton.1 ha]
  exact okR_start rs
/-- One round. -/
theorem runJ_step (h : ∀ r ∈ rs, PrOk r sy) (hsy : sy ≤ 16384) (hm : most ≤ 16384) {i : Nat} {r : Rs} (hr : RunJ rs sy most i r) {a : Rst} (ha : r.all[i]? = some a) (hf : ¬ r.full sy most) (hn : ¬ 4194304 < r.n + (outR (rs.map toPt) a).length) :
    RunJ rs sy most (i + 1) ⟨(rowR (rs.map toPt) a r.all sy).1, r.nx ++ [(rowR (rs.map toPt) a r.all sy).2], r.ou ++ [outR (rs.map toPt) a], r.n + (outR (rs.map toPt) a).length⟩ := by
  have hrl := rowR_len (rs.map toPt) a r.all sy
  have hfl : r.all.length ≤ most := by
    unfold Rs.full at hf
    omega
  refine ⟨?_, rowR_ok h a r.all hr.ok sy, ?_, ?_, ?_, ?_⟩
  · rw [runR, hr.run]
    simp only
    rw [ha]
    simp only
    unfold rndR
    rw [if_neg hf, if_neg hn]
  · show (rowR (rs.map toPt) a r.all sy).1.length ≤ _
    omega
  · show (r.nx ++ [_]).length ≤ _
    rw [List.length_append, List.length_singleton]
    have := hr.nx
    omega
  · show (r.ou ++ [_]).length ≤ _
    rw [List.length_append, List.length_singleton]
    have := hr.ou
    omega
  · show r.n + _ ≤ _
    omega
theorem bld_stop {ps : List Pt} {i : Nat} (hi : i ≤ most + 1) (h : runR ps sy most i = none) : bldR ps sy most = none := by
  have := runR_none h (most + 1 - i)
  unfold bldR
  rw [show most + 1 = i + (most + 1 - i) by omega, this]
/-- A round that is refused. -/
theorem bld_refuse {ps : List Pt} {i : Nat} {r : Rs} (hi : i ≤ most) (hr : runR ps sy most i = some r) {a : Rst} (ha : r.all[i]? = some a) (hf : r.full sy most ∨ 4194304 < r.n + (outR ps a).length) : bldR ps sy most = none := by
  refine bld_stop (i := i + 1) (by omega) ?_
  rw [runR, hr]
  simp only
  rw [ha]
  simp only
  unfold rndR
  by_cases h : r.full sy most
  · rw [if_pos h]
  · rw [if_neg h, if_pos (hf.resolve_left h)]
/-- The loop is done. -/
theorem bld_done {ps : List Pt} {i : Nat} {r : Rs} (hi : i ≤ most) (hr : runR ps sy most i = some r) (hl : r.all.length ≤ i) : bldR ps sy most = if r.full sy most then none else some (r.nx, r.ou) := by
  have := runR_done hr hl (most + 1 - i)
  unfold bldR
  rw [show most + 1 = i + (most + 1 - i) by omega, this]
end
/-- A machine is laid. -/
structure LaidM (W v1 v2 v3 : World) (R : Nat) (y a b : Value) : Prop where
  g1 : W.setCell ⟨R, 0, none⟩ y = v1
  g2 : v1.setCell ⟨R, 1, none⟩ a = v2
  g3 : v2.setCell ⟨R, 2, none⟩ b = v3
  z : W.cell? ⟨R, 0, none⟩ = some (.int .i64 0) ∧ W.cell? ⟨R, 1, none⟩ = some (.slice none 0 0) ∧ W.cell? ⟨R, 2, none⟩ = some (.slice none 0 0)
  a1 : v1.cell? ⟨R, 1, none⟩ = some (.slice none 0 0)
  a2 : v2.cell? ⟨R, 2, none⟩ = some (.slice none 0 0)
  f0 : ∀ k, W.frozen? ⟨R, k, none⟩ = false
  f1 : ∀ k, v1.frozen? ⟨R, k, none⟩ = false
  f2 : ∀ k, v2.frozen? ⟨R, k, none⟩ = false
  c : v3.cell? ⟨R, 0, none⟩ = some y ∧ v3.cell? ⟨R, 1, none⟩ = some a ∧ v3.cell? ⟨R, 2, none⟩ = some b
  only : Only W v3 (fun k => k = R)
theorem laidM {W : World} {R : Nat} (y a b : Value) (hrb : W.heap[R]? = some (.cells #[.int .i64 0, .slice none 0 0, .slice none 0 0] 28 (0, 0))) : ∃ v1 v2 v3, LaidM W v1 v2 v3 R y a b := by
  have r1 := heap_setCell_same W R 0 _ _ y hrb
  have r2 := heap_setCell_same _ R 1 _ _ a r1
  have r3 := heap_setCell_same _ R 2 _ _ b r2
  refine ⟨_, _, _, rfl, rfl, rfl, ⟨?_, ?_, ?_⟩, ?_, ?_, fun k => by simp [World.frozen?, hrb], fun k => by simp [World.frozen?, r1], fun k => by simp [World.frozen?, r2], ⟨?_, ?_, ?_⟩, ((Only.setCell _ _ _ _).trans (Only.setCell _ _ _ _) (fun _ h => .inl h)).trans (Only.setCell _ _ _ _) (fun _ h => .inl h)⟩
  all_goals first
    | (rw [cell_of_row _ _ _ _ _ _ hrb]; rfl)
    | (rw [cell_of_row _ _ _ _ _ _ r1]; rfl)
    | (rw [cell_of_row _ _ _ _ _ _ r2]; rfl)
    | (rw [cell_of_row _ _ _ _ _ _ r3]; rfl)
/-- The document's Build at work, at the head of its loop. -/
structure BdI (w W : World) (M : Nat) (vA vN vO : Value) (NX OU : List Value) (r : Rs) : Prop where
  bel : Below w.heap.size w W
  res : W.heap[w.heap.size]? = some (.cells #[.int .i64 0, .slice none 0 0, .slice none 0 0] 28 (0, 0))
  ma : MaI W w.heap.size M vN vO NX OU r.nx r.ou
  sts : StsI W w.heap.size (PM M vN vO) vA r.all
  le : w.heap.size < M
end Go.Proofs.YtbbejfkgopcjoaaDoor
namespace Go.Proofs.YtbbejfkgopcjoaaDoor
open Go.RowKit Go.Shelf
theorem infoSt : (Tryd.prog.info? 76).map (fun i => (i.zero, i.size, i.bytes)) = some (some (.agg #[.slice none 0 0, .bool false]), 2, 32) := by kernel_rfl
theorem grown_only {W W2 : World} {o : Obj} {v : Value} (hg : (W.alloc o).grownBy W2 v.ownBlock) : Only W W2 (fun k => v.ownBlock = some k) := ⟨hg.os, hg.tape, hg.output, by have := hg.size; simp at this; omega, fun k hk hn => by rw [hg.block k (by simp; omega) (fun e => hn e.symm), Below.heap_alloc W o k hk]⟩
/-- What stands beside a row of the machine that is being made. -/
def PR (M : Nat) (vN vO vR : Value) (k : Nat) : Prop := PM M vN vO k ∨ vR.ownBlock = some k
structure InJ (w wi W : World) (M : Nat) (vN vO vAi vA vR : Value) (all : List Rst) (row : List Nat) : Prop where
  only : Only wi W (fun k => vAi.ownBlock = some k)
  sts : StsI W w.heap.size (PR M vN vO vR) vA all
  row : OwnI W wi.heap.size vR (nI row)
  far : ∀ k, vA.ownBlock = some k → vAi.ownBlock = some k ∨ wi.heap.size ≤ k
section
variable {w wi W : World} {M : Nat} {vN vO vAi vA vR : Value} {NX OU : List Value} {all : List Rst} {row : List Nat} {r : Rs}
theorem InJ.start (h : BdI w wi M vAi vN vO NX OU r) : InJ w wi wi M vN vO vAi vAi (.slice none 0 0) r.all [] := ⟨Only.refl _ _, h.sts.keep (Q := fun _ => False) (Only.refl _ _) (fun _ q => q.elim) (fun _ _ q => q) (fun k _ q => q.elim id (fun q => by cases q)), World.ownsRow_nil _ _ _ _, fun k hk => .inl hk⟩
theorem InJ.past (h : InJ w wi W M vN vO vAi vA vR all row) {W' : World} (hb : Below W.heap.size W W') : InJ w wi W' M vN vO vAi vA vR all row := ⟨h.only.trans (T := fun _ => False) (Only.ofBelow hb _ (fun k h1 h2 => by omega)) (fun _ q => q.elim), h.sts.past hb, own_blk h.row (fun k hk => hb.block k (World.ownsRow.lt h.row k hk).2), h.far⟩
/-- The machine's own blocks are the same. -/
theorem InJ.ma (h : InJ w wi W M vN vO vAi vA vR all row) (hb : BdI w wi M vAi vN vO NX OU r) : MaI W w.heap.size M vN vO NX OU r.nx r.ou := by
  obtain ⟨VS, h1, _⟩ := hb.sts.own
  exact hb.ma.keB (KeB.row (T := [76]) h1 (by simp) h.only) (by decide) (by decide) (by decide)
theorem InJ.bel (h : InJ w wi W M vN vO vAi vA vR all row) (hb : BdI w wi M vAi vN vO NX OU r) : Below w.heap.size w W := by
  obtain ⟨VS, h1, _⟩ := hb.sts.own
  exact hb.bel.trans (h.only.below hb.bel.size (fun k hk => (World.ownsRow.lt h1 k hk).1))
theorem InJ.res (h : InJ w wi W M vN vO vAi vA vR all row) (hb : BdI w wi M vAi vN vO NX OU r) : W.heap[w.heap.size]? = some (.cells #[.int .i64 0, .slice none 0 0, .slice none 0 0] 28 (0, 0)) := by
  obtain ⟨VS, h1, _⟩ := hb.sts.own
  exact (KeB.row (T := [76]) h1 (by simp) h.only).kp _ _ hb.res (fun _ _ _ e => by injection e with _ e2; rw [← e2]; decide)
/-- Blocks that are watched lie there already. -/
theorem InJ.lt (h : InJ w wi W M vN vO vAi vA vR all row) (hb : BdI w wi M vAi vN vO NX OU r) (k : Nat) (hk : PR M vN vO vR k ∨ vA.ownBlock = some k) : k < W.heap.size := by
  rcases hk with (hk | hk) | hk
  · exact (h.ma hb).lt hk
  · exact (World.ownsRow.lt h.row k hk).2
  · obtain ⟨VS, h1, _⟩ := h.sts.own
    exact (World.ownsRow.lt h1 k hk).2
/-- A new state. -/
theorem InJ.add {W2 : World} {v' : Value} {VS : List Value} {s : Rst} {aT : Option Addr} {cT : Nat} {o : Obj} (h : InJ w wi W M vN vO vAi vA vR all row) (h1 : W.ownsRow w.heap.size 76 2 vA all.length VS) (h2 : ∀ i (h : i < all.length), ∃ aT cT, VS[i * 2]? = some (.slice aT (all[i]).1.length cT) ∧ VS[i * 2 + 1]? = some (.bool (all[i]).2) ∧ RwF W (fun k => PR M vN vO vR k ∨ vA.ownBlock = some k) aT ((all[i]).1.map nI))
    (hs : RwF W (fun k => PR M vN vO vR k ∨ vA.ownBlock = some k) aT (s.1.map nI)) (hown : W2.ownsRow w.heap.size 76 2 v' (all.length + 1) (VS ++ [.slice aT s.1.length cT, .bool s.2])) (hg : (W.alloc o).grownBy W2 vA.ownBlock) (hat : v'.ownBlock = vA.ownBlock ∨ v'.ownBlock = some (W.alloc o).heap.size) : InJ w wi W2 M vN vO vAi v' vR (all ++ [s]) row := by
  have hO := grown_only hg
  refine ⟨h.only.trans hO (fun k hk => h.far k hk), StsI.snoc h1 h2 hs hown hg hat, own_blk h.row (fun k hk => hO.block k (World.ownsRow.lt h.row k hk).2 (fun e => Apt.ofTyp h.row h1 (by decide) k hk e)), fun k hk => ?_⟩
  rcases hat with hat | hat
  · rw [hat] at hk; exact h.far k hk
  · rw [hat] at hk
    injection hk with hk
    have := h.only.size
    simp at hk
    exact .inr (by omega)
/-- A number more in the row. -/
theorem InJ.put {W2 : World} {v' : Value} {x n : Nat} {o : Obj} (h : InJ w wi W M vN vO vAi vA vR all row) (hn : n = (nI row).length) (hown : W2.ownsRow wi.heap.size 3 1 v' (n + 1) ((nI row).map (Value.int .i64) ++ [.int .i64 (x : Int)])) (hg : (W.alloc o).grownBy W2 vR.ownBlock) (hat : v'.ownBlock = vR.ownBlock ∨ v'.ownBlock = some (W.alloc o).heap.size) : InJ w wi W2 M vN vO vAi vA v' all (row ++ [x]) := by
  have hO := grown_only hg
  obtain ⟨VS, h1, _⟩ := h.sts.own
  refine ⟨h.only.trans hO (fun k hk => .inr (World.ownsRow.lt h.row k hk).1), h.sts.keep hO (fun k q => .inr q) (fun k hk q => Apt.ofTyp h1 h.row (by decide) k hk q) (fun k hk q => ?_), ?_, h.far⟩
  · rcases q with q | q
    · exact .inl q
    · rcases hat with hat | hat
      · rw [hat] at q; exact .inr q
      · rw [hat] at q
        injection q with q
        simp at q
        omega
  · unfold OwnI
    have e : nI (row ++ [x]) = nI row ++ [(x : Int)] := by unfold nI; rw [List.map_append]; rfl
    rw [e, List.length_append, List.map_append, ← hn]
    exact hown
end
theorem MaI.nres {W : World} {lo M R : Nat} {vN vO : Value} {NX OU : List Value} {nx ou : List (List Nat)} {cs : Array Value} (h : MaI W lo M vN vO NX OU nx ou) (hr : W.heap[R]? = some (.cells cs 28 (0, 0))) (hne : R < M) : ¬ PM M vN vO R := fun q => by
  rcases q with q | q | q
  · omega
  · obtain ⟨c2, e⟩ := own_typ h.nx.outer q
    rw [hr] at e
    injection e with e
    injection e with _ e
    exact absurd e (by decide)
  · obtain ⟨c2, e⟩ := own_typ h.ou.outer q
    rw [hr] at e
    injection e with e
    injection e with _ e
    exact absurd e (by decide)
theorem MaI.ge {W : World} {lo M : Nat} {vN vO : Value} {NX OU : List Value} {nx ou : List (List Nat)} (h : MaI W lo M vN vO NX OU nx ou) (hl : lo ≤ M) {k : Nat} (hk : PM M vN vO k) : lo ≤ k := by
  rcases hk with rfl | q | q
  · exact hl
  · exact (World.ownsRow.lt h.nx.outer k q).1
  · exact (World.ownsRow.lt h.ou.outer k q).1
section
variable {w W W1 : World} {M n : Nat} {vA vN vO v' x : Value} {NX OU : List Value} {l : List Nat} {r : Rs} {o : Obj}
theorem BdI.past (h : BdI w W M vA vN vO NX OU r) {W' : World} (hb : Below W.heap.size W W') : BdI w W' M vA vN vO NX OU r := ⟨Below.later h.bel hb, (hb.block _ (Array.getElem?_eq_some_iff.1 h.res).1).trans h.res, h.ma.keB (KeB.below [] hb) (by simp) (by simp) (by simp), h.sts.past hb, h.le⟩
theorem BdI.addN (h : BdI w W M vA vN vO NX OU r) (hx : OwnI W w.heap.size x (nI l)) (hn : n = NX.length) (hown : W1.ownsRow w.heap.size 34 1 v' (n + 1) (NX ++ [x])) (hg : (W.alloc o).grownBy W1 vN.ownBlock) (hat : v'.ownBlock = vN.ownBlock ∨ v'.ownBlock = some (W.alloc o).heap.size) :
    W1.heap[M]? = some (.cells #[.int .i64 0, vN, vO] 28 (0, 0)) ∧ BdI w (W1.setCell ⟨M, 1, none⟩ v') M vA v' vO (NX ++ [x]) OU ⟨r.all, r.nx ++ [l], r.ou, r.n⟩ := by
  obtain ⟨a1, a2, a3, a4⟩ := h.ma.addN hx hn hown hg hat
  obtain ⟨VS, h1, _⟩ := h.sts.own
  exact ⟨a1, h.bel.trans (a3.below h.bel.size (fun k hk => h.ma.ge (Nat.le_of_lt h.le) hk)), (a3.block _ (Array.getElem?_eq_some_iff.1 h.res).1 (h.ma.nres h.res h.le)).trans h.res, a2, h.sts.keep a3 (fun _ q => q) (fun k hk => h.ma.no h1 k hk) a4, h.le⟩
theorem BdI.addO (m : Nat) (h : BdI w W M vA vN vO NX OU r) (hx : OwnI W w.heap.size x (nI l)) (hn : n = OU.length) (hown : W1.ownsRow w.heap.size 34 1 v' (n + 1) (OU ++ [x])) (hg : (W.alloc o).grownBy W1 vO.ownBlock) (hat : v'.ownBlock = vO.ownBlock ∨ v'.ownBlock = some (W.alloc o).heap.size) :
    W1.heap[M]? = some (.cells #[.int .i64 0, vN, vO] 28 (0, 0)) ∧ BdI w (W1.setCell ⟨M, 2, none⟩ v') M vA vN v' NX (OU ++ [x]) ⟨r.all, r.nx, r.ou ++ [l], m⟩ := by
  obtain ⟨a1, a2, a3, a4⟩ := h.ma.addO hx hn hown hg hat
  obtain ⟨VS, h1, _⟩ := h.sts.own
  exact ⟨a1, h.bel.trans (a3.below h.bel.size (fun k hk => h.ma.ge (Nat.le_of_lt h.le) hk)), (a3.block _ (Array.getElem?_eq_some_iff.1 h.res).1 (h.ma.nres h.res h.le)).trans h.res, a2, h.sts.keep a3 (fun _ q => q) (fun k hk => h.ma.no h1 k hk) a4, h.le⟩
/-- The row is made. -/
theorem InJ.bdi {wi : World} {vAi vR : Value} {all : List Rst} {row : List Nat} (h : InJ w wi W M vN vO vAi vA vR all row) (hb : BdI w wi M vAi vN vO NX OU r) : BdI w W M vA vN vO NX OU ⟨all, r.nx, r.ou, r.n⟩ ∧ OwnI W w.heap.size vR (nI row) := ⟨⟨h.bel hb, h.res hb, (by have q := h.ma hb; exact q), h.sts.keep (Q := fun _ => False) (Only.refl _ _) (fun _ q => q.elim) (fun _ _ q => q) (fun _ _ q => .inl q), hb.le⟩, owns_lower h.row hb.bel.size⟩
end
theorem row3f {W : World} {X : Nat} {t : TypeId} {a b c : Value} (h : W.heap[X]? = some (.cells #[a, b, c] t (0, 0))) : W.cell? ⟨X, 0, none⟩ = some a ∧ W.cell? ⟨X, 1, none⟩ = some b ∧ W.cell? ⟨X, 2, none⟩ = some c ∧ ∀ k, W.frozen? ⟨X, k, none⟩ = false :=
  ⟨by rw [cell_of_row _ _ _ _ _ _ h]; rfl, by rw [cell_of_row _ _ _ _ _ _ h]; rfl, by rw [cell_of_row _ _ _ _ _ _ h]; rfl, fun k => by simp [World.frozen?, h]⟩
end Go.Proofs.YtbbejfkgopcjoaaDoor
