/-
  McWM, McXM, McSaW, McWW, McYM, McZM, PlMM, MeAM.
-/
import Derived.Test.YtbbejfkgopcjoaaDoorNeay
import Derived.Test.YtbbejfkgopcjoaaDoorNeam
import Derived.Test.YtbbejfkgopcjoaaDoorNeab
import Derived.Test.YtbbejfkgopcjoaaDoorNeal
import Derived.Test.YtbbejfkgopcjoaaDoorNeaa
import Derived.Test.YtbbejfkgopcjoaaDoorNeax
namespace Go.Proofs.YtbbejfkgopcjoaaDoor
/-- Of what Build has made. -/
theorem BldV.rows {rs : List Pr} {sy most : Int} {b : Bs} (h : BldV rs sy most b) : ∀ r ∈ b.nx.map nI, (r.length : Int) = sy ∧ ∀ x ∈ r, oneOf (b.nx.map nI).length x = true := fun r hr => by
  obtain ⟨l, hl, rfl⟩ := List.mem_map.1 hr
  obtain ⟨q1, q2⟩ := h.val.1 l hl
  refine ⟨by rw [nI_len]; exact q1, fun x hx => ?_⟩
  unfold nI at hx
  obtain ⟨y, hy, rfl⟩ := List.mem_map.1 hx
  rw [oneOf_iff, List.length_map]
  have := q2 y hy
  omega
end Go.Proofs.YtbbejfkgopcjoaaDoor
namespace Go.Proofs.YtbbejfkgopcjoaaDoor
open Go.RowKit Go.Shelf
theorem OwnI.cap {w : World} {base : Nat} {v : Value} {L : List Int} (h : OwnI w base v L) : ∃ a cap, v = .slice a L.length cap ∧ IA w a L ∧ L.length ≤ cap ∧ (a = none → cap = 0) := by
  have h0 := h
  rcases h.2 with ⟨rfl, hn⟩ | ⟨g, cap, cur, rfl, hg, hr, hc, _⟩
  · exact ⟨none, 0, by rw [hn], ⟨fun k hk => by omega⟩, by omega, fun _ => rfl⟩
  · refine ⟨_, cap, rfl, ⟨fun k hk => ⟨g, 0, rfl, (World.ownsRow.lt h0 g rfl).2, ?_⟩⟩, hc, fun e => by cases e⟩
    have := World.ownsRow.cellAt h0 k (by omega)
    rw [Nat.zero_add, this]
    simp [hk]
theorem OwnI.box {w : World} {base : Nat} {v : Value} {L : List Int} (h : OwnI w base v L) (hl : 0 < L.length) : ∃ T cap, v = .slice (some ⟨T, 0, none⟩) L.length cap ∧ L.length ≤ cap ∧ IA w (some ⟨T, 0, none⟩) L := by
  have h0 := h
  rcases h.2 with ⟨rfl, hn⟩ | ⟨g, cap, cur, rfl, hg, hr, hc, _⟩
  · omega
  · refine ⟨g, cap, rfl, hc, ⟨fun k hk => ⟨g, 0, rfl, (World.ownsRow.lt h0 g rfl).2, ?_⟩⟩⟩
    have := World.ownsRow.cellAt h0 k (by omega)
    rw [Nat.zero_add, this]
    simp [hk]
/-- From a place on. -/
theorem IA.tail {w : World} {a : Option Addr} {L : List Int} (h : IA w a L) {c i : Nat} (hc : L.length ≤ c) (hi : i ≤ L.length) : IA w (if c = i then a else a.map (fun x => x.add i)) (L.drop i) := ⟨fun k hk => by
  rw [List.length_drop] at hk
  obtain ⟨b, off, rfl, h1, h2⟩ := h.at' (i + k) (by omega)
  rw [if_neg (by omega)]
  refine ⟨b, off + i, by rw [Option.map_some, Addr.add_lit], h1, ?_⟩
  rw [Nat.add_assoc, h2]
  congr 2
  rw [List.getElem_drop]⟩
theorem IA.head {w : World} {a : Option Addr} {L : List Int} (h : IA w a L) (k : Nat) : IA w a (L.take k) := ⟨fun j hj => by
  rw [List.length_take] at hj
  obtain ⟨b, off, rfl, h1, h2⟩ := h.at' j (by omega)
  refine ⟨b, off, rfl, h1, ?_⟩
  rw [h2]
  congr 2
  rw [List.getElem_take]⟩
end Go.Proofs.YtbbejfkgopcjoaaDoor
namespace Go.Proofs.YtbbejfkgopcjoaaDoor
open Go.RowKit Go.Shelf
theorem drew_more {w w' : World} {a b : Nat} (h : ∃ m, w' = (w.drewN (a + b)).drewN m) : ∃ n, w' = w.drewN (a + n) := by
  obtain ⟨m, hm⟩ := h
  exact ⟨b + m, by rw [hm, World.drewN_drewN, Nat.add_assoc]⟩
set_option maxRecDepth 10000 in
set_option maxHeartbeats 1600000 in
theorem sameRows (L : List (List Int)) (a b : Option Addr) (ca cb : Nat) (w : World) (hl : L.length ≤ 1000000000) (hr : ∀ r ∈ L, r.length ≤ 1000000000) (ha : RwA w a L) (hb : RwA w b L) :
    Calls Tryd.prog 33 #[.slice a L.length ca, .slice b L.length cb] w fun e w' => e = .returned (.bool true) ∧ ∃ n, w' = w.drewN n := by
  have HA := hid0 ha
  have HB := hid0 hb
  have HR := hid0 hr
  clear ha hb hr
  go_enter Tryd.func33, Tryd.ntmps33
  go_wp2
  go_loopw [5] (fun i wr => ∃ k : Nat, k ≤ L.length ∧ i = .int .i64 (k : Int) ∧ ∃ n, wr = w.drewN n) (fun i _ => L.length - (intOf i).toNat)
  case atStart => exact ⟨0, Nat.zero_le _, rfl, 0, rfl⟩
  case round =>
    obtain ⟨k, hk, rfl, nd, rfl⟩ := hrel
    by_cases hlt : k < L.length
    · obtain ⟨b1, o1, rfl, _, a1, c1, d1, i1⟩ := HA.out.at' k hlt
      obtain ⟨b2, o2, rfl, _, a2, c2, d2, i2⟩ := HB.out.at' k hlt
      have HS := hid0 (fun n => sameI L[k] a1 a2 c1 c2 (w.drewN n) (by have := HR.out _ (List.getElem_mem hlt); omega) ⟨i1.at'⟩ ⟨i2.at'⟩)
      clear i1 i2
      generalize L[k] = s at *
      have hkI : (k : Int) < (L.length : Int) := by omega
      have hkI0 : (0 : Int) ≤ (k : Int) := by omega
      go_wp2
      go_quiet ((go_at_call 14; exact (HS.out _).mono (fun _ _ h => ⟨h.1, drew_more h.2⟩)))
      go_wp2
      go_roundw
      case rel => exact ⟨k + 1, by omega, by go_num, _, rfl⟩
      case measure => simp [intOf]; omega
    · have hkI : ¬ (k : Int) < (L.length : Int) := by omega
      go_wp2
      go_ret
      exact ⟨rfl, nd, rfl⟩
theorem two_boxes (w : World) (a b : Array Value) (t : TypeId) : ∃ w0, (w.alloc (.cells a t)).alloc (.cells b t) = w0 ∧ Below w.heap.size w w0 ∧ w0.heap.size = w.heap.size + 1 + 1 ∧ w0.heap[w.heap.size]? = some (.cells a t (0, 0)) ∧ w0.heap[w.heap.size + 1]? = some (.cells b t (0, 0)) := by
  refine ⟨_, rfl, ((Below.refl _ _).alloc (Nat.le_refl _) _).alloc (by simp) _, by simp, ?_, ?_⟩
  · rw [Below.heap_alloc _ _ _ (by simp)]
    exact heap_alloc_new w _
  · have h := heap_alloc_new (w.alloc (.cells a t)) (.cells b t)
    simpa using h
theorem row3c {W : World} {X : Nat} {t : TypeId} {a b c : Value} (h : W.heap[X]? = some (.cells #[a, b, c] t (0, 0))) : W.cell? ⟨X, 0, none⟩ = some a ∧ W.cell? ⟨X, 1, none⟩ = some b ∧ W.cell? ⟨X, 2, none⟩ = some c :=
  ⟨by rw [cell_of_row _ _ _ _ _ _ h]; rfl, by rw [cell_of_row _ _ _ _ _ _ h]; rfl, by rw [cell_of_row _ _ _ _ _ _ h]; rfl⟩
set_option maxRecDepth 10000 in
set_option maxHeartbeats 1600000 in
theorem sameMachine (st : Int) (N O : List (List Int)) (aN aO aM aP : Option Addr) (cN cO cM cP : Nat) (w : World) (hn : N.length ≤ 1000000000) (hnr : ∀ r ∈ N, r.length ≤ 1000000000) (ho : O.length ≤ 1000000000) (hor : ∀ r ∈ O, r.length ≤ 1000000000) (h1 : RwA w aN N) (h2 : RwA w aO O) (h3 : RwA w aM N) (h4 : RwA w aP O) :
    Calls Tryd.prog 11 #[.agg #[.int .i64 st, .slice aN N.length cN, .slice aO O.length cO], .agg #[.int .i64 st, .slice aM N.length cM, .slice aP O.length cP]] w fun e w' => e = .returned (.bool true) ∧ Below w.heap.size w w' := by
  obtain ⟨w0, hw0, hB0, hsz0, hA0, hM0⟩ := two_boxes w #[.int .i64 st, .slice aN N.length cN, .slice aO O.length cO] #[.int .i64 st, .slice aM N.length cM, .slice aP O.length cP] 28
  obtain ⟨x0, x1, x2⟩ := row3c hA0
  obtain ⟨y0, y1, y2⟩ := row3c hM0
  have HS1 := hid0 (sameRows N aN aM cN cM w0 hn hnr (h1.past hB0) (h3.past hB0))
  have HS2 : Hid (∀ n, Calls Tryd.prog 33 #[.slice aO O.length cO, .slice aP O.length cP] (w0.drewN n) fun e w' => e = .returned (.bool true) ∧ ∃ m, w' = (w0.drewN n).drewN m) := hid0 (fun n => sameRows O aO aP cO cP (w0.drewN n) ho hor ((h2.past hB0).past (below_drew' (Below.refl _ _) n)) ((h4.past hB0).past (below_drew' (Below.refl _ _) n)))
  have HB0 := hid0 hB0
  have hself : (st == st) = true := by simp
  clear hB0 hA0 hM0 h1 h2 h3 h4 hsz0
  go_enter Tryd.func11, Tryd.ntmps11
  go_wp2_with (first
    | (go_at_call 33; have hq := HQ.out; refine (HS2.out n1).mono ?_; rintro e w2 ⟨rfl, n2, hw2⟩; rw [World.drewN_drewN] at hw2; subst hw2; clear hq)
    | (go_at_call 33; refine HS1.out.mono ?_; rintro e w1 ⟨rfl, n1, hw1⟩; subst hw1; have HQ : Hid True := hid0 trivial; clear HS1))
  go_ret
  exact ⟨rfl, below_drew' HB0.out _⟩
end Go.Proofs.YtbbejfkgopcjoaaDoor
namespace Go.Proofs.YtbbejfkgopcjoaaDoor
open Go.RowKit Go.Shelf
theorem bel_drew {B : Nat} {w a : World} (h : Below B w a) : Below B w a.drew := ⟨h.os, h.tape, h.output, h.size, h.block⟩
theorem IA.cellAt {w : World} {b off : Nat} {L : List Int} (h : IA w (some ⟨b, off, none⟩) L) {k : Nat} (hk : k < L.length) : w.cell? ⟨b, off + k, none⟩ = some (.int .i64 L[k]) := by
  obtain ⟨b', off', e, _, h2⟩ := h.at' k hk
  simp only [Option.some.injEq, Addr.mk.injEq, and_true] at e
  obtain ⟨rfl, rfl⟩ := e
  exact h2
end Go.Proofs.YtbbejfkgopcjoaaDoor
namespace Go.Proofs.YtbbejfkgopcjoaaDoor
open Go.RowKit Go.Shelf
/-- All symbols' states are found. -/
theorem nsF_row {T : Nat → List UInt8} {O : Nat → List Nat} {most : Nat} {ks : List (List UInt8)} {outs : Nat} {ou : List (List Nat)} : ∀ {c : Nat} {k : List (List UInt8)} {n : Nat} {o : List (List Nat)} {l : List Nat}, nsF T O most ks outs ou c = some (k, n, o, l) → o = ou ++ (ncF T ks c).map O ∧ l.length = c ∧ ∀ d, d < c → ∃ i, l[d]? = some (i + 1) ∧ k[i]? = some (T d)
  | 0, k, n, o, l, h => by
    rw [nsF] at h
    simp only [Option.some.injEq, Prod.mk.injEq] at h
    obtain ⟨rfl, rfl, rfl, rfl⟩ := h
    exact ⟨by simp [ncF], rfl, fun d hd => absurd hd (Nat.not_lt_zero _)⟩
  | c + 1, k, n, o, l, h => by
    cases hq : nsF T O most ks outs ou c with
    | none => rw [nsF, hq] at h; cases h
    | some q =>
      obtain ⟨k1, n1, o1, l1⟩ := q
      obtain ⟨i1, i2, i3⟩ := nsF_row hq
      have hks := nsF_ks hq
      by_cases hm : T c ∈ k1
      · rw [nsF_old hq hm] at h
        simp only [Option.some.injEq, Prod.mk.injEq] at h
        obtain ⟨rfl, rfl, rfl, rfl⟩ := h
        have hi := List.idxOf_lt_length_of_mem hm
        refine ⟨by rw [ncF, ← hks, if_pos hm]; exact i1, by rw [List.length_append, i2]; rfl, fun d hd => ?_⟩
        by_cases hdc : d < c
        · obtain ⟨i, h1, h2⟩ := i3 d hdc
          exact ⟨i, by rw [List.getElem?_append_left (by omega)]; exact h1, h2⟩
        · obtain rfl : d = c := by omega
          refine ⟨k1.idxOf (T d), by rw [List.getElem?_append_right (by omega), i2, Nat.sub_self]; rfl, ?_⟩
          rw [List.getElem?_eq_getElem hi, List.getElem_idxOf]
      · by_cases hf : k1.length + 1 = most ∨ 4194304 < n1 + (O c).length
        · rw [nsF_full hq hm hf] at h; cases h
        · rw [nsF_new hq hm hf] at h
          simp only [Option.some.injEq, Prod.mk.injEq] at h
          obtain ⟨rfl, rfl, rfl, rfl⟩ := h
          refine ⟨by rw [ncF, ← hks, if_neg hm, List.map_append, i1, List.append_assoc]; rfl, by rw [List.length_append, i2]; rfl, fun d hd => ?_⟩
          by_cases hdc : d < c
          · obtain ⟨i, h1, h2⟩ := i3 d hdc
            have hi : i < k1.length := (List.getElem?_eq_some_iff.1 h2).1
            exact ⟨i, by rw [List.getElem?_append_left (by omega)]; exact h1, by rw [List.getElem?_append_left hi]; exact h2⟩
          · obtain rfl : d = c := by omega
            refine ⟨k1.length, by rw [List.getElem?_append_right (by omega), i2, Nat.sub_self]; rfl, ?_⟩
            rw [List.getElem?_append_right (by omega), Nat.sub_self]
            rfl
theorem bR_ext {j : Jn} {N : Nat} {fs : Nat → Nat → Bool} {b b' : Bs} {e : List (Nat × (Nat → Bool))} (h : b'.gs = b.gs ++ e) {s : Nat} (hs : s ≤ b.gs.length) : bR j N fs b' s = bR j N fs b s := by
  unfold bR
  by_cases h0 : s = 0
  · rw [if_pos h0, if_pos h0]
  · rw [if_neg h0, if_neg h0, h]
    have e1 : (b.gs ++ e).getD (s - 1) (0, fun _ => false) = b.gs.getD (s - 1) (0, fun _ => false) := by
      rw [List.getD_eq_getElem?_getD, List.getD_eq_getElem?_getD, List.getElem?_append_left (by omega)]
    rw [e1]
/-- The rows lead to the texts of what they stand for; what is told is told of it. -/
structure BsT (j : Jn) (N sy : Nat) (ix : Nat → Nat) (fs : Nat → Nat → Bool) (os : List (List UInt8 × List Nat)) (b : Bs) : Prop where
  len : b.gs.length = b.ks.length
  ou : b.ou = j.at0 :: b.gs.map fun p => outF j N os p.1 p.2
  row : ∀ s l, b.nx[s]? = some l → s ≤ b.ks.length ∧ ∀ c, c < sy → ∃ i, l[c]? = some (i + 1) ∧ b.ks[i]? = some (bT j N ix (bR j N fs b s) c)
theorem bRun_t {j : Jn} {N sy most : Nat} {ix : Nat → Nat} {fs : Nat → Nat → Bool} {os : List (List UInt8 × List Nat)} : ∀ {s : Nat} {b : Bs}, bRun j N sy most ix fs os s = some b → BsT j N sy ix fs os b
  | 0, b, h => by
    rw [bRun] at h
    by_cases hf : most = 0 ∨ 4194304 < j.at0.length
    · rw [if_pos hf] at h; cases h
    · rw [if_neg hf] at h
      simp only [Option.some.injEq] at h
      subst h
      exact ⟨rfl, rfl, fun s l h => by simp at h⟩
  | s + 1, b, h => by
    cases hq : bRun j N sy most ix fs os s with
    | none => rw [bRun, hq] at h; cases h
    | some b0 =>
      have ih := bRun_t hq
      obtain ⟨v1, v2⟩ := bRun_val hq
      by_cases hs : s < b0.ks.length + 1
      · rw [bRun_more hq hs] at h
        have hnx : b0.nx.length = s := by
          rcases v2 with e | ⟨e, e2⟩
          · exact e
          · omega
        unfold bStep at h
        cases hn : nsF (bT j N ix (bR j N fs b0 s)) (fun c => outF j N os (ix c) (andB (bR j N fs b0 s) (ltF j.LE c))) most b0.ks b0.n b0.ou sy with
        | none => rw [hn] at h; cases h
        | some q =>
          obtain ⟨k, n, o, l⟩ := q
          rw [hn] at h
          simp only [Option.some.injEq] at h
          subst h
          obtain ⟨r1, r2, r3⟩ := nsF_row hn
          have hk := nsF_ks hn
          have hbR : ∀ t, t ≤ b0.ks.length → bR j N fs ⟨k, b0.gs ++ (ncF (bT j N ix (bR j N fs b0 s)) b0.ks sy).map (fun c => (ix c, andB (bR j N fs b0 s) (ltF j.LE c))), n, o, b0.nx ++ [l]⟩ t = bR j N fs b0 t := fun t ht => bR_ext rfl (by rw [ih.len]; exact ht)
          refine ⟨?_, ?_, fun t l' ht => ?_⟩
          · show (b0.gs ++ (ncF (bT j N ix (bR j N fs b0 s)) b0.ks sy).map (fun c => (ix c, andB (bR j N fs b0 s) (ltF j.LE c)))).length = k.length
            rw [hk, List.length_append, List.length_append, List.length_map, List.length_map, ih.len]
          · show o = j.at0 :: (b0.gs ++ (ncF (bT j N ix (bR j N fs b0 s)) b0.ks sy).map (fun c => (ix c, andB (bR j N fs b0 s) (ltF j.LE c)))).map _
            rw [r1, ih.ou, List.map_append, List.map_map]
            rfl
          · have ht' : (b0.nx ++ [l])[t]? = some l' := ht
            by_cases htl : t < b0.nx.length
            · rw [List.getElem?_append_left htl] at ht'
              obtain ⟨w1, w2⟩ := ih.row t l' ht'
              refine ⟨by show t ≤ k.length; rw [hk, List.length_append]; omega, fun c hc => ?_⟩
              obtain ⟨i, x1, x2⟩ := w2 c hc
              have hi : i < b0.ks.length := (List.getElem?_eq_some_iff.1 x2).1
              refine ⟨i, x1, ?_⟩
              rw [hbR t w1]
              show k[i]? = _
              rw [hk, List.getElem?_append_left hi]
              exact x2
            · have htn : t < (b0.nx ++ [l]).length := (List.getElem?_eq_some_iff.1 ht').1
              rw [List.length_append, List.length_singleton] at htn
              obtain rfl : t = b0.nx.length := by omega
              rw [List.getElem?_append_right (by omega), Nat.sub_self] at ht'
              have e : l = l' := by simpa using ht'
              subst e
              refine ⟨by show b0.nx.length ≤ k.length; rw [hk, List.length_append]; omega, fun c hc => ?_⟩
              obtain ⟨i, x1, x2⟩ := r3 c hc
              refine ⟨i, x1, ?_⟩
              rw [hbR _ (by omega), hnx]
              exact x2
      · rw [bRun, hq] at h
        simp only at h
        rw [if_neg hs] at h
        simp only [Option.some.injEq] at h
        subst h
        exact ih
theorem bRun_ok {j : Jn} {N sy most : Nat} {ix : Nat → Nat} {fs : Nat → Nat → Bool} {os : List (List UInt8 × List Nat)} (hix : ∀ c, c < sy → ix c < os.length) (hLE : j.LE.length = j.own.length) : ∀ {s : Nat} {b : Bs}, bRun j N sy most ix fs os s = some b → BsOk j N os b
  | 0, b, h => by
    rw [bRun] at h
    by_cases hf : most = 0 ∨ 4194304 < j.at0.length
    · rw [if_pos hf] at h; cases h
    · rw [if_neg hf] at h
      simp only [Option.some.injEq] at h
      subst h
      exact ⟨rfl, fun i h => absurd h (Nat.not_lt_zero _), fun x hx => by simp at hx, fun x hx => by simp at hx⟩
  | s + 1, b, h => by
    cases hq : bRun j N sy most ix fs os s with
    | none => rw [bRun, hq] at h; cases h
    | some b0 =>
      have ih := bRun_ok hix hLE hq
      by_cases hs : s < b0.ks.length + 1
      · rw [bRun_more hq hs] at h
        exact ih.step hix hLE h
      · rw [bRun, hq] at h
        simp only at h
        rw [if_neg hs] at h
        simp only [Option.some.injEq] at h
        subst h
        exact ih
/-- What stands behind places. -/
def folF (j : Jn) (N : Nat) (S : Nat → Bool) (q : Nat) : Bool := (List.range (64 * N)).any fun p => S p && inR (j.FO.getD p []) q
/-- The places that a symbol leads to. -/
def acF (j : Jn) (N : Nat) (S : Nat → Bool) (c : Nat) : Nat → Bool := fun q => (j.op q || folF j N S q) && ltF j.LE c q
def ac0 (j : Jn) (c : Nat) : Nat → Bool := fun q => (j.op q || j.cl q) && ltF j.LE c q
theorem rcF_fol (j : Jn) (N : Nat) (fo f : Nat → Bool) {q : Nat} (hq : q < 64 * N) : rcF j N fo f q = (folF j N (fun p => fo p || f p) q && !j.op q) := by
  unfold rcF anF
  have hd : decide (q / 64 < N) = true := decide_eq_true (by omega)
  rw [hd, Bool.true_and]
  congr 1
  unfold accF folF plB
  rw [Bool.false_or, List.any_filter, List.any_filter, Bool.eq_iff_iff, Bool.or_eq_true, List.any_eq_true, List.any_eq_true, List.any_eq_true]
  constructor
  · rintro (⟨p, hp, e⟩ | ⟨p, hp, e⟩)
    · rw [Bool.and_eq_true] at e
      exact ⟨p, hp, by simp only [e.1, e.2, Bool.true_or, Bool.and_self]⟩
    · rw [Bool.and_eq_true] at e
      exact ⟨p, hp, by simp only [e.1, e.2, Bool.or_true, Bool.and_self]⟩
  · rintro ⟨p, hp, e⟩
    rw [Bool.and_eq_true, Bool.or_eq_true] at e
    rcases e.1 with h1 | h1
    · exact .inl ⟨p, hp, by rw [h1, e.2]; rfl⟩
    · exact .inr ⟨p, hp, by rw [h1, e.2]; rfl⟩
theorem csF_text (f : Nat → List UInt8) {k c : Nat} (h : c < k) : f ((csF f k).getD (ixF f k c) 0) = f c := by
  have hm := csF_mem f k c h
  have hi := List.idxOf_lt_length_of_mem hm
  have e : ((csF f k).map f)[ixF f k c]? = some (f c) := by
    unfold ixF
    rw [List.getElem?_eq_getElem hi, List.getElem_idxOf]
  rw [List.getElem?_map] at e
  obtain ⟨x, h1, h2⟩ := Option.map_eq_some_iff.1 e
  rw [List.getD_eq_getElem?_getD, h1, Option.getD_some, h2]
theorem mem_onceC : ∀ (l acc : List Nat) (z : Nat), z ∈ onceC acc l ↔ z ∈ acc ∨ z ∈ l
  | [], acc, z => by simp [onceC]
  | x :: l, acc, z => by
    rw [onceC, mem_onceC l]
    by_cases h : acc.getLast? = some x
    · rw [if_pos h, List.mem_cons]
      have hx : x ∈ acc := List.mem_of_getLast? h
      constructor
      · rintro (h | h)
        · exact .inl h
        · exact .inr (.inr h)
      · rintro (h | rfl | h)
        · exact .inl h
        · exact .inl hx
        · exact .inr h
    · rw [if_neg h, List.mem_append, List.mem_singleton, List.mem_cons]
      constructor
      · rintro ((h | h) | h)
        · exact .inl h
        · exact .inr (.inl h)
        · exact .inr (.inr h)
      · rintro (h | h | h)
        · exact .inl (.inl h)
        · exact .inl (.inr h)
        · exact .inr h
theorem mem_endL (g : Nat → Bool) (own : List Nat) (n z : Nat) : z ∈ endL g own n ↔ ∃ q, q < n ∧ g q = true ∧ own.getD q 0 = z := by
  unfold endL plB
  rw [mem_onceC, List.mem_map]
  constructor
  · rintro (h | ⟨q, h1, h2⟩)
    · cases h
    · rw [List.mem_filter, List.mem_range] at h1
      exact ⟨q, h1.1, h1.2, h2⟩
  · rintro ⟨q, h1, h2, h3⟩
    exact .inr ⟨q, by rw [List.mem_filter, List.mem_range]; exact ⟨h1, h2⟩, h3⟩
end Go.Proofs.YtbbejfkgopcjoaaDoor
namespace Go.Proofs.YtbbejfkgopcjoaaDoor
open Go.RowKit Go.Shelf
/-- What stands at a place of a pattern. -/
structure AtP (J : Jn) (o k : Nat) (p : Pt) (x : Nat) : Prop where
  own : J.own[o + x]? = some k
  le : J.LE.getD (o + x) [] = p.le.getD x []
  fo : ∀ q, inR (J.FO.getD (o + x) []) q = (p.fo.getD x []).any fun y => decide (q = o + y)
  la : J.la (o + x) = p.la.contains x
  op : J.op (o + x) = (!p.an && p.fi.contains x)
  cl : J.cl (o + x) = (p.an && p.fi.contains x)
theorem setL_at (R : Nat → Bool) (base : Nat) (L : List Nat) (x : Nat) (h : R (base + x) = false) : setL R base L (base + x) = L.contains x := by
  unfold setL
  rw [h, Bool.or_false, Bool.eq_iff_iff, List.any_eq_true, List.contains_iff_mem]
  constructor
  · rintro ⟨p, hp, e⟩
    have := of_decide_eq_true e
    obtain rfl : x = p := by omega
    exact hp
  · intro hx
    exact ⟨x, hx, decide_eq_true rfl⟩
theorem setL_low (R : Nat → Bool) {base : Nat} (L : List Nat) {q : Nat} (h : q < base) : setL R base L q = R q := by
  unfold setL
  have e : L.any (fun p => decide (q = base + p)) = false := by
    rw [List.any_eq_false]
    intro p _
    simp
    omega
  rw [e, Bool.false_or]
theorem bool_no {b : Bool} (h : ¬ b = true) : b = false := by cases b <;> simp_all
theorem AtP.new {j : Jn} {sy N nm : Nat} {p : Pt} (h : JnOk j sy N) (hp : PtOk sy p) {x : Nat} (hx : x < p.le.length) : AtP (jStep j nm p) j.own.length nm p x := by
  have hfo : x < p.fo.length := by rw [hp.fo]; exact hx
  have n1 : j.la (j.own.length + x) = false := bool_no (fun e => by have := h.la' _ e; omega)
  have n2 : j.op (j.own.length + x) = false := bool_no (fun e => by have := h.op' _ e; omega)
  have n3 : j.cl (j.own.length + x) = false := bool_no (fun e => by have := h.cl' _ e; omega)
  refine ⟨?_, ?_, fun q => ?_, setL_at _ _ _ _ n1, ?_, ?_⟩
  · show (j.own ++ List.replicate p.fo.length nm)[j.own.length + x]? = _
    rw [List.getElem?_append_right (by omega), Nat.add_sub_cancel_left, List.getElem?_replicate, if_pos hfo]
  · show (j.LE ++ p.le).getD _ _ = _
    rw [List.getD_eq_getElem?_getD, List.getElem?_append_right (by rw [h.le]; omega), h.le, Nat.add_sub_cancel_left, ← List.getD_eq_getElem?_getD]
  · show inR ((j.FO ++ p.fo.map (rowW j.own.length)).getD _ _) q = _
    rw [List.getD_eq_getElem?_getD, List.getElem?_append_right (by rw [h.fo]; omega), h.fo, Nat.add_sub_cancel_left, List.getElem?_map, List.getElem?_eq_getElem hfo, Option.map_some, Option.getD_some, inR_rowW, List.getD_eq_getElem?_getD, List.getElem?_eq_getElem hfo]
    rfl
  · show (if p.an = true then j.op else setL j.op j.own.length p.fi) _ = _
    cases p.an with
    | true => rw [if_pos rfl, n2]; rfl
    | false => rw [if_neg (by decide), setL_at _ _ _ _ n2]; rfl
  · show (if p.an = true then setL j.cl j.own.length p.fi else j.cl) _ = _
    cases p.an with
    | true => rw [if_pos rfl, setL_at _ _ _ _ n3]; rfl
    | false => rw [if_neg (by decide), n3]; rfl
theorem AtP.step {j : Jn} {sy N nm o k : Nat} {p p' : Pt} {x : Nat} (h : JnOk j sy N) (ha : AtP j o k p' x) : AtP (jStep j nm p) o k p' x := by
  have hq : o + x < j.own.length := (List.getElem?_eq_some_iff.1 ha.own).1
  refine ⟨?_, ?_, fun q => ?_, ?_, ?_, ?_⟩
  · show (j.own ++ List.replicate p.fo.length nm)[o + x]? = _
    rw [List.getElem?_append_left hq]; exact ha.own
  · show (j.LE ++ p.le).getD _ _ = _
    rw [List.getD_eq_getElem?_getD, List.getElem?_append_left (by rw [h.le]; exact hq), ← List.getD_eq_getElem?_getD]; exact ha.le
  · show inR ((j.FO ++ p.fo.map (rowW j.own.length)).getD _ _) q = _
    rw [List.getD_eq_getElem?_getD, List.getElem?_append_left (by rw [h.fo]; exact hq), ← List.getD_eq_getElem?_getD]; exact ha.fo q
  · exact (setL_low _ _ hq).trans ha.la
  · show (if p.an = true then j.op else setL j.op j.own.length p.fi) _ = _
    split
    · exact ha.op
    · exact (setL_low _ _ hq).trans ha.op
  · show (if p.an = true then setL j.cl j.own.length p.fi else j.cl) _ = _
    split
    · exact (setL_low _ _ hq).trans ha.cl
    · exact ha.cl
section
variable {ps : List Pt} {sy N : Nat}
theorem jAcc_at (hp : ∀ p ∈ ps, PtOk sy p) (hN : plN ps ps.length ≤ 64 * N) : ∀ n, n ≤ ps.length → ∀ k (_hk : k < n) (hk2 : k < ps.length) x, x < (ps[k]).le.length → AtP (jAcc ps n) (plN ps k) k ps[k] x
  | 0, _, k, hk, _, _, _ => absurd hk (Nat.not_lt_zero _)
  | n + 1, hn, k, hk, hk2, x, hx => by
    rw [jAcc_succ (by omega)]
    have hok := jAcc_ok hp hN n (by omega)
    by_cases h : k < n
    · exact (jAcc_at hp hN n (by omega) k h hk2 x hx).step hok
    · obtain rfl : k = n := by omega
      have e := jAcc_own hp k (by omega)
      have q := AtP.new (nm := k) hok (hp _ (List.getElem_mem hk2)) hx
      rw [e] at q
      exact q
theorem plN_cover : ∀ n, n ≤ ps.length → ∀ q, q < plN ps n → ∃ k, ∃ (_ : k < n) (hk : k < ps.length), ∃ x, x < (ps[k]).le.length ∧ q = plN ps k + x
  | 0, _, q, h => by simp [plN] at h
  | n + 1, hn, q, h => by
    rw [plN_succ (by omega)] at h
    by_cases hq : q < plN ps n
    · obtain ⟨k, h1, h2, x, h3, h4⟩ := plN_cover n (by omega) q hq
      exact ⟨k, by omega, h2, x, h3, h4⟩
    · exact ⟨n, by omega, by omega, q - plN ps n, by omega, by omega⟩
theorem jAcc_em (ps : List Pt) : ∀ n, n ≤ ps.length → ∀ k, (k ∈ (jAcc ps n).at0 ↔ k < n ∧ ∃ h : k < ps.length, (ps[k]).em = true) ∧ (k ∈ (jAcc ps n).alw ↔ k < n ∧ ∃ h : k < ps.length, (ps[k]).em = true ∧ (ps[k]).an = false)
  | 0, _, k => by simp [jAcc, jNil]
  | n + 1, hn, k => by
    obtain ⟨i1, i2⟩ := jAcc_em ps n (by omega) k
    rw [jAcc_succ (by omega)]
    constructor
    · show k ∈ (if (ps[n]).em then (jAcc ps n).at0 ++ [n] else (jAcc ps n).at0) ↔ _
      by_cases he : (ps[n]).em = true
      · rw [if_pos he, List.mem_append, List.mem_singleton, i1]
        constructor
        · rintro (⟨h1, h2⟩ | rfl)
          · exact ⟨by omega, h2⟩
          · exact ⟨by omega, by omega, he⟩
        · rintro ⟨h1, h2⟩
          by_cases hkn : k = n
          · exact .inr hkn
          · exact .inl ⟨by omega, h2⟩
      · rw [if_neg he, i1]
        constructor
        · rintro ⟨h1, h2⟩; exact ⟨by omega, h2⟩
        · rintro ⟨h1, h2, h3⟩
          have hkn : k ≠ n := by rintro rfl; exact he h3
          exact ⟨by omega, h2, h3⟩
    · show k ∈ (if (ps[n]).em && !(ps[n]).an then (jAcc ps n).alw ++ [n] else (jAcc ps n).alw) ↔ _
      by_cases he : ((ps[n]).em && !(ps[n]).an) = true
      · rw [if_pos he, List.mem_append, List.mem_singleton, i2]
        rw [Bool.and_eq_true, Bool.not_eq_true'] at he
        constructor
        · rintro (⟨h1, h2⟩ | rfl)
          · exact ⟨by omega, h2⟩
          · exact ⟨by omega, by omega, he⟩
        · rintro ⟨h1, h2⟩
          by_cases hkn : k = n
          · exact .inr hkn
          · exact .inl ⟨by omega, h2⟩
      · rw [if_neg he, i2]
        rw [Bool.and_eq_true, Bool.not_eq_true'] at he
        constructor
        · rintro ⟨h1, h2⟩; exact ⟨by omega, h2⟩
        · rintro ⟨h1, h2, h3⟩
          have hkn : k ≠ n := by rintro rfl; exact he h3
          exact ⟨by omega, h2, h3⟩
end
def fol1 (p : Pt) (S : Nat → Bool) (x : Nat) : Bool := (List.range p.le.length).any fun y => S y && (p.fo.getD y []).contains x
theorem ltF_at {J : Jn} {o k : Nat} {p : Pt} {x : Nat} (h : AtP J o k p x) (c : Nat) : ltF J.LE c (o + x) = (p.le.getD x []).contains c := by
  unfold ltF
  rw [h.le, Bool.eq_iff_iff, decide_eq_true_eq, List.contains_iff_mem]
theorem fol_at {ps : List Pt} {sy N : Nat} (hp : ∀ p ∈ ps, PtOk sy p) (hN : plN ps ps.length ≤ 64 * N) {S : Nat → Bool} {k x : Nat} (hk : k < ps.length) (hx : x < (ps[k]).le.length) : folF (jAcc ps ps.length) N S (plN ps k + x) = fol1 ps[k] (fun y => S (plN ps k + y)) x := by
  have hok := jAcc_ok hp hN ps.length (Nat.le_refl _)
  have hown := jAcc_own hp ps.length (Nat.le_refl _)
  have hat := jAcc_at hp hN ps.length (Nat.le_refl _)
  unfold folF fol1
  rw [Bool.eq_iff_iff, List.any_eq_true, List.any_eq_true]
  constructor
  · rintro ⟨q, _, e⟩
    rw [Bool.and_eq_true] at e
    by_cases hq : q < plN ps ps.length
    · obtain ⟨k', h1, h2, y, h3, rfl⟩ := plN_cover ps.length (Nat.le_refl _) q hq
      have a' := hat k' h1 h2 y h3
      have e2 := e.2
      rw [a'.fo, List.any_eq_true] at e2
      obtain ⟨z, hz, e3⟩ := e2
      have e4 := of_decide_eq_true e3
      have hyf : y < (ps[k']).fo.length := by rw [(hp _ (List.getElem_mem h2)).fo]; exact h3
      have hz' : z < (ps[k']).le.length := by
        rw [List.getD_eq_getElem?_getD, List.getElem?_eq_getElem hyf] at hz
        exact (hp _ (List.getElem_mem h2)).fo' _ (List.getElem_mem hyf) z hz
      have o1 := (hat k hk hk x hx).own
      have o2 := (hat k' h1 h2 z hz').own
      rw [e4, o2] at o1
      injection o1 with o1
      subst o1
      obtain rfl : x = z := by omega
      exact ⟨y, List.mem_range.2 h3, by rw [Bool.and_eq_true]; exact ⟨e.1, List.contains_iff_mem.2 hz⟩⟩
    · have e2 := e.2
      rw [List.getD_eq_getElem?_getD, List.getElem?_eq_none (by rw [hok.fo, hown]; omega)] at e2
      simp [inR] at e2
  · rintro ⟨y, hy, e⟩
    rw [List.mem_range] at hy
    rw [Bool.and_eq_true] at e
    have a := hat k hk hk y hy
    have hlt : plN ps k + y < plN ps ps.length := by
      have := (List.getElem?_eq_some_iff.1 a.own).1
      rw [hown] at this
      exact this
    refine ⟨plN ps k + y, List.mem_range.2 (by omega), ?_⟩
    rw [Bool.and_eq_true, a.fo, List.any_eq_true]
    exact ⟨e.1, x, List.contains_iff_mem.1 e.2, decide_eq_true rfl⟩
end Go.Proofs.YtbbejfkgopcjoaaDoor
namespace Go.Proofs.YtbbejfkgopcjoaaDoor
def hasL (l : List Int) (z : Int) : Bool := l.any (· == z)
/-- The places among whose letters a symbol is. -/
def holdF (Le : List (List Int)) (c : Int) (q : Nat) : Bool := hasL (Le.getD q []) c
/-- Where some place of a set leads to, of those below n. -/
def partF (Fo : List (List Int)) (f : Nat → Bool) (n t : Nat) : Bool := (List.range n).any (fun p => f p && hasL (Fo.getD p []) (t : Int))
def nextF (Fo : List (List Int)) (f : Nat → Bool) (t : Nat) : Bool := partF Fo f Fo.length t
def atF (Le : List (List Int)) (nx : Nat → Bool) (c : Int) (q : Nat) : Bool := nx q && holdF Le c q
def lastF (La : List Int) (f : Nat → Bool) : Bool := La.any (fun z => f z.toNat)
theorem hasL_nil (z : Int) : hasL [] z = false := rfl
/-- The rest of a word, from the places where the walk is. -/
def contM (Le Fo : List (List Int)) (La : List Int) : (Nat → Bool) → List Int → Bool
  | f, [] => lastF La f
  | f, d :: r => contM Le Fo La (atF Le (nextF Fo f) d) r
end Go.Proofs.YtbbejfkgopcjoaaDoor
namespace Go.Proofs.YtbbejfkgopcjoaaDoor
open Go.RowKit Go.Shelf
/-- Match of a pattern as it comes. -/
theorem hasL_tN {l : List Int} (h : ∀ x ∈ l, 0 ≤ x) (z : Nat) : hasL l (z : Int) = (tN l).contains z := by
  unfold hasL tN
  rw [Bool.eq_iff_iff, List.any_eq_true, List.contains_iff_mem, List.mem_map]
  constructor
  · rintro ⟨x, hx, e⟩
    have e2 : x = (z : Int) := by simpa using e
    exact ⟨x, hx, by omega⟩
  · rintro ⟨x, hx, e⟩
    have := h x hx
    exact ⟨x, hx, by simp; omega⟩
theorem getD_map_tN (L : List (List Int)) (x : Nat) : (L.map tN).getD x [] = tN (L.getD x []) := by
  rw [List.getD_eq_getElem?_getD, List.getD_eq_getElem?_getD, List.getElem?_map]
  cases L[x]? <;> rfl
theorem nonneg_getD {L : List (List Int)} (h : ∀ l ∈ L, ∀ x ∈ l, 0 ≤ x) (k : Nat) : ∀ x ∈ L.getD k [], 0 ≤ x := by
  rw [List.getD_eq_getElem?_getD]
  by_cases hk : k < L.length
  · rw [List.getElem?_eq_getElem hk]; exact h _ (List.getElem_mem hk)
  · rw [List.getElem?_eq_none (by omega)]; intro x hx; cases hx
theorem rise_same : ∀ {l m : List Nat}, l.Pairwise (· < ·) → m.Pairwise (· < ·) → (∀ x, x ∈ l ↔ x ∈ m) → l = m
  | [], [], _, _, _ => rfl
  | [], y :: m, _, _, h => absurd ((h y).2 List.mem_cons_self) (by simp)
  | x :: l, [], _, _, h => absurd ((h x).1 List.mem_cons_self) (by simp)
  | x :: l, y :: m, h1, h2, h => by
    obtain ⟨a1, a2⟩ := List.pairwise_cons.1 h1
    obtain ⟨b1, b2⟩ := List.pairwise_cons.1 h2
    have hxy : x = y := by
      rcases List.mem_cons.1 ((h x).1 List.mem_cons_self) with e | e
      · exact e
      · rcases List.mem_cons.1 ((h y).2 List.mem_cons_self) with e2 | e2
        · exact e2.symm
        · have := b1 x e
          have := a1 y e2
          omega
    subst hxy
    rw [rise_same a2 b2 (fun z => ?_)]
    constructor
    · intro hz
      rcases List.mem_cons.1 ((h z).1 (List.mem_cons_of_mem _ hz)) with e | e
      · have := a1 z hz; omega
      · exact e
    · intro hz
      rcases List.mem_cons.1 ((h z).2 (List.mem_cons_of_mem _ hz)) with e | e
      · have := b1 z hz; omega
      · exact e
end Go.Proofs.YtbbejfkgopcjoaaDoor
