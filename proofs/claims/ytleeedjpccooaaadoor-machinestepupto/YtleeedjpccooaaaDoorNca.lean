/-
  McWM, McWW, McXM, McXW.
-/
import Derived.Test.YtleeedjpccooaaaDoorNam
import Derived.Test.YtleeedjpccooaaaDoorNai
import Derived.Test.YtleeedjpccooaaaDoorNaa
import Derived.Test.YtleeedjpccooaaaDoorNan
namespace Go.Proofs.YtleeedjpccooaaaDoor
theorem goF_acc (N : List (List Int)) : ∀ (l acc : List Int) (s : Nat), goF N acc s l = (goF N [] s l).map (acc ++ ·) := by
  intro l
  induction l with
  | nil => intro acc s; rw [goF, goF, Option.map_some, List.append_nil]
  | cons z l ih =>
    intro acc s
    rw [goF, goF]
    split
    · rfl
    · rw [ih (acc ++ _), ih ([] ++ _), Option.map_map]
      congr 1
      funext r
      simp
theorem runF_nat {N : List (List Int)} {s : Nat} (h : s < N.length) (l : List Int) : runF N (s : Int) l = (goF N [] s l).map ((s : Int) :: ·) := by
  unfold runF
  rw [if_pos ((oneOf_iff _ _).2 ⟨by omega, by omega⟩), goF_acc, Int.toNat_natCast]
  rfl
theorem stepF_lt {N : List (List Int)} {s p : Nat} {z : Int} (h : stepF N s z = some p) : p < N.length := by
  unfold stepF at h
  split at h
  · split at h
    · rename_i h1
      have h2 := (oneOf_iff _ _).1 h1
      injection h with h
      omega
    · cases h
  · cases h
theorem runF_cons {N : List (List Int)} {s p : Nat} {z : Int} (h : s < N.length) (hp : stepF N s z = some p) (l : List Int) : runF N (s : Int) (z :: l) = (runF N (p : Int) l).map ((s : Int) :: ·) := by
  rw [runF_nat h, runF_nat (stepF_lt hp), goF, hp, Option.map_map]
  simp only
  rw [goF_acc, Option.map_map]
  rfl
theorem runF_split {N : List (List Int)} {st z : Int} {l L : List Int} (h : runF N st (z :: l) = some L) : ∃ (s p : Nat) (L' : List Int), st = (s : Int) ∧ s < N.length ∧ p < N.length ∧ stepF N s z = some p ∧ runF N (p : Int) l = some L' ∧ L = (s : Int) :: L' := by
  cases ho : oneOf N.length st with
  | false => unfold runF at h; rw [ho] at h; cases h
  | true =>
    obtain ⟨h1, h2⟩ := (oneOf_iff _ _).1 ho
    obtain ⟨s, rfl⟩ : ∃ s : Nat, st = (s : Int) := ⟨st.toNat, by omega⟩
    have hs : s < N.length := by omega
    cases hp : stepF N s z with
    | none =>
      rw [runF_nat hs, goF, hp] at h
      cases h
    | some p =>
      rw [runF_cons hs hp] at h
      obtain ⟨L', h3, h4⟩ := Option.map_eq_some_iff.1 h
      exact ⟨s, p, L', rfl, hs, stepF_lt hp, hp, h3, h4.symm⟩
theorem runF_one {N : List (List Int)} {st : Int} {l L : List Int} (h : runF N st l = some L) : ∃ s : Nat, st = (s : Int) ∧ s < N.length ∧ ∃ t, L = (s : Int) :: t := by
  cases ho : oneOf N.length st with
  | false => unfold runF at h; rw [ho] at h; cases h
  | true =>
    obtain ⟨h1, h2⟩ := (oneOf_iff _ _).1 ho
    obtain ⟨s, rfl⟩ : ∃ s : Nat, st = (s : Int) := ⟨st.toNat, by omega⟩
    have hs : s < N.length := by omega
    rw [runF_nat hs] at h
    obtain ⟨t, _, h4⟩ := Option.map_eq_some_iff.1 h
    exact ⟨s, rfl, hs, t, h4.symm⟩
/-- A run goes on from each of its states. -/
theorem runF_at {N : List (List Int)} : ∀ (l : List Int) (st : Int) (L : List Int), runF N st l = some L → ∀ i, i ≤ l.length → ∃ s : Nat, s < N.length ∧ L[i]? = some (s : Int) ∧ runF N (s : Int) (l.drop i) = some (L.drop i) := by
  intro l
  induction l with
  | nil =>
    intro st L h i hi
    have : i = 0 := by simpa using hi
    subst this
    obtain ⟨s, rfl, hs, t, rfl⟩ := runF_one h
    exact ⟨s, hs, rfl, h⟩
  | cons z l ih =>
    intro st L h i hi
    cases i with
    | zero =>
      obtain ⟨s, rfl, hs, t, rfl⟩ := runF_one h
      exact ⟨s, hs, rfl, h⟩
    | succ i =>
      obtain ⟨s, p, L', rfl, hs, hp, h1, h2, rfl⟩ := runF_split h
      obtain ⟨q, hq, h3, h4⟩ := ih _ _ h2 i (by simpa using hi)
      exact ⟨q, hq, by simpa using h3, by simpa using h4⟩
theorem runF_take {N : List (List Int)} : ∀ (l : List Int) (st : Int) (L : List Int), runF N st l = some L → ∀ k, k ≤ l.length → runF N st (l.take k) = some (L.take (k + 1)) := by
  intro l
  induction l with
  | nil =>
    intro st L h k hk
    obtain ⟨s, rfl, hs, t, rfl⟩ := runF_one h
    have hlen := runF_len h
    have : t = [] := by simpa using hlen
    subst this
    simpa using h
  | cons z l ih =>
    intro st L h k hk
    cases k with
    | zero =>
      obtain ⟨s, rfl, hs, t, rfl⟩ := runF_one h
      rw [List.take_zero, runF_nat hs, goF]
      rfl
    | succ k =>
      obtain ⟨s, p, L', rfl, hs, hp, h1, h2, rfl⟩ := runF_split h
      rw [List.take_succ_cons, runF_cons hs h1, ih _ _ h2 k (by simpa using hk)]
      rfl
theorem runF_app {N : List (List Int)} : ∀ (a : List Int) (st : Int) (L b r : List Int) (s : Nat), runF N st a = some L → L[a.length]? = some (s : Int) → runF N (s : Int) b = some r → runF N st (a ++ b) = some (L.take a.length ++ r) := by
  intro a
  induction a with
  | nil =>
    intro st L b r s h hs hb
    obtain ⟨s0, rfl, _, t, rfl⟩ := runF_one h
    have hs2 : (s0 : Int) = (s : Int) := by simpa using hs
    have : s = s0 := by omega
    subst this
    simpa using hb
  | cons z a ih =>
    intro st L b r s h hs hb
    obtain ⟨s0, p, L', rfl, hs0, hp, h1, h2, rfl⟩ := runF_split h
    have h3 := ih _ _ b r s h2 (by simpa using hs) hb
    rw [List.cons_append, runF_cons hs0 h1, h3]
    rfl
/-- Two words behind which it is in one state go on alike. -/
theorem runF_join {N : List (List Int)} {l L : List Int} {st : Int} (h : runF N st l = some L) {k i : Nat} (hk : k ≤ l.length) (hi : i ≤ l.length) (he : L[k]? = L[i]?) : runF N st (l.take k ++ l.drop i) = some (L.take k ++ L.drop i) := by
  obtain ⟨s, hs, h1, h2⟩ := runF_at _ _ _ h i hi
  have hl := runF_len h
  have h3 := runF_app (l.take k) st (L.take (k + 1)) (l.drop i) (L.drop i) s (runF_take _ _ _ h k hk) (by
    rw [List.length_take, Nat.min_eq_left hk, List.getElem?_take, if_pos (by omega), he, h1]) h2
  rw [List.length_take, Nat.min_eq_left hk, List.take_take, Nat.min_eq_left (by omega)] at h3
  exact h3
/-- Where all rows are in order each word over the symbols is run. -/
theorem runF_some {N : List (List Int)} {sy : Int} (hN : ∀ r ∈ N, (r.length : Int) = sy ∧ ∀ x ∈ r, oneOf N.length x = true) : ∀ (l : List Int) (s : Nat), s < N.length → (∀ z ∈ l, 0 ≤ z ∧ z < sy) → ∃ L, runF N (s : Int) l = some L := by
  intro l
  induction l with
  | nil => intro s hs _; exact ⟨[(s : Int)], by rw [runF_nat hs, goF]; rfl⟩
  | cons z l ih =>
    intro s hs hz
    obtain ⟨z1, z2⟩ := hz z List.mem_cons_self
    have hg : N.getD s [] = N[s] := by rw [List.getD_eq_getElem?_getD, List.getElem?_eq_getElem hs]; rfl
    obtain ⟨r1, r2⟩ := hN _ (List.getElem_mem hs)
    have hzl : z.toNat < (N[s]).length := by omega
    have hp : stepF N s z = some ((N[s])[z.toNat]).toNat := by
      unfold stepF
      rw [hg, if_pos (by omega), List.getD_eq_getElem?_getD, List.getElem?_eq_getElem hzl]
      simp only [Option.getD_some]
      rw [if_pos (r2 _ (List.getElem_mem hzl))]
    obtain ⟨L, hL⟩ := ih _ (stepF_lt hp) (fun x hx => hz x (List.mem_cons_of_mem _ hx))
    exact ⟨(s : Int) :: L, by rw [runF_cons hs hp, hL]; rfl⟩
/-- The word over the symbols. -/
def pickN (k : Int) (n : Nat) : Nat := (if k.tmod n < 0 then k.tmod n + n else k.tmod n).toNat
theorem pickN_lt (k : Int) (n : Nat) (hn : 0 < n) : pickN k n < n := by
  have hm1 := Int.tmod_lt_of_pos k (b := (n : Int)) (by omega)
  have hm2 : -(n : Int) < k.tmod n := by
    have := Int.tmod_lt_of_pos (-k) (b := (n : Int)) (by omega)
    rw [Int.neg_tmod] at this
    omega
  unfold pickN
  split <;> omega
def wdF (sy : Nat) (l : List Int) : List Int := (l.take 14).map fun k => ((pickN k sy : Nat) : Int)
theorem wdF_len (sy : Nat) (l : List Int) : (wdF sy l).length = min 14 l.length := by unfold wdF; rw [List.length_map, List.length_take]
theorem wdF_ok {sy : Nat} (h : 0 < sy) (l : List Int) : ∀ z ∈ wdF sy l, 0 ≤ z ∧ z < (sy : Int) := fun z hz => by
  unfold wdF at hz
  obtain ⟨k, _, rfl⟩ := List.mem_map.1 hz
  have := pickN_lt k sy h
  omega
theorem wdF_snoc {sy : Nat} {l : List Int} {k : Nat} (hk : k < l.length) (h14 : k < 14) : wdF sy (l.take (k + 1)) = wdF sy (l.take k) ++ [((pickN l[k] sy : Nat) : Int)] := by
  unfold wdF
  rw [List.take_take, List.take_take, Nat.min_eq_right (by omega), Nat.min_eq_right (by omega), List.take_add_one, List.getElem?_eq_getElem hk, List.map_append]
  rfl
theorem wdF_take {sy : Nat} {l : List Int} {k : Nat} (h : 14 ≤ k ∨ l.length ≤ k) : wdF sy (l.take k) = wdF sy l := by
  unfold wdF
  rw [List.take_take]
  rcases h with h | h
  · rw [Nat.min_eq_left h]
  · congr 1
    rw [List.take_eq_take_iff]
    omega
/-- Of what Build has made. -/
theorem BldV.rows {rs : List Pr} {sy most : Int} {b : Bs} (h : BldV rs sy most b) : ∀ r ∈ b.nx.map nI, (r.length : Int) = sy ∧ ∀ x ∈ r, oneOf (b.nx.map nI).length x = true := fun r hr => by
  obtain ⟨l, hl, rfl⟩ := List.mem_map.1 hr
  obtain ⟨q1, q2⟩ := h.val.1 l hl
  refine ⟨by rw [nI_len]; exact q1, fun x hx => ?_⟩
  unfold nI at hx
  obtain ⟨y, hy, rfl⟩ := List.mem_map.1 hx
  rw [oneOf_iff, List.length_map]
  have := q2 y hy
  omega
end Go.Proofs.YtleeedjpccooaaaDoor
namespace Go.Proofs.YtleeedjpccooaaaDoor
open Go.RowKit Go.Shelf
set_option maxRecDepth 10000 in
set_option maxHeartbeats 400000 in
theorem pick_at (k : Int) (n : Nat) (hn : 0 < n) (hn2 : n ≤ 2000000) (w : World) :
    Calls Tryd.prog 34 #[.int .i64 k, .int .i64 (n : Int)] w fun e w' => e = .returned (.int .i64 (pickN k n : Nat)) ∧ w' = w := by
  have hm1 := Int.tmod_lt_of_pos k (b := (n : Int)) (by omega)
  have hm2 : -(n : Int) < k.tmod n := by
    have := Int.tmod_lt_of_pos (-k) (b := (n : Int)) (by omega)
    rw [Int.neg_tmod] at this
    omega
  have hz : ((n : Int) == 0) = false := by simp; omega
  have hz2 : ¬ (n : Int) = 0 := by omega
  have hz3 : ¬ (n : Int) < 1 := by omega
  by_cases hneg : k.tmod n < 0
  · have HE : Hid (((pickN k n : Nat) : Int) = k.tmod n + n) := hid0 (by rw [pickN, if_pos hneg]; omega)
    go_enter Tryd.func34, Tryd.ntmps34
    go_wp2
    go_ret
    exact ⟨by rw [HE.out]; rfl, rfl⟩
  · have HE : Hid (((pickN k n : Nat) : Int) = k.tmod n) := hid0 (by rw [pickN, if_neg hneg]; omega)
    go_enter Tryd.func34, Tryd.ntmps34
    go_wp2
    go_ret
    exact ⟨by rw [HE.out]; rfl, rfl⟩
theorem bel_drew {B : Nat} {w a : World} (h : Below B w a) : Below B w a.drew := ⟨h.os, h.tape, h.output, h.size, h.block⟩
theorem IA.cellAt {w : World} {b off : Nat} {L : List Int} (h : IA w (some ⟨b, off, none⟩) L) {k : Nat} (hk : k < L.length) : w.cell? ⟨b, off + k, none⟩ = some (.int .i64 L[k]) := by
  obtain ⟨b', off', e, _, h2⟩ := h.at' k hk
  simp only [Option.some.injEq, Addr.mk.injEq, and_true] at e
  obtain ⟨rfl, rfl⟩ := e
  exact h2
theorem row3d {W : World} {X : Nat} {t : TypeId} {a b c : Value} (h : W.heap[X]? = some (.cells #[a, b, c] t (0, 0))) : W.cell? ⟨X, 0, none⟩ = some a ∧ W.cell? ⟨X, 1, none⟩ = some b ∧ W.cell? ⟨X, 2, none⟩ = some c :=
  ⟨by rw [cell_of_row _ _ _ _ _ _ h]; rfl, by rw [cell_of_row _ _ _ _ _ _ h]; rfl, by rw [cell_of_row _ _ _ _ _ _ h]; rfl⟩
set_option maxRecDepth 10000 in
set_option maxHeartbeats 1600000 in
theorem word_any (sy : Nat) (l : List Int) (aP aW : Option Addr) (nP cP cW : Nat) (w : World) (h0 : 0 < sy) (h1 : sy ≤ 2000000) (hW : IA w aW l) :
    Calls Tryd.prog 12 #[.agg #[.slice aP nP cP, .int .i64 (sy : Int), .slice aW l.length cW]] w fun e w' => ∃ v, e = .returned v ∧ Hid (OwnI w' w.heap.size v (wdF sy l)) ∧ Hid (Below w.heap.size w w') := by
  obtain ⟨w0, hw0⟩ : ∃ w0, w0 = w.alloc (.cells #[.slice aP nP cP, .int .i64 (sy : Int), .slice aW l.length cW] 38) := ⟨_, rfl⟩
  have hb0 : Below w.heap.size w w0 := by rw [hw0]; exact (Below.refl _ _).alloc (Nat.le_refl _) _
  have hr0 : w0.heap[w.heap.size]? = some (.cells #[.slice aP nP cP, .int .i64 (sy : Int), .slice aW l.length cW] 38 (0, 0)) := by rw [hw0]; exact heap_alloc_new w _
  have HX : Hid (∀ V, Below w0.heap.size w0 V → (V.cell? ⟨w.heap.size, 0, none⟩ = some (.slice aP nP cP) ∧ V.cell? ⟨w.heap.size, 1, none⟩ = some (.int .i64 (sy : Int)) ∧ V.cell? ⟨w.heap.size, 2, none⟩ = some (.slice aW l.length cW)) ∧ IA V aW l) := hid0 (fun V hV => ⟨row3d ((hV.block _ (Array.getElem?_eq_some_iff.1 hr0).1).trans hr0), hW.past (Below.later hb0 hV)⟩)
  have HB0 := hid0 hb0
  have hfold := hw0.symm
  have hsyI : (sy : Int) > 0 := by omega
  obtain ⟨n, hn⟩ : ∃ n, n = l.length := ⟨_, rfl⟩
  have HLn0 := hid0 hn
  rw [← hn] at hfold ⊢
  clear hw0 hr0 hb0 hW hn
  go_enter Tryd.func12, Tryd.ntmps12
  go_wp2
  go_loopw [3, 4] (fun v i wr => ∃ k : Nat, k ≤ 14 ∧ k ≤ n ∧ i = .int .i64 (k : Int) ∧ Hid (OwnI wr w0.heap.size v (wdF sy (l.take k))) ∧ Hid (Below w0.heap.size w0 wr)) (fun _ i _ => 14 - (intOf i).toNat)
  case atStart => exact ⟨0, by decide, Nat.zero_le _, rfl, hid0 (World.ownsRow_nil _ _ _ _), hid0 (Below.refl _ _)⟩
  case round =>
    obtain ⟨k, hk14, hkn, rfl, HO, HB⟩ := hrel
    obtain ⟨⟨x0, x1, x2⟩, i2⟩ := HX.out wr HB.out
    rw [← HLn0.out] at x2
    by_cases hlt : k < n
    · have hlt' : k < l.length := by rw [← HLn0.out]; exact hlt
      obtain ⟨b, off, rfl, _, d⟩ := i2.at' k hlt'
      have hkI : (k : Int) < (n : Int) := by omega
      have hkI0 : (0 : Int) ≤ (k : Int) := by omega
      by_cases h14 : k < 14
      · have hkJ : (k : Int) < 14 := by omega
        have HSn : Hid (wdF sy (l.take (k + 1)) = wdF sy (l.take k) ++ [((pickN l[k] sy : Nat) : Int)]) := hid0 (wdF_snoc hlt' h14)
        have HP := hid0 (fun W => pick_at l[k] sy h0 h1 W)
        have HXX : Hid (∀ V, Below w0.heap.size w0 V → V.cell? ⟨w.heap.size, 1, none⟩ = some (.int .i64 (sy : Int)) ∧ V.cell? ⟨w.heap.size, 2, none⟩ = some (.slice (some ⟨b, off, none⟩) n cW) ∧ V.cell? ⟨b, off + k, none⟩ = some (.int .i64 l[k])) := hid0 (fun V hV => by
          obtain ⟨⟨_, q1, q2⟩, q3⟩ := HX.out V hV
          rw [← HLn0.out] at q2
          exact ⟨q1, q2, q3.cellAt hlt'⟩)
        have HLn : Hid (k = (wdF sy (l.take k)).length) := hid0 (by rw [wdF_len, List.length_take]; omega)
        have HOd : Hid (OwnI wr.drew w0.heap.size u3 (wdF sy (l.take k))) := hid0 HO.out
        have HOk : Hid (wr.drew.ownsRow w0.heap.size 3 1 u3 k ((wdF sy (l.take k)).map (Value.int .i64))) := hid0 (by
          have h := HO.out
          unfold OwnI at h
          rw [← HLn.out] at h
          exact h)
        have hszw := HB.out.size
        clear i2
        generalize l[k] = z at *
        obtain ⟨pk, hpk⟩ : ∃ pk, pk = pickN z sy := ⟨_, rfl⟩
        rw [← hpk] at HP HSn
        clear hpk HO
        obtain ⟨i0, hi, hz0, hz1, hz2⟩ := info_parts infoInt
        go_wp2_with fail
        refine wp_region_noPanic ?_
        refine wp_region_held_drew (S := fun W => W.cell? ⟨w.heap.size, 1, none⟩ = some (.int .i64 (sy : Int)) ∧ W.cell? ⟨w.heap.size, 2, none⟩ = some (.slice (some ⟨b, off, none⟩) n cW) ∧ W.cell? ⟨b, off + k, none⟩ = some (.int .i64 z)) (by kernel_rfl) ?_ (fun hHeld => ?_)
        · exact HXX.out _ (bel_drew HB.out)
        refine tkV (i := 0) (d := some 21) (v := ?_) rfl (by kernel_rfl) (by kernel_rfl) (by kernel_rfl) rfl (fun _ _ _ h => h) (by rfl) ?_ (by assumption) ?_
        rotate_left
        · (intro w hSw; (try dsimp only at hSw); (try simp only [List.getElem_toArray, List.getElem_cons_zero]); go_simp; try with_reducible rfl)
        try simp only [Act.put, List.setIfInBounds_toArray, List.set_cons_zero, List.set_cons_succ]
        refine tkV (i := 1) (d := some 22) (v := ?_) rfl (by kernel_rfl) (by kernel_rfl) (by kernel_rfl) rfl (fun _ _ _ h => h) (by rfl) ?_ (by assumption) ?_
        rotate_left
        · (intro w hSw; (try dsimp only at hSw); (try simp only [List.getElem_toArray, List.getElem_cons_zero, List.getElem_cons_succ]); go_simp; try with_reducible rfl)
        try simp only [Act.put, List.setIfInBounds_toArray, List.set_cons_zero, List.set_cons_succ]
        refine tkV (i := 2) (d := some 23) (v := ?_) rfl (by kernel_rfl) (by kernel_rfl) (by kernel_rfl) rfl (fun _ _ _ h => h) (by rfl) ?_ (by assumption) ?_
        rotate_left
        · (intro w hSw; (try dsimp only at hSw); (try simp only [List.getElem_toArray, List.getElem_cons_zero, List.getElem_cons_succ]); go_simp; try with_reducible rfl)
        try simp only [Act.put, List.setIfInBounds_toArray, List.set_cons_zero, List.set_cons_succ]
        refine tkV (i := 3) (d := some 24) (v := ?_) rfl (by kernel_rfl) (by kernel_rfl) (by kernel_rfl) rfl (fun _ _ _ h => h) (by rfl) ?_ (by assumption) ?_
        rotate_left
        · (intro w hSw; (try dsimp only at hSw); (try simp only [List.getElem_toArray, List.getElem_cons_zero, List.getElem_cons_succ]); go_simp; try with_reducible rfl)
        try simp only [Act.put, List.setIfInBounds_toArray, List.set_cons_zero, List.set_cons_succ]
        refine tkV (i := 4) (d := some 25) (v := ?_) rfl (by kernel_rfl) (by kernel_rfl) (by kernel_rfl) rfl (fun _ _ _ h => h) (by rfl) ?_ (by assumption) ?_
        rotate_left
        · (intro w hSw; (try dsimp only at hSw); (try simp only [List.getElem_toArray, List.getElem_cons_zero, List.getElem_cons_succ]); go_simp; try with_reducible rfl)
        try simp only [Act.put, List.setIfInBounds_toArray, List.set_cons_zero, List.set_cons_succ]
        refine tkV (i := 5) (d := some 26) (v := ?_) rfl (by kernel_rfl) (by kernel_rfl) (by kernel_rfl) rfl (fun _ _ _ h => h) (by rfl) ?_ (by assumption) ?_
        rotate_left
        · (intro w hSw; (try dsimp only at hSw); (try simp only [List.getElem_toArray, List.getElem_cons_zero, List.getElem_cons_succ]); go_simp; try with_reducible rfl)
        try simp only [Act.put, List.setIfInBounds_toArray, List.set_cons_zero, List.set_cons_succ]
        refine tkV (i := 6) (d := some 27) (v := ?_) rfl (by kernel_rfl) (by kernel_rfl) (by kernel_rfl) rfl (fun _ _ _ h => h) (by rfl) ?_ (by assumption) ?_
        rotate_left
        · (intro w hSw; (try dsimp only at hSw); (try simp only [List.getElem_toArray, List.getElem_cons_zero, List.getElem_cons_succ]); go_simp; try with_reducible rfl)
        try simp only [Act.put, List.setIfInBounds_toArray, List.set_cons_zero, List.set_cons_succ]
        refine tkV (i := 7) (d := some 28) (v := ?_) rfl (by kernel_rfl) (by kernel_rfl) (by kernel_rfl) rfl (fun _ _ _ h => h) (by rfl) ?_ (by assumption) ?_
        rotate_left
        · (intro w hSw; (try dsimp only at hSw); (try simp only [List.getElem_toArray, List.getElem_cons_zero, List.getElem_cons_succ]); go_simp; try with_reducible rfl)
        try simp only [Act.put, List.setIfInBounds_toArray, List.set_cons_zero, List.set_cons_succ]
        refine wpAnyH_ready (rs := [8]) (by kernel_rfl) (by simp) (AllReadyH.cons rfl (fun K hK => ?_) AllReadyH.nil)
        try simp only [List.getElem_toArray, List.getElem_cons_zero, List.getElem_cons_succ]
        go_simp
        refine (HP.out _).mono ?_
        rintro e w1 ⟨rfl, hw1⟩
        subst hw1
        go_wp2_with fail
        refine hK.out _ _ ?_ (fun hHeld8 => ?_)
        · exact HXX.out _ (bel_drew HB.out)
        clear hK K
        (try simp only [Act.put]); (try simp only [List.setIfInBounds_toArray]); (try simp only [List.set_cons_succ]); (try simp only [List.set_cons_zero])
        refine wpAnyH_ready (rs := [9]) (by kernel_rfl) (by simp) (AllReadyH.cons rfl (fun K hK => ?_) AllReadyH.nil)
        try simp only [List.getElem_toArray, List.getElem_cons_zero, List.getElem_cons_succ]
        go_simp
        refine hK.out _ _ ?_ (fun hHeld9 => ?_)
        · exact HXX.out _ ((bel_drew HB.out).alloc (bel_drew HB.out).size _)
        clear hK K
        (try simp only [Act.put]); (try simp only [List.setIfInBounds_toArray]); (try simp only [List.set_cons_succ]); (try simp only [List.set_cons_zero])
        refine wpAnyH_ready (rs := [10]) (by kernel_rfl) (by simp) (AllReadyH.cons rfl (fun K hK => ?_) AllReadyH.nil)
        refine step_append_own_at (by rfl) _ _ 34 (by rfl) w0.heap.size 3 i0 (.int .i64 0) 1 8 Tryd.underlying34 hi hz0 hz1 hz2 rfl (by decide) u3 k ((wdF sy (l.take k)).map (Value.int .i64)) (by rfl) (World.ownsRow.alloc HOk.out _) ⟨wr.heap.size, 0, none⟩ 1 1 [.int .i64 (pk : Int)] (by rfl) (by rfl) (cell_one_new wr.drew _ _) (by simp [Value.oneCell']) (by unfold maxLen; omega) (by omega) (by simp; omega) ?_
        intro v2 w2 hown2 hgrow2 _
        have HN := hid0 (ownI_snoc (w := w0) (wr := wr.drew) (base := w0.heap.size) (L := wdF sy (l.take k)) (c := (pk : Int)) (n := k) HLn.out HOd.out hown2 hgrow2 (bel_drew HB.out) (Nat.le_refl _))
        clear hown2 hgrow2
        refine hK.out _ _ ?_ (fun hHeld10 => ?_)
        · exact HXX.out _ HN.out.2
        clear hK K
        (try simp only [Act.put]); (try simp only [List.setIfInBounds_toArray]); (try simp only [List.set_cons_succ]); (try simp only [List.set_cons_zero])
        refine tkV (i := 11) (d := some 3) (v := ?_) rfl (by kernel_rfl) (by kernel_rfl) (by kernel_rfl) rfl (fun _ _ _ h => h) (by rfl) ?_ (by assumption) ?_
        rotate_left
        · (intro w hSw; (try dsimp only at hSw); (try simp only [List.getElem_toArray, List.getElem_cons_zero, List.getElem_cons_succ]); go_simp; try with_reducible rfl)
        try simp only [Act.put]
        refine wpAnyH_done (by kernel_rfl) ?_ _
        refine NoPanic.normal ?_
        go_wp2_with fail
        have HO2 : Hid (OwnI w2 w0.heap.size v2 (wdF sy (l.take (k + 1)))) := hid0 (by rw [HSn.out]; exact HN.out.1)
        have HB2 := hid0 HN.out.2
        go_roundw
        case rel => exact ⟨k + 1, by omega, by omega, by go_num, HO2, HB2⟩
        case measure => simp [intOf]; omega
      · have hkJ : ¬ (k : Int) < 14 := by omega
        have HV : Hid (wdF sy (l.take k) = wdF sy l) := hid0 (wdF_take (.inl (by omega)))
        clear i2 d
        go_wp2
        go_ret
        exact ⟨_, rfl, hid0 (by rw [← HV.out]; exact owns_lower HO.out HB0.out.size), hid0 (Below.later HB0.out HB.out)⟩
    · have hkI : ¬ (k : Int) < (n : Int) := by omega
      have HV : Hid (wdF sy (l.take k) = wdF sy l) := hid0 (wdF_take (.inr (by rw [← HLn0.out]; omega)))
      clear i2
      go_wp2
      go_ret
      exact ⟨_, rfl, hid0 (by rw [← HV.out]; exact owns_lower HO.out HB0.out.size), hid0 (Below.later HB0.out HB.out)⟩
end Go.Proofs.YtleeedjpccooaaaDoor
namespace Go.Proofs.YtleeedjpccooaaaDoor
open Go.RowKit Go.Shelf
theorem OwnI.cap {w : World} {base : Nat} {v : Value} {L : List Int} (h : OwnI w base v L) : ∃ a cap, v = .slice a L.length cap ∧ IA w a L ∧ L.length ≤ cap ∧ (a = none → cap = 0) := by
  have h0 := h
  rcases h.2 with ⟨rfl, hn⟩ | ⟨g, cap, cur, rfl, hg, hr, hc, _⟩
  · exact ⟨none, 0, by rw [hn], ⟨fun k hk => by omega⟩, by omega, fun _ => rfl⟩
  · refine ⟨_, cap, rfl, ⟨fun k hk => ⟨g, 0, rfl, (World.ownsRow.lt h0 g rfl).2, ?_⟩⟩, hc, fun e => by cases e⟩
    have := World.ownsRow.cellAt h0 k (by omega)
    rw [Nat.zero_add, this]
    simp [hk]
theorem OwnI.box {w : World} {base : Nat} {v : Value} {L : List Int} (h : OwnI w base v L) (hl : 0 < L.length) : ∃ T cap, v = .slice (some ⟨T, 0, none⟩) L.length cap ∧ L.length ≤ cap ∧ IA w (some ⟨T, 0, none⟩) L := by
  have h0 := h
  rcases h.2 with ⟨rfl, hn⟩ | ⟨g, cap, cur, rfl, hg, hr, hc, _⟩
  · omega
  · refine ⟨g, cap, rfl, hc, ⟨fun k hk => ⟨g, 0, rfl, (World.ownsRow.lt h0 g rfl).2, ?_⟩⟩⟩
    have := World.ownsRow.cellAt h0 k (by omega)
    rw [Nat.zero_add, this]
    simp [hk]
/-- From a place on. -/
theorem IA.tail {w : World} {a : Option Addr} {L : List Int} (h : IA w a L) {c i : Nat} (hc : L.length ≤ c) (hi : i ≤ L.length) : IA w (if c = i then a else a.map (fun x => x.add i)) (L.drop i) := ⟨fun k hk => by
  rw [List.length_drop] at hk
  obtain ⟨b, off, rfl, h1, h2⟩ := h.at' (i + k) (by omega)
  rw [if_neg (by omega)]
  refine ⟨b, off + i, by rw [Option.map_some, Addr.add_lit], h1, ?_⟩
  rw [Nat.add_assoc, h2]
  congr 2
  rw [List.getElem_drop]⟩
theorem IA.head {w : World} {a : Option Addr} {L : List Int} (h : IA w a L) (k : Nat) : IA w a (L.take k) := ⟨fun j hj => by
  rw [List.length_take] at hj
  obtain ⟨b, off, rfl, h1, h2⟩ := h.at' j (by omega)
  refine ⟨b, off, rfl, h1, ?_⟩
  rw [h2]
  congr 2
  rw [List.getElem_take]⟩
theorem own_empty (w : World) (base : Nat) (h : base ≤ w.heap.size) : OwnI (w.alloc (.cells #[] 3)) base (.slice (some ⟨w.heap.size, 0, none⟩) 0 0) [] :=
  ⟨rfl, .inr ⟨w.heap.size, 0, #[], rfl, h, heap_alloc_new w _, Nat.le_refl _, by decide, rfl, rfl⟩⟩
theorem grown_bel {w0 w w' : World} {v : Value} {L : List Int} (h : Below w0.heap.size w0 w) (ho : OwnI w w0.heap.size v L) (hg : w.grownBy w' v.ownBlock) : Below w0.heap.size w0 w' := h.grown hg h.size (fun k hk => (World.ownsRow.lt ho k hk).1)
/-- An append of numbers behind a list of one's own, as one step of a region that draws its order. -/
theorem step_spreadO {ops : Array Oper} {o : Oper} {a : Act} {w : World} {K : Act → World → Prop} {Q : Exit → Act → World → Prop} {E : Prop} (hg : o.guard = none) (s x : Operand)
    (ho : o.op = .call { callee := .builtin .append, args := #[s, x], argTypes := #[34, 34] })
    (base : Nat) (v : Value) (L0 : List Int) (ad : Addr) (m c : Nat) (L : List Int) (hs : a.eval s = v) (hown : OwnI w base v L0) (hx : a.eval x = .slice (some ad) m c) (hm : m = L.length) (ha : IA w (some ad) L) (hb : base ≤ w.heap.size) (hsz : L0.length + L.length ≤ 1000000)
    (h : ∀ v' w', OwnI w' base v' (L0 ++ L) → w.grownBy w' v.ownBlock → K (a.put o.dst v') w') :
    if Region.wanted o (yielded ops a.tmps) = true then Oper.wp Tryd.prog o a w K Q else E := by
  obtain ⟨i0, hi, hz0, hz1, hz2⟩ := info_parts infoInt
  subst hm
  refine step_append_own_at hg s x 34 ho base 3 i0 (.int .i64 0) 1 8 Tryd.underlying34 hi hz0 hz1 hz2 rfl (by decide) v L0.length (L0.map (Value.int .i64)) hs hown ad L.length c (L.map (Value.int .i64)) hx (by simp) (fun j u hu => ?_) (fun u hu => by obtain ⟨y, _, rfl⟩ := List.mem_map.1 hu; rfl) (by unfold maxLen; omega) (by omega) hb (fun v' w' h1 h2 _ => h v' w' ?_ h2)
  · have hj : j < L.length := by have := (List.getElem?_eq_some_iff.1 hu).1; simpa using this
    obtain ⟨b, off, e, h1, h2⟩ := ha.at' j hj
    cases e
    rw [Addr.add_mid, h2]
    have : (L.map (Value.int .i64))[j]? = some (.int .i64 L[j]) := by simp [hj]
    rw [this] at hu
    exact hu
  · unfold OwnI
    rw [List.length_append, List.map_append]
    exact h1
end Go.Proofs.YtleeedjpccooaaaDoor
namespace Go.Proofs.YtleeedjpccooaaaDoor
open Go.RowKit Go.Shelf
set_option maxRecDepth 10000 in
set_option maxHeartbeats 1600000 in
theorem machineStep_any (A : Nat → Addr) (rs : List Pr) (sy : Int) (Wd : List Int) (aP aW : Option Addr) (cP cW : Nat) (w : World) (hj : JobI w A aP rs sy 16384) (hW : IA w aW Wd) :
    Calls Tryd.prog 5 #[.agg #[.slice aP rs.length cP, .int .i64 sy, .slice aW Wd.length cW]] w fun e w' => e = .returned (.bool true) ∧ Below w.heap.size w w' := by
  obtain ⟨hp, he, hB, hs63, hs64, _, _⟩ := hj
  obtain ⟨rn, hrn⟩ : ∃ rn, rn = rs.length := ⟨_, rfl⟩
  obtain ⟨wn, hwn⟩ : ∃ wn, wn = Wd.length := ⟨_, rfl⟩
  obtain ⟨w0, hw0⟩ : ∃ w0, w0 = w.alloc (.cells #[.slice aP rs.length cP, .int .i64 sy, .slice aW Wd.length cW] 38) := ⟨_, rfl⟩
  have hb0 : Below w.heap.size w w0 := by rw [hw0]; exact below_alloc1 _ _
  have hr0 : w0.heap[w.heap.size]? = some (.cells #[.slice aP rs.length cP, .int .i64 sy, .slice aW Wd.length cW] 38 (0, 0)) := by rw [hw0]; exact heap_alloc_new w _
  have HX : Hid (∀ V, Below w0.heap.size w0 V → (V.cell? ⟨w.heap.size, 0, none⟩ = some (.slice aP rn cP) ∧ V.cell? ⟨w.heap.size, 1, none⟩ = some (.int .i64 sy) ∧ V.cell? ⟨w.heap.size, 2, none⟩ = some (.slice aW wn cW)) ∧ PaI V aP rs ∧ EnvM V A ∧ IA V aW Wd) := hid0 (fun V hV => by
    have hc := row3c ((hV.block _ (Array.getElem?_eq_some_iff.1 hr0).1).trans hr0)
    rw [← hrn, ← hwn] at hc
    exact ⟨hc, hp.past (Below.later hb0 hV), he.past (Below.later hb0 hV), hW.past (Below.later hb0 hV)⟩)
  have HBe : Hid (Calls Tryd.prog 8 #[] w0 fun e w' => e = .returned (.bool true) ∧ Hid (Below w0.heap.size w0 w')) := hid0 (begun_any A w0 (he.past hb0))
  have HB0 := hid0 hb0
  have hfold := hw0.symm
  rw [← hrn, ← hwn] at hfold ⊢
  clear hp he hb0 hr0 hw0 hW
  cases hq : bldF rs sy 16384 with
  | error i =>
    have HBu : Hid (∀ V, Below w0.heap.size w0 V → Calls Tryd.prog 9 #[.slice aP rn cP, .int .i64 sy, .int .i64 16384] V fun e w' => e = .returned (.tuple #[.agg #[.int .i64 0, .slice none 0 0, .slice none 0 0], .iface 157 (.pointer (some (A i)))]) ∧ Hid (Below V.heap.size V w')) := hid0 (fun V hV => by
      have h := build_err (c := cP) hq (HX.out V hV).2.1 (HX.out V hV).2.2.1 hs63 hs64 (by decide) (by decide) hB
      rw [← hrn] at h
      exact h)
    have HR := hid0 hrn
    have HR2 := hid0 hwn
    clear hq hrn hB hwn
    go_enter Tryd.func5, Tryd.ntmps5
    go_upto_region 4 with (first
      | (go_at_call 8; go_loud ((refine HBe.out.mono ?_; rintro e w1 ⟨rfl, H1⟩; obtain ⟨⟨x0, x1, x2⟩, _⟩ := HX.out w1 H1.out)))
      | (go_at_call 9; go_loud ((refine (HBu.out w1 H1.out).mono ?_; rintro e w2 ⟨rfl, H2⟩))))
    obtain ⟨w3, h3⟩ : ∃ w3, w3 = w2.alloc (.cells #[.int .i64 0, .slice none 0 0, .slice none 0 0] 28) := ⟨_, rfl⟩
    rw [← h3]
    have hr3 : w3.heap[w2.heap.size]? = some (.cells #[.int .i64 0, .slice none 0 0, .slice none 0 0] 28 (0, 0)) := by rw [h3]; exact heap_alloc_new w2 _
    obtain ⟨m0, m1, m2⟩ := row3c hr3
    have HF : Hid (Below w.heap.size w w3) := hid0 (by rw [h3]; exact Below.later HB0.out (Below.later H1.out (Below.later H2.out (below_alloc1 _ _))))
    clear h3 hr3 x0 x1 x2
    go_wp2
    go_ret
    exact ⟨rfl, HF.out⟩
  | ok b =>
    have hv := bldF_ok hq
    obtain ⟨v1, v2, v3, v4, v5, v6⟩ := hv.val
    have hs1 := hv.s1
    have hs2 := hv.s2
    obtain ⟨syn, rfl⟩ : ∃ syn : Nat, sy = (syn : Int) := ⟨sy.toNat, by omega⟩
    obtain ⟨NN, hNN⟩ : ∃ NN, NN = b.nx.length := ⟨_, rfl⟩
    obtain ⟨N, hN⟩ : ∃ N, N = b.nx.map nI := ⟨_, rfl⟩
    obtain ⟨wd, hwd⟩ : ∃ wd, wd = wdF syn Wd := ⟨_, rfl⟩
    obtain ⟨n, hn⟩ : ∃ n, n = wd.length := ⟨_, rfl⟩
    have hNl : N.length = NN := by rw [hN, List.length_map, hNN]
    obtain ⟨L, hL⟩ : ∃ L, runF N (0 : Int) wd = some L := by
      have := runF_some (N := N) (sy := (syn : Int)) (by rw [hN]; exact hv.rows) wd 0 (by omega) (by rw [hwd]; exact wdF_ok (by omega) Wd)
      exact this
    have hn14 : n ≤ 14 := by rw [hn, hwd, wdF_len]; omega
    have hLl : L.length = n + 1 := by rw [runF_len hL, hn]
    have HN : Hid (N.length = NN ∧ ∀ r ∈ N, r.length ≤ 17592186043904) := hid0 ⟨hNl, fun r hr => by have := (hv.rows r (by rw [← hN]; exact hr)).1; omega⟩
    have HL : Hid (runF N (0 : Int) wd = some L ∧ L.length = n + 1 ∧ wd.length = n) := hid0 ⟨hL, hLl, hn.symm⟩
    have HB1 : Hid (∀ V, Below w0.heap.size w0 V → Calls Tryd.prog 9 #[.slice aP rn cP, .int .i64 (syn : Int), .int .i64 16384] V fun e w' => ∃ aN aO cN cO, e = .returned (.tuple #[.agg #[.int .i64 0, .slice aN NN cN, .slice aO NN cO], .nilIface]) ∧ Hid (RwA w' aN N ∧ Below V.heap.size V w')) := hid0 (fun V hV => by
      have h := build_ok (c := cP) hq (HX.out V hV).2.1 (HX.out V hV).2.2.1 hs63 hs64 (by decide) (by decide) hB
      rw [← hrn] at h
      refine h.mono (fun e w' h => ?_)
      obtain ⟨aN, aO, cN, cO, q1, q2⟩ := h
      rw [v2, ← hNN] at q1
      exact ⟨aN, aO, cN, cO, q1, hid0 ⟨by rw [hN]; exact q2.out.1, q2.out.2.2⟩⟩)
    have HWd : Hid (∀ V, Below w0.heap.size w0 V → Calls Tryd.prog 12 #[.agg #[.slice aP rn cP, .int .i64 (syn : Int), .slice aW wn cW]] V fun e w' => ∃ aV cV, e = .returned (.slice aV n cV) ∧ n ≤ cV ∧ Hid (IA w' aV wd ∧ (aV = none → cV = 0) ∧ Below V.heap.size V w')) := hid0 (fun V hV => by
      have h := word_any syn Wd aP aW rn cP cW V (by omega) (by omega) (HX.out V hV).2.2.2
      rw [← hwn] at h
      refine h.mono (fun e w' h => ?_)
      obtain ⟨v, q1, q2, q3⟩ := h
      rw [← hwd] at q2
      obtain ⟨a, c, rfl, r1, r2, r3⟩ := OwnI.cap q2.out
      rw [← hn] at q1 r2
      exact ⟨a, c, q1, r2, hid0 ⟨r1, r3, q3.out⟩⟩)
    have HSen : Hid (∀ V, Below w0.heap.size w0 V → Sen2 V A) := hid0 (fun V hV => (HX.out V hV).2.2.1.t.sen)
    have HRun : Hid (∀ (V : World) (s : Nat) (l r : List Int) (ln : Nat) (aN aO aw : Option Addr) (cN cO cw : Nat), Below w0.heap.size w0 V → ln = l.length → ln ≤ 1000 → RwA V aN N → IA V aw l → runF N (s : Int) l = some r → Calls Tryd.prog 13 #[.agg #[.int .i64 (s : Int), .slice aN NN cN, .slice aO NN cO], .slice aw ln cw] V fun e w' => ∃ T cT, e = .returned (.tuple #[.slice (some ⟨T, 0, none⟩) (ln + 1) cT, .nilIface]) ∧ ln + 1 ≤ cT ∧ Hid (IA w' (some ⟨T, 0, none⟩) r ∧ Below V.heap.size V w')) := hid0 (fun V s l r ln aN aO aw cN cO cw hV e1 e2 h1 h2 h3 => by
      subst e1
      have h := mrun_two A (s : Int) N l aN aO aw cN NN cO cw V HN.out.2 (by omega) h1 h2 (HSen.out V hV)
      rw [HN.out.1, h3] at h
      refine h.mono (fun e w' q => ?_)
      obtain ⟨v, q1, q2, q3⟩ := q
      have hrl := runF_len h3
      obtain ⟨T, cT, rfl, r2⟩ := OwnI.box q2 (by rw [Option.getD_some, hrl]; omega)
      rw [Option.getD_some, hrl] at r2
      refine ⟨T, cT, ?_, r2.1, hid0 ⟨r2.2, q3⟩⟩
      rw [q1, Option.getD_some, hrl]
      rfl)
    have HR := hid0 hrn
    have HR2 := hid0 hwn
    have hNN2 : NN ≤ 16384 := by omega
    have hNN1 : 1 ≤ NN := by omega
    clear hq hv v1 v2 v3 v4 v5 v6 hNN hrn hB hwn hwd hN hL hLl hn hNl
    have hwr : IntKind.i64.wrap ((n : Int) + 1) = (n : Int) + 1 := by simp [IntKind.wrap, IntKind.bits, IntKind.signed]; omega
    go_enter Tryd.func5, Tryd.ntmps5
    go_upto_region 4 with (first
      | (go_at_call 8; go_loud ((refine HBe.out.mono ?_; rintro e w1 ⟨rfl, H1⟩; obtain ⟨⟨x0, x1, x2⟩, _⟩ := HX.out w1 H1.out)))
      | (go_at_call 9; go_loud ((refine (HB1.out w1 H1.out).mono ?_; rintro e w2 ⟨aN, aO, cN, cO, rfl, H2⟩))))
    obtain ⟨w3, hw3⟩ : ∃ w3, w3 = w2.alloc (.cells #[.int .i64 0, .slice aN NN cN, .slice aO NN cO] 28) := ⟨_, rfl⟩
    rw [← hw3]
    obtain ⟨M, hM⟩ : ∃ M, M = w2.heap.size := ⟨_, rfl⟩
    rw [← hM]
    have hr3 : w3.heap[M]? = some (.cells #[.int .i64 0, .slice aN NN cN, .slice aO NN cO] 28 (0, 0)) := by rw [hw3, hM]; exact heap_alloc_new w2 _
    have hb3 : Below w2.heap.size w2 w3 := by rw [hw3]; exact below_alloc1 _ _
    have HA1 : Hid (∀ V, Below w3.heap.size w3 V → RwA V aN N ∧ Below w0.heap.size w0 V ∧ V.heap[M]? = some (.cells #[.int .i64 0, .slice aN NN cN, .slice aO NN cO] 28 (0, 0))) := hid0 (fun V hV => ⟨(H2.out.1.past hb3).past hV, Below.later H1.out (Below.later H2.out.2 (Below.later hb3 hV)), (hV.block _ (Array.getElem?_eq_some_iff.1 hr3).1).trans hr3⟩)
    obtain ⟨m0, m1, m2⟩ := row3c hr3
    obtain ⟨⟨y0, y1, y2⟩, _⟩ := HX.out w3 (HA1.out w3 (Below.refl _ _)).2.1
    have HWd3 := hid0 (HWd.out w3 (HA1.out w3 (Below.refl _ _)).2.1)
    clear hw3 hM hr3 hb3 x0 x1 x2 H1 H2 HB1 HBe HWd
    go_upto_region 7 with (go_at_call 12; go_loud ((refine HWd3.out.mono ?_; rintro e w4 ⟨aV, cV, rfl, hcV, H4⟩; clear m0 m1 m2 y0 y1 y2; obtain ⟨m0, m1, m2⟩ := row3c (HA1.out w4 H4.out.2.2).2.2; obtain ⟨⟨y0, y1, y2⟩, _⟩ := HX.out w4 (HA1.out w4 H4.out.2.2).2.1)))
    have HR4 := hid0 (HRun.out w4 0 wd L n aN aO aV cN cO cV (HA1.out w4 H4.out.2.2).2.1 HL.out.2.2.symm (by omega) (HA1.out w4 H4.out.2.2).1 H4.out.1 HL.out.1)
    clear HWd3
    go_upto_region 8 with (go_at_call 13; go_loud ((refine HR4.out.mono ?_; rintro e w5 ⟨R, cR, rfl, hcR, H5⟩)))
    clear m0 m1 m2 y0 y1 y2 HR4
    have HX5 : Hid (∀ V, Below w5.heap.size w5 V → RwA V aN N ∧ Below w0.heap.size w0 V ∧ (V.cell? ⟨M, 0, none⟩ = some (.int .i64 0) ∧ V.cell? ⟨M, 1, none⟩ = some (.slice aN NN cN) ∧ V.cell? ⟨M, 2, none⟩ = some (.slice aO NN cO)) ∧ IA V aV wd ∧ IA V (some ⟨R, 0, none⟩) L) := hid0 (fun V hV => by
      have k4 : Below w4.heap.size w4 V := Below.later H5.out.2 hV
      have k3 := HA1.out V (Below.later H4.out.2.2 k4)
      exact ⟨k3.1, k3.2.1, row3c k3.2.2, H4.out.1.past k4, H5.out.1.past hV⟩)
    have HnV := hid0 H4.out.2.1
    have HF5 : Hid (Below w.heap.size w w5) := hid0 (Below.later HB0.out (HX5.out w5 (Below.refl _ _)).2.1)
    have HSame : Hid (∀ (V : World) (l : List Int) (ln lm : Nat) (a b : Option Addr) (ca cb : Nat), ln = l.length → lm = l.length → ln ≤ 1000 → IA V a l → IA V b l → Calls Tryd.prog 14 #[.slice a ln ca, .slice b lm cb] V fun e w' => e = .returned (.bool true) ∧ ∃ n, w' = V.drewN n) := hid0 (fun V l ln lm a b ca cb e1 e2 e3 h1 h2 => by
      subst e2
      subst e1
      exact sameI l a b ca cb V (by omega) h1 h2)
    clear HX HA1 H4 H5 hfold
    go_upto_region 11 with fail
    go_loopw [8] (fun q wr => ∃ i : Nat, i ≤ n + 1 ∧ q = .int .i64 (i : Int) ∧ Hid (Below w5.heap.size w5 wr)) (fun q _ => n + 1 - (intOf q).toNat)
    case atStart => exact ⟨0, Nat.zero_le _, rfl, hid0 (Below.refl _ _)⟩
    case round =>
      obtain ⟨i, hi, rfl, HB⟩ := hrel
      by_cases hlt : i < n + 1
      · have hin : i ≤ wd.length := by rw [HL.out.2.2]; omega
        obtain ⟨s, hs, g1, g2⟩ := runF_at _ _ _ HL.out.1 i hin
        have hiI : (i : Int) < ((n : Int) + 1) := by omega
        have hiI0 : (0 : Int) ≤ (i : Int) := by omega
        have hiI1 : (i : Int) ≤ (n : Int) := by omega
        have hiI2 : (i : Int) ≤ ((n : Int) + 1) := by omega
        have hiN : i ≤ n + 1 := hi
        have hsub : n - i + 1 = n + 1 - i := by omega
        obtain ⟨adi, had⟩ : ∃ adi, (if cV = i then aV else Option.map (fun x => x.add i) aV) = adi := ⟨_, rfl⟩
        have HIAi : Hid (∀ V, Below w5.heap.size w5 V → IA V adi (wd.drop i)) := hid0 (fun V hV => by
          rw [← had]
          exact (HX5.out V hV).2.2.2.1.tail (by rw [HL.out.2.2]; omega) hin)
        have HRi : Hid (∀ (V : World) (aw : Option Addr) (cw : Nat), Below w5.heap.size w5 V → IA V aw (wd.drop i) → Calls Tryd.prog 13 #[.agg #[.int .i64 (s : Int), .slice aN NN cN, .slice aO NN cO], .slice aw (n - i) cw] V fun e w' => ∃ T cT, e = .returned (.tuple #[.slice (some ⟨T, 0, none⟩) (n + 1 - i) cT, .nilIface]) ∧ Hid (IA w' (some ⟨T, 0, none⟩) (L.drop i) ∧ Below V.heap.size V w')) := hid0 (fun V aw cw hV h1 => by
          have k := HX5.out V hV
          have h := HRun.out V s (wd.drop i) (L.drop i) (n - i) aN aO aw cN cO cw k.2.1 (by rw [List.length_drop, HL.out.2.2]) (by omega) k.1 h1 g2
          rw [hsub] at h
          exact h.mono (fun e w' ⟨T, cT, q1, _, q2⟩ => ⟨T, cT, q1, q2⟩))
        have HXX : Hid (∀ V, Below w5.heap.size w5 V → V.cell? ⟨R, i, none⟩ = some (.int .i64 (s : Int)) ∧ V.cell? ⟨M, 0, none⟩ = some (.int .i64 0) ∧ V.cell? ⟨M, 1, none⟩ = some (.slice aN NN cN) ∧ V.cell? ⟨M, 2, none⟩ = some (.slice aO NN cO)) := hid0 (fun V hV => by
          have k := HX5.out V hV
          have hil : i < L.length := by rw [HL.out.2.1]; exact hlt
          have d := k.2.2.2.2.cellAt hil
          have e : L[i] = (s : Int) := by
            rw [List.getElem?_eq_getElem hil] at g1
            exact Option.some.inj g1
          rw [Nat.zero_add, e] at d
          exact ⟨d, k.2.2.1⟩)
        have HG := hid0 (And.intro hs (And.intro g1 g2))
        clear hs g1 g2 hin
        go_wp2_with fail
        refine wp_region_noPanic ?_
        refine wp_region_held_drew (S := fun W => W.cell? ⟨R, i, none⟩ = some (.int .i64 (s : Int)) ∧ W.cell? ⟨M, 0, none⟩ = some (.int .i64 0) ∧ W.cell? ⟨M, 1, none⟩ = some (.slice aN NN cN) ∧ W.cell? ⟨M, 2, none⟩ = some (.slice aO NN cO)) (by kernel_rfl) ?_ (fun hHeld => ?_)
        · exact HXX.out _ (bel_drew HB.out)
        refine tkV (i := 0) (d := some 55) (v := ?_) rfl (by kernel_rfl) (by kernel_rfl) (by kernel_rfl) rfl (fun _ _ _ h => h) (by rfl) ?_ (by assumption) ?_
        rotate_left
        · (intro w hSw; (try dsimp only at hSw); (try simp only [List.getElem_toArray, List.getElem_cons_zero]); go_simp; try with_reducible rfl)
        try simp only [Act.put, List.setIfInBounds_toArray, List.set_cons_zero, List.set_cons_succ]
        refine tkV (i := 1) (d := some 56) (v := ?_) rfl (by kernel_rfl) (by kernel_rfl) (by kernel_rfl) rfl (fun _ _ _ h => h) (by rfl) ?_ (by assumption) ?_
        rotate_left
        · (intro w hSw; (try dsimp only at hSw); (try simp only [List.getElem_toArray, List.getElem_cons_zero, List.getElem_cons_succ]); go_simp; try with_reducible rfl)
        try simp only [Act.put, List.setIfInBounds_toArray, List.set_cons_zero, List.set_cons_succ]
        refine tkV (i := 2) (d := some 57) (v := ?_) rfl (by kernel_rfl) (by kernel_rfl) (by kernel_rfl) rfl (fun _ _ _ h => h) (by rfl) ?_ (by assumption) ?_
        rotate_left
        · (intro w hSw; (try dsimp only at hSw); (try simp only [List.getElem_toArray, List.getElem_cons_zero, List.getElem_cons_succ]); go_simp; try with_reducible rfl)
        try simp only [Act.put, List.setIfInBounds_toArray, List.set_cons_zero, List.set_cons_succ]
        refine tkV (i := 3) (d := some 58) (v := ?_) rfl (by kernel_rfl) (by kernel_rfl) (by kernel_rfl) rfl (fun _ _ _ h => h) (by rfl) ?_ (by assumption) ?_
        rotate_left
        · (intro w hSw; (try dsimp only at hSw); (try simp only [List.getElem_toArray, List.getElem_cons_zero, List.getElem_cons_succ]); go_simp; try with_reducible rfl)
        try simp only [Act.put, List.setIfInBounds_toArray, List.set_cons_zero, List.set_cons_succ]
        refine tkV (i := 4) (d := some 59) (v := ?_) rfl (by kernel_rfl) (by kernel_rfl) (by kernel_rfl) rfl (fun _ _ _ h => h) (by rfl) ?_ (by assumption) ?_
        rotate_left
        · (intro w hSw; (try dsimp only at hSw); (try simp only [List.getElem_toArray, List.getElem_cons_zero, List.getElem_cons_succ]); go_simp; try with_reducible rfl)
        try simp only [Act.put, List.setIfInBounds_toArray, List.set_cons_zero, List.set_cons_succ]
        refine tkV (i := 5) (d := some 60) (v := ?_) rfl (by kernel_rfl) (by kernel_rfl) (by kernel_rfl) rfl (fun _ _ _ h => h) (by rfl) ?_ (by assumption) ?_
        rotate_left
        · (intro w hSw; (try dsimp only at hSw); (try simp only [List.getElem_toArray, List.getElem_cons_zero, List.getElem_cons_succ]); go_simp; try with_reducible rfl)
        try simp only [Act.put, List.setIfInBounds_toArray, List.set_cons_zero, List.set_cons_succ]
        refine tkV (i := 6) (d := some 61) (v := ?_) rfl (by kernel_rfl) (by kernel_rfl) (by kernel_rfl) rfl (fun _ _ _ h => h) (by rfl) ?_ (by assumption) ?_
        rotate_left
        · (intro w hSw; (try dsimp only at hSw); (try simp only [List.getElem_toArray, List.getElem_cons_zero, List.getElem_cons_succ]); go_simp; try with_reducible rfl)
        try simp only [Act.put, List.setIfInBounds_toArray, List.set_cons_zero, List.set_cons_succ]
        refine tkV (i := 7) (d := some 62) (v := ?_) rfl (by kernel_rfl) (by kernel_rfl) (by kernel_rfl) rfl (fun _ _ _ h => h) (by rfl) ?_ (by assumption) ?_
        rotate_left
        · (intro w hSw; (try dsimp only at hSw); (try simp only [List.getElem_toArray, List.getElem_cons_zero, List.getElem_cons_succ]); go_simp; try with_reducible rfl)
        try simp only [Act.put, List.setIfInBounds_toArray, List.set_cons_zero, List.set_cons_succ]
        refine tkV (i := 8) (d := some 63) (v := ?_) rfl (by kernel_rfl) (by kernel_rfl) (by kernel_rfl) rfl (fun _ _ _ h => h) (by rfl) ?_ (by assumption) ?_
        rotate_left
        · (intro w hSw; (try dsimp only at hSw); (try simp only [List.getElem_toArray, List.getElem_cons_zero, List.getElem_cons_succ]); go_simp; try with_reducible rfl)
        try simp only [Act.put, List.setIfInBounds_toArray, List.set_cons_zero, List.set_cons_succ]
        refine tkV (i := 9) (d := some 64) (v := ?_) rfl (by kernel_rfl) (by kernel_rfl) (by kernel_rfl) rfl (fun _ _ _ h => h) (by rfl) ?_ (by assumption) ?_
        rotate_left
        · (intro w hSw; (try dsimp only at hSw); (try simp only [List.getElem_toArray, List.getElem_cons_zero, List.getElem_cons_succ]); go_simp; try with_reducible rfl)
        try simp only [Act.put, List.setIfInBounds_toArray, List.set_cons_zero, List.set_cons_succ]
        refine tkV (i := 10) (d := some 65) (v := ?_) rfl (by kernel_rfl) (by kernel_rfl) (by kernel_rfl) rfl (fun _ _ _ h => h) (by rfl) ?_ (by assumption) ?_
        rotate_left
        · (intro w hSw; (try dsimp only at hSw); (try simp only [List.getElem_toArray, List.getElem_cons_zero, List.getElem_cons_succ]); go_simp; try with_reducible rfl)
        try simp only [Act.put, List.setIfInBounds_toArray, List.set_cons_zero, List.set_cons_succ]
        refine tkV (i := 11) (d := some 66) (v := ?_) rfl (by kernel_rfl) (by kernel_rfl) (by kernel_rfl) rfl (fun _ _ _ h => h) (by rfl) ?_ (by assumption) ?_
        rotate_left
        · (intro w hSw; (try dsimp only at hSw); (try simp only [List.getElem_toArray, List.getElem_cons_zero, List.getElem_cons_succ]); go_simp; try with_reducible rfl)
        try simp only [Act.put, List.setIfInBounds_toArray, List.set_cons_zero, List.set_cons_succ]
        refine wpAnyH_ready (rs := [12]) (by kernel_rfl) (by simp) (AllReadyH.cons rfl (fun K hK => ?_) AllReadyH.nil)
        try simp only [List.getElem_toArray, List.getElem_cons_zero, List.getElem_cons_succ]
        go_simp
        refine (HRi.out _ _ _ (bel_drew HB.out) (HIAi.out _ (bel_drew HB.out))).mono ?_
        rintro e w6 ⟨T, cT, rfl, H6⟩
        go_wp2_with fail
        refine hK.out _ _ ?_ (fun hHeld12 => ?_)
        · exact HXX.out _ (Below.later (bel_drew HB.out) H6.out.2)
        clear hK K
        (try simp only [Act.put]); (try simp only [List.setIfInBounds_toArray]); (try simp only [List.set_cons_succ]); (try simp only [List.set_cons_zero])
        refine tkV (i := 13) (d := some 54) (v := ?_) rfl (by kernel_rfl) (by kernel_rfl) (by kernel_rfl) rfl (fun _ _ _ h => h) (by rfl) ?_ (by assumption) ?_
        rotate_left
        · (intro w hSw; (try dsimp only at hSw); (try simp only [List.getElem_toArray, List.getElem_cons_zero, List.getElem_cons_succ]); go_simp; try with_reducible rfl)
        try simp only [Act.put, List.setIfInBounds_toArray, List.set_cons_zero, List.set_cons_succ]
        refine tkV (i := 14) (d := some 68) (v := ?_) rfl (by kernel_rfl) (by kernel_rfl) (by kernel_rfl) rfl (fun _ _ _ h => h) (by rfl) ?_ (by assumption) ?_
        rotate_left
        · (intro w hSw; (try dsimp only at hSw); (try simp only [List.getElem_toArray, List.getElem_cons_zero, List.getElem_cons_succ]); go_simp; try with_reducible rfl)
        try simp only [Act.put, List.setIfInBounds_toArray, List.set_cons_zero, List.set_cons_succ]
        refine tkV (i := 15) (d := some 69) (v := ?_) rfl (by kernel_rfl) (by kernel_rfl) (by kernel_rfl) rfl (fun _ _ _ h => h) (by rfl) ?_ (by assumption) ?_
        rotate_left
        · (intro w hSw; (try dsimp only at hSw); (try simp only [List.getElem_toArray, List.getElem_cons_zero, List.getElem_cons_succ]); go_simp; try with_reducible rfl)
        try simp only [Act.put, List.setIfInBounds_toArray, List.set_cons_zero, List.set_cons_succ]
        refine tkV (i := 16) (d := some 9) (v := ?_) rfl (by kernel_rfl) (by kernel_rfl) (by kernel_rfl) rfl (fun _ _ _ h => h) (by rfl) ?_ (by assumption) ?_
        rotate_left
        · (intro w hSw; (try dsimp only at hSw); (try simp only [List.getElem_toArray, List.getElem_cons_zero, List.getElem_cons_succ]); go_simp; try with_reducible rfl)
        try simp only [Act.put, List.setIfInBounds_toArray, List.set_cons_zero, List.set_cons_succ]
        refine tkV (i := 17) (d := some 10) (v := ?_) rfl (by kernel_rfl) (by kernel_rfl) (by kernel_rfl) rfl (fun _ _ _ h => h) (by rfl) ?_ (by assumption) ?_
        rotate_left
        · (intro w hSw; (try dsimp only at hSw); (try simp only [List.getElem_toArray, List.getElem_cons_zero, List.getElem_cons_succ]); go_simp; try with_reducible rfl)
        try simp only [Act.put, List.setIfInBounds_toArray, List.set_cons_zero, List.set_cons_succ]
        refine wpAnyH_done (by kernel_rfl) ?_ _
        refine NoPanic.normal ?_
        have HB6 : Hid (Below w5.heap.size w5 w6) := hid0 (Below.later (bel_drew HB.out) H6.out.2)
        have HLi : Hid (IA w6 (some ⟨R, i, none⟩) (L.drop i)) := hid0 (by
          have q := (HX5.out w6 HB6.out).2.2.2.2.tail (c := cR) (i := i) (by rw [HL.out.2.1]; omega) (by rw [HL.out.2.1]; omega)
          rw [if_neg (by omega), Option.map_some, Addr.add_lit, Nat.zero_add] at q
          exact q)
        go_upto_region 17 with (go_at_call 14; go_loud ((refine (HSame.out w6 (L.drop i) _ _ _ _ _ _ (by rw [List.length_drop, HL.out.2.1]) (by rw [List.length_drop, HL.out.2.1]) (by omega) H6.out.1 HLi.out).mono ?_; rintro e w7 ⟨rfl, n7, hw7⟩)))
        clear HLi H6 HRi
        go_loopw [11] (fun q wr => ∃ k : Nat, k ≤ i ∧ q = .int .i64 (k : Int) ∧ Hid (Below w5.heap.size w5 wr)) (fun q _ => i - (intOf q).toNat)
        case atStart => exact ⟨0, Nat.zero_le _, rfl, hid0 (below_drew' HB6.out _)⟩
        case round =>
          obtain ⟨k, hk, rfl, HB2⟩ := hrel
          by_cases hki : k < i
          · have hkI : (k : Int) < (i : Int) := by omega
            have hkI0 : (0 : Int) ≤ (k : Int) := by omega
            have hkI1 : (k : Int) ≤ (n : Int) := by omega
            have hkI2 : (k : Int) < ((n : Int) + 1) := by omega
            have hkc : (k : Int) ≤ (cV : Int) := by omega
            have hkL : k < L.length := by rw [HL.out.2.1]; omega
            obtain ⟨q, _, f1, f2⟩ := runF_at _ _ _ HL.out.1 k (by rw [HL.out.2.2]; omega)
            have dk : wr.cell? ⟨R, k, none⟩ = some (.int .i64 (q : Int)) := by
              have d := (HX5.out wr HB2.out).2.2.2.2.cellAt hkL
              have e : L[k] = (q : Int) := by
                rw [List.getElem?_eq_getElem hkL] at f1
                exact Option.some.inj f1
              rw [Nat.zero_add, e] at d
              exact d
            have di := (HXX.out wr HB2.out).1
            by_cases hqs : s = q
            · subst hqs
              have HXJ : Hid (∀ V, Below w5.heap.size w5 V → V.cell? ⟨M, 0, none⟩ = some (.int .i64 0) ∧ V.cell? ⟨M, 1, none⟩ = some (.slice aN NN cN) ∧ V.cell? ⟨M, 2, none⟩ = some (.slice aO NN cO)) := hid0 (fun V hV => (HXX.out V hV).2)
              have HJn : Hid (runF N (0 : Int) (wd.take k ++ wd.drop i) = some (L.take k ++ L.drop i)) := hid0 (runF_join HL.out.1 (by rw [HL.out.2.2]; omega) (by rw [HL.out.2.2]; omega) (by rw [f1, HG.out.2.1]))
              have hjlE : ∃ jl, jl = k + (n - i) := ⟨_, rfl⟩
              obtain ⟨jl, hjl⟩ := hjlE
              have HJl : Hid ((wd.take k ++ wd.drop i).length = jl) := hid0 (by rw [List.length_append, List.length_take, List.length_drop, HL.out.2.2, hjl]; omega)
              have HLJ : Hid ((L.take k ++ L.drop i).length = jl + 1) := hid0 (by rw [List.length_append, List.length_take, List.length_drop, HL.out.2.1, hjl]; omega)
              have hkJ : (k : Int) ≤ ((jl : Int) + 1) := by omega
              have hkJ2 : ¬ ((jl : Int) + 1) < (k : Int) := by omega
              have hkJ3 : k ≤ jl := by omega
              have hjs : jl ≤ 100 := by omega
              have HLd : Hid (jl + 1 - k = (L.drop i).length ∧ n + 1 - i = (L.drop i).length) := hid0 (by rw [List.length_drop, HL.out.2.1]; omega)
              clear hjl
              have HRJ : Hid (∀ (V : World) (aw : Option Addr) (cw : Nat), Below w5.heap.size w5 V → IA V aw (wd.take k ++ wd.drop i) → Calls Tryd.prog 13 #[.agg #[.int .i64 0, .slice aN NN cN, .slice aO NN cO], .slice aw jl cw] V fun e w' => ∃ T cT, e = .returned (.tuple #[.slice (some ⟨T, 0, none⟩) (jl + 1) cT, .nilIface]) ∧ jl + 1 ≤ cT ∧ Hid (IA w' (some ⟨T, 0, none⟩) (L.take k ++ L.drop i) ∧ Below V.heap.size V w')) := hid0 (fun V aw cw hV h1 => by
                have kk := HX5.out V hV
                exact HRun.out V 0 (wd.take k ++ wd.drop i) (L.take k ++ L.drop i) jl aN aO aw cN cO cw kk.2.1 HJl.out.symm (by omega) kk.1 h1 HJn.out)
              obtain ⟨g, o, hav, _, _⟩ := (HX5.out wr HB2.out).2.2.2.1.at' 0 (by rw [HL.out.2.2]; omega)
              subst hav
              have HTk : Hid (k = (wd.take k).length ∧ ∀ V, Below w5.heap.size w5 V → IA V (some ⟨g, o, none⟩) (wd.take k)) := hid0 ⟨by rw [List.length_take, HL.out.2.2]; omega, fun V hV => (HX5.out V hV).2.2.2.1.head k⟩
              obtain ⟨ad, had3⟩ : ∃ ad : Addr, (if cV = i then (⟨g, o, none⟩ : Addr) else ⟨g, o + i, none⟩) = ad := ⟨_, rfl⟩
              have had2 : (if cV = i then some (⟨g, o, none⟩ : Addr) else some ⟨g, o + i, none⟩) = some ad := by rw [← had3]; split <;> rfl
              have had4 : adi = some ad := by rw [← had, Option.map_some, Addr.add_lit, had2]
              rw [had4] at HIAi
              clear had had4
              have HTd : Hid (n - i = (wd.drop i).length ∧ ∀ V, Below w5.heap.size w5 V → IA V (some ad) (wd.drop i)) := hid0 ⟨by rw [List.length_drop, HL.out.2.2], fun V hV => by
                exact HIAi.out V hV⟩
              clear had3
              go_wp2_with fail
              go_quiet (fail)
              have HB3 := hid0 (below_drew' HB2.out nq)
              obtain ⟨wz, hwz⟩ : ∃ wz, wz = wr.drewN nq := ⟨_, rfl⟩
              rw [← hwz] at HB3 ⊢
              clear hwz
              go_wp2_with fail
              refine wp_region_noPanic ?_
              refine wp_region_held_drew (S := fun W => W.cell? ⟨M, 0, none⟩ = some (.int .i64 0) ∧ W.cell? ⟨M, 1, none⟩ = some (.slice aN NN cN) ∧ W.cell? ⟨M, 2, none⟩ = some (.slice aO NN cO)) (by kernel_rfl) ?_ (fun hHeld => ?_)
              · exact HXJ.out _ (bel_drew HB3.out)
              refine tkV (i := 0) (d := some 95) (v := ?_) rfl (by kernel_rfl) (by kernel_rfl) (by kernel_rfl) rfl (fun _ _ _ h => h) (by rfl) ?_ (by assumption) ?_
              rotate_left
              · (intro w hSw; (try dsimp only at hSw); (try simp only [List.getElem_toArray, List.getElem_cons_zero]); go_simp; try with_reducible rfl)
              try simp only [Act.put, List.setIfInBounds_toArray, List.set_cons_zero, List.set_cons_succ]
              refine tkV (i := 2) (d := some 97) (v := ?_) rfl (by kernel_rfl) (by kernel_rfl) (by kernel_rfl) rfl (fun _ _ _ h => h) (by rfl) ?_ (by assumption) ?_
              rotate_left
              · (intro w hSw; (try dsimp only at hSw); (try simp only [List.getElem_toArray, List.getElem_cons_zero, List.getElem_cons_succ]); go_simp; try with_reducible rfl)
              try simp only [Act.put, List.setIfInBounds_toArray, List.set_cons_zero, List.set_cons_succ]
              refine tkV (i := 3) (d := some 98) (v := ?_) rfl (by kernel_rfl) (by kernel_rfl) (by kernel_rfl) rfl (fun _ _ _ h => h) (by rfl) ?_ (by assumption) ?_
              rotate_left
              · (intro w hSw; (try dsimp only at hSw); (try simp only [List.getElem_toArray, List.getElem_cons_zero, List.getElem_cons_succ]); go_simp; try with_reducible rfl)
              try simp only [Act.put, List.setIfInBounds_toArray, List.set_cons_zero, List.set_cons_succ]
              refine tkV (i := 4) (d := some 99) (v := ?_) rfl (by kernel_rfl) (by kernel_rfl) (by kernel_rfl) rfl (fun _ _ _ h => h) (by rfl) ?_ (by assumption) ?_
              rotate_left
              · (intro w hSw; (try dsimp only at hSw); (try simp only [List.getElem_toArray, List.getElem_cons_zero, List.getElem_cons_succ]); go_simp; try with_reducible rfl)
              try simp only [Act.put, List.setIfInBounds_toArray, List.set_cons_zero, List.set_cons_succ]
              refine tkV (i := 6) (d := some 101) (v := ?_) rfl (by kernel_rfl) (by kernel_rfl) (by kernel_rfl) rfl (fun _ _ _ h => h) (by rfl) ?_ (by assumption) ?_
              rotate_left
              · (intro w hSw; (try dsimp only at hSw); (try simp only [List.getElem_toArray, List.getElem_cons_zero, List.getElem_cons_succ]); go_simp; try with_reducible rfl)
              try simp only [Act.put, List.setIfInBounds_toArray, List.set_cons_zero, List.set_cons_succ]
              refine tkV (i := 7) (d := some 102) (v := ?_) rfl (by kernel_rfl) (by kernel_rfl) (by kernel_rfl) rfl (fun _ _ _ h => h) (by rfl) ?_ (by assumption) ?_
              rotate_left
              · (intro w hSw; (try dsimp only at hSw); (try simp only [List.getElem_toArray, List.getElem_cons_zero, List.getElem_cons_succ]); go_simp; try with_reducible rfl)
              try simp only [Act.put, List.setIfInBounds_toArray, List.set_cons_zero, List.set_cons_succ]
              refine tkV (i := 8) (d := some 103) (v := ?_) rfl (by kernel_rfl) (by kernel_rfl) (by kernel_rfl) rfl (fun _ _ _ h => h) (by rfl) ?_ (by assumption) ?_
              rotate_left
              · (intro w hSw; (try dsimp only at hSw); (try simp only [List.getElem_toArray, List.getElem_cons_zero, List.getElem_cons_succ]); go_simp; try with_reducible rfl)
              try simp only [Act.put, List.setIfInBounds_toArray, List.set_cons_zero, List.set_cons_succ]
              refine wpAnyH_ready (rs := [1]) (by kernel_rfl) (by simp) (AllReadyH.cons rfl (fun K hK => ?_) AllReadyH.nil)
              try simp only [List.getElem_toArray, List.getElem_cons_zero, List.getElem_cons_succ]
              go_simp
              refine hK.out _ _ ?_ (fun hHeld1 => ?_)
              · exact HXJ.out _ ((bel_drew HB3.out).alloc (bel_drew HB3.out).size _)
              clear hK K
              (try simp only [Act.put]); (try simp only [List.setIfInBounds_toArray]); (try simp only [List.set_cons_succ]); (try simp only [List.set_cons_zero])
              refine wpAnyH_ready (rs := [5]) (by kernel_rfl) (by simp) (AllReadyH.cons rfl (fun K hK => ?_) AllReadyH.nil)
              refine step_spreadO (by rfl) _ _ (by rfl) w5.heap.size (.slice (some ⟨wz.heap.size, 0, none⟩) 0 0) [] ⟨g, o, none⟩ k cV (wd.take k) (by rfl) (own_empty _ _ (bel_drew HB3.out).size) (by rfl) HTk.out.1 (HTk.out.2 _ ((bel_drew HB3.out).alloc (bel_drew HB3.out).size _)) ((bel_drew HB3.out).alloc (bel_drew HB3.out).size _).size (by rw [HTk.out.1.symm]; simp; omega) ?_
              intro v8 w8 hO8 hG8
              have HB8 : Hid (Below w5.heap.size w5 w8) := hid0 (grown_bel ((bel_drew HB3.out).alloc (bel_drew HB3.out).size _) (own_empty _ _ (bel_drew HB3.out).size) hG8)
              have HO8 : Hid (OwnI w8 w5.heap.size v8 (wd.take k)) := hid0 (by simpa using hO8)
              clear hO8 hG8
              refine hK.out _ _ ?_ (fun hHeld5 => ?_)
              · exact HXJ.out _ HB8.out
              clear hK K
              (try simp only [Act.put]); (try simp only [List.setIfInBounds_toArray]); (try simp only [List.set_cons_succ]); (try simp only [List.set_cons_zero])
              refine wpAnyH_ready (rs := [9]) (by kernel_rfl) (by simp) (AllReadyH.cons rfl (fun K hK => ?_) AllReadyH.nil)
              refine step_spreadO (by rfl) _ _ (by rfl) w5.heap.size v8 (wd.take k) ad (n - i) (cV - i) (wd.drop i) (by rfl) HO8.out (by rfl) HTd.out.1 (HTd.out.2 _ HB8.out) HB8.out.size (by rw [← HTk.out.1, ← HTd.out.1]; omega) ?_
              intro v9 w9 hO9 hG9
              have HB9 : Hid (Below w5.heap.size w5 w9) := hid0 (grown_bel HB8.out HO8.out hG9)
              obtain ⟨a9, c9, rfl, i9, _, _⟩ := OwnI.cap hO9
              rw [HJl.out]
              have HI9 := hid0 i9
              clear hO9 hG9 i9
              refine hK.out _ _ ?_ (fun hHeld9 => ?_)
              · exact HXJ.out _ HB9.out
              clear hK K
              (try simp only [Act.put]); (try simp only [List.setIfInBounds_toArray]); (try simp only [List.set_cons_succ]); (try simp only [List.set_cons_zero])
              refine wpAnyH_ready (rs := [10]) (by kernel_rfl) (by simp) (AllReadyH.cons rfl (fun K hK => ?_) AllReadyH.nil)
              try simp only [List.getElem_toArray, List.getElem_cons_zero, List.getElem_cons_succ]
              go_simp
              refine (HRJ.out _ _ _ HB9.out HI9.out).mono ?_
              rintro e w10 ⟨T2, cT2, rfl, hcT2, H10⟩
              go_wp2_with fail
              refine hK.out _ _ ?_ (fun hHeld10 => ?_)
              · exact HXJ.out _ (Below.later HB9.out H10.out.2)
              clear hK K
              (try simp only [Act.put]); (try simp only [List.setIfInBounds_toArray]); (try simp only [List.set_cons_succ]); (try simp only [List.set_cons_zero])
              refine tkV (i := 11) (d := some 94) (v := ?_) rfl (by kernel_rfl) (by kernel_rfl) (by kernel_rfl) rfl (fun _ _ _ h => h) (by rfl) ?_ (by assumption) ?_
              rotate_left
              · (intro w hSw; (try dsimp only at hSw); (try simp only [List.getElem_toArray, List.getElem_cons_zero, List.getElem_cons_succ]); go_simp; try with_reducible rfl)
              try simp only [Act.put, List.setIfInBounds_toArray, List.set_cons_zero, List.set_cons_succ]
              refine tkV (i := 12) (d := some 106) (v := ?_) rfl (by kernel_rfl) (by kernel_rfl) (by kernel_rfl) rfl (fun _ _ _ h => h) (by rfl) ?_ (by assumption) ?_
              rotate_left
              · (intro w hSw; (try dsimp only at hSw); (try simp only [List.getElem_toArray, List.getElem_cons_zero, List.getElem_cons_succ]); go_simp; try with_reducible rfl)
              try simp only [Act.put, List.setIfInBounds_toArray, List.set_cons_zero, List.set_cons_succ]
              refine tkV (i := 13) (d := some 107) (v := ?_) rfl (by kernel_rfl) (by kernel_rfl) (by kernel_rfl) rfl (fun _ _ _ h => h) (by rfl) ?_ (by assumption) ?_
              rotate_left
              · (intro w hSw; (try dsimp only at hSw); (try simp only [List.getElem_toArray, List.getElem_cons_zero, List.getElem_cons_succ]); go_simp; try with_reducible rfl)
              try simp only [Act.put, List.setIfInBounds_toArray, List.set_cons_zero, List.set_cons_succ]
              refine tkV (i := 14) (d := some 12) (v := ?_) rfl (by kernel_rfl) (by kernel_rfl) (by kernel_rfl) rfl (fun _ _ _ h => h) (by rfl) ?_ (by assumption) ?_
              rotate_left
              · (intro w hSw; (try dsimp only at hSw); (try simp only [List.getElem_toArray, List.getElem_cons_zero, List.getElem_cons_succ]); go_simp; try with_reducible rfl)
              try simp only [Act.put, List.setIfInBounds_toArray, List.set_cons_zero, List.set_cons_succ]
              refine tkV (i := 15) (d := some 13) (v := ?_) rfl (by kernel_rfl) (by kernel_rfl) (by kernel_rfl) rfl (fun _ _ _ h => h) (by rfl) ?_ (by assumption) ?_
              rotate_left
              · (intro w hSw; (try dsimp only at hSw); (try simp only [List.getElem_toArray, List.getElem_cons_zero, List.getElem_cons_succ]); go_simp; try with_reducible rfl)
              try simp only [Act.put, List.setIfInBounds_toArray, List.set_cons_zero, List.set_cons_succ]
              refine wpAnyH_done (by kernel_rfl) ?_ _
              refine NoPanic.normal ?_
              go_wp2_with fail
              have HB10 : Hid (Below w5.heap.size w5 w10) := hid0 (Below.later HB9.out H10.out.2)
              have hjc : (jl : Int) + 1 ≤ (cT2 : Int) := by omega
              have HS1 : Hid (∀ m, IA (w10.drewN m) (if cT2 = k then some ⟨T2, 0, none⟩ else some ⟨T2, k, none⟩) (L.drop i) ∧ IA (w10.drewN m) (if cR = i then some ⟨R, 0, none⟩ else some ⟨R, i, none⟩) (L.drop i)) := hid0 (fun m => by
                have b10 := below_drew' (Below.refl w10.heap.size w10) m
                have q1 := (H10.out.1.past b10).tail (c := cT2) (i := k) (by rw [HLJ.out]; omega) (by rw [HLJ.out]; omega)
                have q2 := (HX5.out _ (below_drew' HB10.out m)).2.2.2.2.tail (c := cR) (i := i) (by rw [HL.out.2.1]; omega) (by rw [HL.out.2.1]; omega)
                have e1 : (L.take k ++ L.drop i).drop k = L.drop i := by
                  rw [List.drop_append, List.length_take, Nat.min_eq_left (by rw [HL.out.2.1]; omega), Nat.sub_self, List.drop_zero, List.drop_eq_nil_of_le (by rw [List.length_take]; omega), List.nil_append]
                rw [e1] at q1
                rw [Option.map_some, Addr.add_lit, Nat.zero_add] at q1 q2
                exact ⟨q1, q2⟩)
              go_quiet ((go_at_call 14; go_loud (exact (HSame.out _ (L.drop i) _ _ _ _ _ _ HLd.out.1 HLd.out.2 (by omega) (HS1.out _).1 (HS1.out _).2).mono (fun _ _ h => ⟨h.1, by obtain ⟨m, hm⟩ := h.2; exact ⟨_, hm.trans (World.drewN_drewN _ _ _)⟩⟩))))
              go_wp2
              go_roundw
              case rel => exact ⟨k + 1, by omega, by go_num, hid0 (below_drew' HB10.out _)⟩
              case measure => simp [intOf]; omega
            · have hqsI : ¬ (s : Int) = (q : Int) := by omega
              go_wp2
              go_quiet (fail)
              go_wp2
              go_roundw
              case rel => exact ⟨k + 1, by omega, by go_num, hid0 (below_drew' HB2.out _)⟩
              case measure => simp [intOf]; omega
          · have hkI : ¬ (k : Int) < (i : Int) := by omega
            go_wp2
            go_roundw
            case rel => exact ⟨i + 1, by omega, by go_num, HB2⟩
            case measure => simp [intOf]; omega
      · have hiI : ¬ (i : Int) < ((n : Int) + 1) := by omega
        go_wp2
        go_ret
        exact ⟨rfl, Below.later HF5.out HB.out⟩
end Go.Proofs.YtleeedjpccooaaaDoor
