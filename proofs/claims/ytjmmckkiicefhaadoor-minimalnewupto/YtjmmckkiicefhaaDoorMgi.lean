/-
  MlFW, MlGW, MiQXW, MiRM, MlRM, MlRW, MlHW, MlWW, MlXM, MlXW.
-/
import Derived.Test.YtjmmckkiicefhaaDoorMgh
import Derived.Test.YtjmmckkiicefhaaDoorMgg
namespace Go.Proofs.YtjmmckkiicefhaaDoor
open Go.RowKit Go.Shelf
set_option maxRecDepth 10000 in
set_option maxHeartbeats 1600000 in
theorem refOf_no (st sy : Int) (N O : List (List Int)) (aN aO : Option Addr) (cN cO : Nat) (w : World) (hmay : mayF st N O sy = false) (hs : SmlO N O) (rN : RwA w aN N) (rO : RwA w aO O) :
    Calls Tryd.prog 6 #[.agg #[.int .i64 st, .slice aN N.length cN, .slice aO O.length cO], .int .i64 sy] w fun e w' => e = .returned (.tuple #[.agg #[.int .i64 0, .slice none 0 0, .slice none 0 0], .int .i64 1]) ∧ Below w.heap.size w w' := by
  obtain ⟨w0, hw0⟩ : ∃ w0, w0 = w.alloc (.cells #[.int .i64 st, .slice aN N.length cN, .slice aO O.length cO] 24) := ⟨_, rfl⟩
  obtain ⟨w1, hw1⟩ : ∃ w1, w1 = w0.alloc (.cells #[.int .i64 0, .slice none 0 0, .slice none 0 0] 24) := ⟨_, rfl⟩
  have hB0 : Below w.heap.size w w0 := by rw [hw0]; exact below_alloc _ _
  have hB1 : Below w0.heap.size w0 w1 := by rw [hw1]; exact below_alloc _ _
  have hX0 : MBox w1 w.heap.size st (.slice aN N.length cN) (.slice aO O.length cO) := by
    have h : MBox w0 w.heap.size st (.slice aN N.length cN) (.slice aO O.length cO) := by rw [hw0]; exact MBox.new _ _ _ _
    exact h.past hB1
  have hR1 : w1.heap[w0.heap.size]? = some (.cells #[.int .i64 0, .slice none 0 0, .slice none 0 0] 24 (0, 0)) := by rw [hw1]; exact heap_alloc_new _ _
  have hB01 := Below.later hB0 hB1
  obtain ⟨big1, big2, big3⟩ := hs.big
  have HMb : Hid (Calls Tryd.prog 14 #[.agg #[.int .i64 st, .slice aN N.length cN, .slice aO O.length cO], .int .i64 sy] w1 fun e w' => e = .returned (.bool false) ∧ Below w1.heap.size w1 w') := hid0 (by
    have h := refMayBe_any st sy N O aN aO cN cO w1 big1 big2 big3 (rN.past hB01) (rO.past hB01)
    rw [hmay] at h
    exact h)
  have HEnd : Hid (∀ w2 : World, Below w1.heap.size w1 w2 → ∃ v1 v2 v3, LaidZ w2 v1 v2 v3 w0.heap.size (.int .i64 0) (.slice none 0 0) (.slice none 0 0) ∧ Below w.heap.size w v3) := hid0 (fun w2 h2 => by
    obtain ⟨v1, v2, v3, hl⟩ := laidZ (.int .i64 0) (.slice none 0 0) (.slice none 0 0) ((h2.block _ (Array.getElem?_eq_some_iff.1 hR1).1).trans hR1)
    have h3 := Below.later hB01 h2
    exact ⟨v1, v2, v3, hl, h3.trans (hl.only.below h3.size (fun k hk => by rw [hk]; exact hB0.size))⟩)
  obtain ⟨x0, x1, x2⟩ := hX0.c
  have q0 := hw0.symm
  have q1 := hw1.symm
  clear hw0 hw1 hB0 hB1 hX0 hR1 hB01 rN rO hs hmay big1 big2 big3
  go_enter Tryd.func6, Tryd.ntmps6
  go_wp2_with (go_at_call 14; go_loud ((refine HMb.out.mono ?_; rintro e w2 ⟨rfl, hb2⟩; obtain ⟨v1, v2, v3, hl, hbl⟩ := HEnd.out w2 hb2; have HBL := hid0 hbl; have HRow := hid0 hl.r; have g1 := hl.g1; have g2 := hl.g2; have g3 := hl.g3; obtain ⟨z0, z1, z2⟩ := hl.z; have a1 := hl.a1; have a2 := hl.a2; have f0 := hl.f0; have f1 := hl.f1; have f2 := hl.f2; clear hl hbl hb2)))
  obtain ⟨b0, b1, b2, _⟩ := box_c HRow.out
  (try simp only [Exit.inBlock, Exit.then])
  refine bodyPost_ret (by simp [results, Tryd.results6, go_sem, b0, b1, b2]; try rfl) rfl ?_
  exact ⟨rfl, HBL.out⟩
set_option maxRecDepth 10000 in
set_option maxHeartbeats 1600000 in
theorem sameRowsG (L M : List (List Int)) (a b : Option Addr) (ca cb : Nat) (w : World) (hl : L.length ≤ 1000000000) (hr : ∀ r ∈ L, r.length ≤ 1000000000) (ha : RwA w a L) (hb : RwA w b M) :
    Calls Tryd.prog 21 #[.slice a L.length ca, .slice b M.length cb] w fun e w' => e = .returned (.bool (decide (L = M))) ∧ ∃ n, w' = w.drewN n := by
  have HA := hid0 ha
  have HB := hid0 hb
  have HR := hid0 hr
  clear ha hb hr
  by_cases hlen : L.length = M.length
  · have hlI : (L.length : Int) = (M.length : Int) := by omega
    have HL := hid0 hlen
    clear hlen
    go_enter Tryd.func21, Tryd.ntmps21
    go_wp2
    go_loopw [5] (fun i wr => ∃ k : Nat, k ≤ L.length ∧ i = .int .i64 (k : Int) ∧ (∃ n, wr = w.drewN n) ∧ Hid (∀ j, j < k → L[j]? = M[j]?)) (fun i _ => L.length - (intOf i).toNat)
    case atStart => exact ⟨0, Nat.zero_le _, rfl, ⟨0, rfl⟩, hid0 (fun j h => absurd h (Nat.not_lt_zero _))⟩
    case round =>
      obtain ⟨k, hk, rfl, ⟨nd, rfl⟩, HE⟩ := hrel
      by_cases hlt : k < L.length
      · have hltM : k < M.length := by have := HL.out; omega
        obtain ⟨b1, o1, rfl, _, a1, c1, d1, i1⟩ := HA.out.at' k hlt
        obtain ⟨b2, o2, rfl, _, a2, c2, d2, i2⟩ := HB.out.at' k hltM
        have hkI : (k : Int) < (L.length : Int) := by omega
        have hkM : (k : Int) < (M.length : Int) := by omega
        have hkI0 : (0 : Int) ≤ (k : Int) := by omega
        have HG1 : Hid (L[k]? = some L[k]) := hid0 (List.getElem?_eq_getElem hlt)
        have HG2 : Hid (M[k]? = some M[k]) := hid0 (List.getElem?_eq_getElem hltM)
        have HS := hid0 (fun n => sameInts_any L[k] M[k] a1 a2 c1 c2 (w.drewN n) (by have := HR.out _ (List.getElem_mem hlt); omega) (i1.drewN n) (i2.drewN n))
        clear i1 i2
        generalize L[k] = s at *
        generalize M[k] = u at *
        by_cases hsu : s = u
        · have HE2 : Hid (∀ j, j < k + 1 → L[j]? = M[j]?) := hid0 (fun j hj => by
            by_cases e : j = k
            · subst e; rw [HG1.out, HG2.out, hsu]
            · exact HE.out j (by omega))
          rw [decide_eq_true hsu] at HS
          clear HE HG1 HG2 hsu
          go_wp2
          go_quiet ((go_at_call 40; exact (HS.out _).mono (fun _ _ h => ⟨h.1, drew_more h.2⟩)))
          go_wp2
          go_roundw
          case rel => exact ⟨k + 1, by omega, by go_num, ⟨_, rfl⟩, HE2⟩
          case measure => simp [intOf]; omega
        · have HV : Hid (decide (L = M) = false) := hid0 (decide_eq_false (fun e => by
            subst e
            rw [HG1.out] at HG2
            exact hsu (by have := HG2.out; cases this; rfl)))
          rw [decide_eq_false hsu] at HS
          clear HE HG1 HG2 hsu
          go_wp2
          go_quiet ((go_at_call 40; exact (HS.out _).mono (fun _ _ h => ⟨h.1, drew_more h.2⟩)))
          go_wp2
          go_ret
          exact ⟨by rw [HV.out]; rfl, _, rfl⟩
      · have hkI : ¬ (k : Int) < (L.length : Int) := by omega
        have HV : Hid (decide (L = M) = true) := hid0 (decide_eq_true (eq_uptoL HL.out (fun j hj => HE.out j (by omega))))
        clear HE
        go_wp2
        go_ret
        exact ⟨by rw [HV.out]; rfl, nd, rfl⟩
  · have hlI : ¬ (L.length : Int) = (M.length : Int) := by omega
    have HV : Hid (decide (L = M) = false) := hid0 (decide_eq_false (fun e => hlen (by rw [e])))
    clear hlen
    go_enter Tryd.func21, Tryd.ntmps21
    go_wp2
    go_ret
    exact ⟨by rw [HV.out]; rfl, 0, rfl⟩
end Go.Proofs.YtjmmckkiicefhaaDoor
namespace Go.Proofs.YtjmmckkiicefhaaDoor
open Go.RowKit Go.Shelf
/-- The least machine, or none where the machine may be none. -/
def LeaP (st sy : Int) (N O N2 O2 : List (List Int)) : Prop := (∃ m s0 : Nat, sy = (m : Int) ∧ st = (s0 : Int) ∧ mayF (s0 : Int) N O (m : Int) = true ∧ Lst m (s0 : Int) N O N2 O2) ∨ (mayF st N O sy = false ∧ N2 = [] ∧ O2 = [])
end Go.Proofs.YtjmmckkiicefhaaDoor
namespace Go.Proofs.YtjmmckkiicefhaaDoor
open Go.RowKit Go.Shelf
set_option maxRecDepth 10000 in
set_option maxHeartbeats 1600000 in
theorem kept_any (st : Int) (N O : List (List Int)) (b1 b2 G H c d cN cO : Nat) (aN aO : Option Addr) (w : World) (hs : Sml N O) (hol : O.length ≤ 2200000) (h1 : Tz w b1 G c N) (h2 : Tz w b2 H d O) (ha : MaA w aN aO N O) :
    Calls Tryd.prog 11 #[.agg #[.int .i64 st, .slice (some ⟨G, 0, none⟩) N.length c, .slice (some ⟨H, 0, none⟩) O.length d], .agg #[.int .i64 st, .slice aN N.length cN, .slice aO O.length cO]] w fun e w' => e = .returned (.bool true) ∧ Below w.heap.size w w' := by
  obtain ⟨w0, hw0, hB0, hsz0, hA0, hM0⟩ := two_boxes w #[.int .i64 st, .slice (some ⟨G, 0, none⟩) N.length c, .slice (some ⟨H, 0, none⟩) O.length d] #[.int .i64 st, .slice aN N.length cN, .slice aO O.length cO] 24
  obtain ⟨x0, x1, x2⟩ := row3c hA0
  obtain ⟨y0, y1, y2⟩ := row3c hM0
  have HS1 := hid0 (still_any N b1 G c cN aN w0 hs.n hs.nr (h1.later hB0) (ha.past hB0).n)
  have HS2 : Hid (∀ n, Calls Tryd.prog 22 #[.slice (some ⟨H, 0, none⟩) O.length d, .slice aO O.length cO] (w0.drewN n) fun e w' => e = .returned (.bool true) ∧ ∃ m, w' = (w0.drewN n).drewN m) := hid0 (fun n => still_any O b2 H d cO aO (w0.drewN n) hol hs.or ((h2.later hB0).later (below_drew' (Below.refl _ _) n)) (((ha.past hB0).past (below_drew' (Below.refl _ _) n)).o))
  have HB0 := hid0 hB0
  have hself : (st == st) = true := by simp
  clear hB0 hA0 hM0 h1 h2 ha hsz0
  go_enter Tryd.func11, Tryd.ntmps11
  go_wp2_with (first
    | (go_at_call 22; have hq := HQ.out; refine (HS2.out n1).mono ?_; rintro e w2 ⟨rfl, n2, hw2⟩; rw [World.drewN_drewN] at hw2; subst hw2; clear hq)
    | (go_at_call 22; refine HS1.out.mono ?_; rintro e w1 ⟨rfl, n1, hw1⟩; subst hw1; have HQ : Hid True := hid0 trivial; clear HS1))
  go_ret
  exact ⟨rfl, below_drew' HB0.out _⟩
def set3 (W : World) (X : Nat) (a b c : Value) : World := ((W.setCell ⟨X, 0, none⟩ a).setCell ⟨X, 1, none⟩ b).setCell ⟨X, 2, none⟩ c
theorem set3_row {W : World} {X : Nat} {t : TypeId} {a0 b0 c0 : Value} (h : W.heap[X]? = some (.cells #[a0, b0, c0] t (0, 0))) (a b c : Value) : (set3 W X a b c).heap[X]? = some (.cells #[a, b, c] t (0, 0)) := by
  unfold set3
  exact heap_setCell_same _ _ 2 _ _ c (heap_setCell_same _ _ 1 _ _ b (heap_setCell_same _ _ 0 _ _ a h))
theorem set3_other {W : World} {X k : Nat} (hk : k ≠ X) (a b c : Value) : (set3 W X a b c).heap[k]? = W.heap[k]? := by
  unfold set3
  rw [Below.heap_setCell _ _ _ k hk, Below.heap_setCell _ _ _ k hk, Below.heap_setCell _ _ _ k hk]
theorem Tz.keep {w w' : World} {base G c : Nat} {L : List (List Int)} (h : Tz w base G c L) (hb : ∀ k, base ≤ k → k < w.heap.size → w'.heap[k]? = w.heap[k]?) : Tz w' base G c L := by
  obtain ⟨qs, h1, h2⟩ := h.at'
  refine ⟨qs, ⟨own_blk h1.outer (fun k hk => hb k (World.ownsRow.lt h1.outer k hk).1 (World.ownsRow.lt h1.outer k hk).2), fun x hx => ?_⟩, h2⟩
  obtain ⟨g, cg, e, hl, ho⟩ := h1.row x hx
  exact ⟨g, cg, e, hl, own_blk ho (fun k hk => hb k (World.ownsRow.lt ho k hk).1 (World.ownsRow.lt ho k hk).2)⟩
theorem Tz.lower {w : World} {base lo G c : Nat} {L : List (List Int)} (h : Tz w base G c L) (hl : lo ≤ base) : Tz w lo G c L := by
  obtain ⟨qs, h1, h2⟩ := h.at'
  exact ⟨qs, ⟨owns_lower h1.outer hl, fun x hx => by obtain ⟨g, cg, e, hl', ho⟩ := h1.row x hx; exact ⟨g, cg, e, hl', owns_lower ho hl⟩⟩, h2⟩
set_option maxRecDepth 10000 in
set_option maxHeartbeats 1600000 in
theorem twin_any (st : Int) (N O : List (List Int)) (aN aO : Option Addr) (cN cO : Nat) (w : World) (hs : Sml N O) (hol : O.length ≤ 2200000) (hN : RwN w aN N) (hO : RwN w aO O) :
    Calls Tryd.prog 5 #[.agg #[.int .i64 st, .slice aN N.length cN, .slice aO O.length cO]] w fun e w' => ∃ G c H d, e = .returned (.agg #[.int .i64 st, .slice (some ⟨G, 0, none⟩) N.length c, .slice (some ⟨H, 0, none⟩) O.length d]) ∧ Tz w' w.heap.size G c N ∧ Tz w' w.heap.size H d O ∧ Below w.heap.size w w' := by
  obtain ⟨w0, hw0, hB0, hsz0, hA0, hM0⟩ := two_boxes w #[.int .i64 st, .slice aN N.length cN, .slice aO O.length cO] #[.int .i64 0, .slice none 0 0, .slice none 0 0] 24
  have HCl : Hid (∀ V : World, Below w0.drew.heap.size w0.drew V → V.cell? ⟨w.heap.size, 0, none⟩ = some (.int .i64 st) ∧ V.cell? ⟨w.heap.size, 1, none⟩ = some (.slice aN N.length cN) ∧ V.cell? ⟨w.heap.size, 2, none⟩ = some (.slice aO O.length cO)) := hid0 (fun V hV => row3c ((hV.block _ (by show w.heap.size < w0.heap.size; omega)).trans hA0))
  have HYr : Hid (∀ V : World, Below w0.drew.heap.size w0.drew V → V.heap[w.heap.size + 1]? = some (.cells #[.int .i64 0, .slice none 0 0, .slice none 0 0] 24 (0, 0))) := hid0 (fun V hV => (hV.block _ (by show w.heap.size + 1 < w0.heap.size; omega)).trans hM0)
  have HY : Hid (∀ V : World, Below w0.drew.heap.size w0.drew V → (V.cell? ⟨w.heap.size + 1, 0, none⟩ = some (.int .i64 0) ∧ V.cell? ⟨w.heap.size + 1, 1, none⟩ = some (.slice none 0 0) ∧ V.cell? ⟨w.heap.size + 1, 2, none⟩ = some (.slice none 0 0)) ∧ V.frozen? ⟨w.heap.size + 1, 0, none⟩ = false ∧ V.frozen? ⟨w.heap.size + 1, 1, none⟩ = false ∧ V.frozen? ⟨w.heap.size + 1, 2, none⟩ = false) := hid0 (fun V hV => by
    have h := HYr.out V hV
    exact ⟨row3c h, by simp [World.frozen?, h], by simp [World.frozen?, h], by simp [World.frozen?, h]⟩)
  have HCs : Hid (∀ V : World, Below w0.drew.heap.size w0.drew V → ∀ a b c, (set3 V (w.heap.size + 1) a b c).cell? ⟨w.heap.size, 0, none⟩ = some (.int .i64 st) ∧ (set3 V (w.heap.size + 1) a b c).cell? ⟨w.heap.size, 1, none⟩ = some (.slice aN N.length cN) ∧ (set3 V (w.heap.size + 1) a b c).cell? ⟨w.heap.size, 2, none⟩ = some (.slice aO O.length cO)) := hid0 (fun V hV a b c => row3c ((set3_other (by omega) a b c).trans ((hV.block _ (by show w.heap.size < w0.heap.size; omega)).trans hA0)))
  have hb0d : Below w.heap.size w w0.drew := ⟨hB0.os, hB0.tape, hB0.output, hB0.size, hB0.block⟩
  have HR1 := hid0 (rows_any N aN cN w0.drew hs.n hs.nr (hN.past hb0d))
  have HR2 : Hid (∀ V : World, Below w0.drew.heap.size w0.drew V → Calls Tryd.prog 13 #[.slice aO O.length cO] V fun r w' => ∃ G c, r = .returned (.slice (some ⟨G, 0, none⟩) O.length c) ∧ Tz w' V.heap.size G c O ∧ Below V.heap.size V w') := hid0 (fun V hV => rows_any O aO cO V hol hs.or ((hO.past hb0d).past hV))
  have HB0 := hid0 hb0d
  have HZ0 := hid0 hsz0
  clear hB0 hsz0 hA0 hM0 hN hO hb0d
  go_enter Tryd.func5, Tryd.ntmps5
  go_wp2
  refine wp_region_noPanic ?_
  refine wp_region_held_drew (S := (fun V => V.cell? ⟨w.heap.size, 0, none⟩ = some (.int .i64 st) ∧ V.cell? ⟨w.heap.size, 1, none⟩ = some (.slice aN N.length cN) ∧ V.cell? ⟨w.heap.size, 2, none⟩ = some (.slice aO O.length cO))) (by kernel_rfl) ?_ (fun hHeld => ?_)
  · exact HCl.out w0.drew (Below.refl _ _)
  refine tkV (i := 0) (d := some 3) (v := ?_) rfl (by kernel_rfl) (by kernel_rfl) (by kernel_rfl) rfl (fun _ _ _ h => h) (by rfl) ?_ (by assumption) ?_
  rotate_left
  · (intro w hSw; (try dsimp only at hSw); (try simp only [List.getElem_toArray, List.getElem_cons_zero]); go_simp; try with_reducible rfl)
  try simp only [Act.put, List.setIfInBounds_toArray, List.set_cons_zero, List.set_cons_succ]
  refine tkV (i := 1) (d := some 4) (v := ?_) rfl (by kernel_rfl) (by kernel_rfl) (by kernel_rfl) rfl (fun _ _ _ h => h) (by rfl) ?_ (by assumption) ?_
  rotate_left
  · (intro w hSw; (try dsimp only at hSw); (try simp only [List.getElem_toArray, List.getElem_cons_zero, List.getElem_cons_succ]); go_simp; try with_reducible rfl)
  try simp only [Act.put, List.setIfInBounds_toArray, List.set_cons_zero, List.set_cons_succ]
  refine tkV (i := 2) (d := some 5) (v := ?_) rfl (by kernel_rfl) (by kernel_rfl) (by kernel_rfl) rfl (fun _ _ _ h => h) (by rfl) ?_ (by assumption) ?_
  rotate_left
  · (intro w hSw; (try dsimp only at hSw); (try simp only [List.getElem_toArray, List.getElem_cons_zero, List.getElem_cons_succ]); go_simp; try with_reducible rfl)
  try simp only [Act.put, List.setIfInBounds_toArray, List.set_cons_zero, List.set_cons_succ]
  refine tkV (i := 3) (d := some 6) (v := ?_) rfl (by kernel_rfl) (by kernel_rfl) (by kernel_rfl) rfl (fun _ _ _ h => h) (by rfl) ?_ (by assumption) ?_
  rotate_left
  · (intro w hSw; (try dsimp only at hSw); (try simp only [List.getElem_toArray, List.getElem_cons_zero, List.getElem_cons_succ]); go_simp; try with_reducible rfl)
  try simp only [Act.put, List.setIfInBounds_toArray, List.set_cons_zero, List.set_cons_succ]
  refine tkV (i := 5) (d := some 8) (v := ?_) rfl (by kernel_rfl) (by kernel_rfl) (by kernel_rfl) rfl (fun _ _ _ h => h) (by rfl) ?_ (by assumption) ?_
  rotate_left
  · (intro w hSw; (try dsimp only at hSw); (try simp only [List.getElem_toArray, List.getElem_cons_zero, List.getElem_cons_succ]); go_simp; try with_reducible rfl)
  try simp only [Act.put, List.setIfInBounds_toArray, List.set_cons_zero, List.set_cons_succ]
  refine tkV (i := 6) (d := some 9) (v := ?_) rfl (by kernel_rfl) (by kernel_rfl) (by kernel_rfl) rfl (fun _ _ _ h => h) (by rfl) ?_ (by assumption) ?_
  rotate_left
  · (intro w hSw; (try dsimp only at hSw); (try simp only [List.getElem_toArray, List.getElem_cons_zero, List.getElem_cons_succ]); go_simp; try with_reducible rfl)
  try simp only [Act.put, List.setIfInBounds_toArray, List.set_cons_zero, List.set_cons_succ]
  refine wpAnyH_ready (rs := [4]) (by kernel_rfl) (by simp) (AllReadyH.cons rfl (fun K hK => ?_) AllReadyH.nil)
  try simp only [List.getElem_toArray, List.getElem_cons_zero, List.getElem_cons_succ]
  go_simp
  refine HR1.out.mono ?_
  rintro e w1 ⟨G, c, rfl, ht1, hb1⟩
  have HT1 := hid0 ht1
  have HB1 := hid0 hb1
  have HS1 := hid0 (HCl.out w1 hb1)
  clear ht1 hb1
  go_wp2_with fail
  refine hK.out _ _ ?_ (fun hHeld4 => ?_)
  · exact HS1.out
  clear hK K
  (try simp only [Act.put]); (try simp only [List.setIfInBounds_toArray]); (try simp only [List.set_cons_succ]); (try simp only [List.set_cons_zero])
  refine wpAnyH_ready (rs := [7]) (by kernel_rfl) (by simp) (AllReadyH.cons rfl (fun K hK => ?_) AllReadyH.nil)
  try simp only [List.getElem_toArray, List.getElem_cons_zero, List.getElem_cons_succ]
  go_simp
  refine (HR2.out w1 HB1.out).mono ?_
  rintro e w2 ⟨H, d, rfl, ht2, hb2⟩
  have HT2 := hid0 ht2
  have HB2 := hid0 hb2
  have HS2 := hid0 (HCl.out w2 (HB1.out.trans (hb2.mono HB1.out.size)))
  obtain ⟨⟨k0, k1, k2⟩, f0, f1, f2⟩ := HY.out w2 (HB1.out.trans (hb2.mono HB1.out.size))
  have HS3 := hid0 (HCs.out w2 (HB1.out.trans (hb2.mono HB1.out.size)) (.int .i64 st) (.slice (some ⟨G, 0, none⟩) N.length c) (.slice (some ⟨H, 0, none⟩) O.length d))
  clear ht2 hb2
  go_wp2_with fail
  refine hK.out _ _ ?_ (fun hHeld7 => ?_)
  · exact HS2.out
  clear hK K
  (try simp only [Act.put]); (try simp only [List.setIfInBounds_toArray]); (try simp only [List.set_cons_succ]); (try simp only [List.set_cons_zero])
  refine tkV (i := 8) (d := some 11) (v := ?_) rfl (by kernel_rfl) (by kernel_rfl) (by kernel_rfl) rfl (fun _ _ _ h => h) (by rfl) ?_ (by assumption) ?_
  rotate_left
  · (intro w hSw; (try dsimp only at hSw); (try simp only [List.getElem_toArray, List.getElem_cons_zero, List.getElem_cons_succ]); go_simp; try with_reducible rfl)
  try simp only [Act.put, List.setIfInBounds_toArray, List.set_cons_zero, List.set_cons_succ]
  refine wpAnyH_ready (rs := [9]) (by kernel_rfl) (by simp) (AllReadyH.cons rfl (fun K hK => ?_) AllReadyH.nil)
  try simp only [List.getElem_toArray, List.getElem_cons_zero, List.getElem_cons_succ]
  go_simp
  refine hK.out _ _ ?_ (fun hHeld9 => ?_)
  · exact HS3.out
  clear hK K
  (try simp only [Act.put]); (try simp only [List.setIfInBounds_toArray]); (try simp only [List.set_cons_succ]); (try simp only [List.set_cons_zero])
  refine wpAnyH_done (by kernel_rfl) ?_ _
  refine NoPanic.normal ?_
  go_wp2
  have hz := HZ0.out
  have hzz : w0.drew.heap.size = w.heap.size + 1 + 1 := hz
  have hb2 := HB1.out.trans (HB2.out.mono HB1.out.size)
  have hrow := set3_row (HYr.out w2 hb2) (.int .i64 st) (.slice (some ⟨G, 0, none⟩) N.length c) (.slice (some ⟨H, 0, none⟩) O.length d)
  obtain ⟨q0, q1, q2⟩ := row3c hrow
  unfold set3 at q0 q1 q2
  refine bodyPost_ret (v := .agg #[.int .i64 st, .slice (some ⟨G, 0, none⟩) N.length c, .slice (some ⟨H, 0, none⟩) O.length d]) (by simp [results, Tryd.results5, go_sem, q0, q1, q2]) rfl ?_
  have hs1 := HB1.out.size
  have hs2 := HB2.out.size
  refine ⟨G, c, H, d, rfl, ?_, ?_, ?_⟩
  · refine ((HT1.out.later HB2.out).keep (w' := set3 w2 (w.heap.size + 1) (.int .i64 st) (.slice (some ⟨G, 0, none⟩) N.length c) (.slice (some ⟨H, 0, none⟩) O.length d)) (fun k hk _ => set3_other (by omega) _ _ _)).lower (by omega)
  · refine (HT2.out.keep (w' := set3 w2 (w.heap.size + 1) (.int .i64 st) (.slice (some ⟨G, 0, none⟩) N.length c) (.slice (some ⟨H, 0, none⟩) O.length d)) (fun k hk _ => set3_other (by omega) _ _ _)).lower (by omega)
  · exact (((HB0.out.trans (hb2.mono (by omega))).setCell (p := ⟨w.heap.size + 1, 0, none⟩) (by simp) _).setCell (p := ⟨w.heap.size + 1, 1, none⟩) (by simp) _).setCell (p := ⟨w.heap.size + 1, 2, none⟩) (by simp) _
end Go.Proofs.YtjmmckkiicefhaaDoor
namespace Go.Proofs.YtjmmckkiicefhaaDoor
open Go.RowKit Go.Shelf
/-- Nothing but blocks of a kind, and new ones, is another. -/
structure Kpd (w w' : World) (D : Nat → Prop) : Prop where
  os : w'.os = w.os
  tape : w'.tape = w.tape
  output : w'.output = w.output
  size : w.heap.size ≤ w'.heap.size
  oth : ∀ k, k < w.heap.size → ¬ D k → w'.heap[k]? = w.heap[k]?
theorem Kpd.refl (w : World) (D : Nat → Prop) : Kpd w w D := ⟨rfl, rfl, rfl, Nat.le_refl _, fun _ _ _ => rfl⟩
theorem Kpd.trans {a b c : World} {D : Nat → Prop} (h : Kpd a b D) (k : Kpd b c D) : Kpd a c D := ⟨k.os.trans h.os, k.tape.trans h.tape, k.output.trans h.output, Nat.le_trans h.size k.size, fun i hi hd => (k.oth i (Nat.lt_of_lt_of_le hi h.size) hd).trans (h.oth i hi hd)⟩
theorem Kpd.of {w w' : World} (h : Below w.heap.size w w') (D : Nat → Prop) : Kpd w w' D := ⟨h.os, h.tape, h.output, h.size, fun k hk _ => h.block k hk⟩
theorem Kpd.drew (w : World) (D : Nat → Prop) : Kpd w w.drew D := ⟨rfl, rfl, rfl, Nat.le_refl _, fun _ _ _ => rfl⟩
theorem Kpd.set (w : World) {D : Nat → Prop} {b : Nat} (hb : D b) (o : Nat) (v : Value) : Kpd w (w.setCell ⟨b, o, none⟩ v) D := ⟨rfl, rfl, rfl, by simp [World.setCell], fun k _ hk => Below.heap_setCell w _ _ k (fun e => hk (by subst e; exact hb))⟩
theorem Kpd.cell {w w' : World} {D : Nat → Prop} (h : Kpd w w' D) {b o : Nat} {u : Value} (hb : ¬ D b) (hc : w.cell? ⟨b, o, none⟩ = some u) : w'.cell? ⟨b, o, none⟩ = some u := (World.cell?_of_block (w := w) (h.oth b (World.block_lt_of_cell? _ _ hc) hb)).trans hc
/-- Such lists: D says in which blocks their numbers lie. -/
structure RwX (w : World) (a : Option Addr) (ns : List Nat) (D : Nat → Prop) : Prop where
  at' : ∀ k (h : k < ns.length), ∃ b off, a = some ⟨b, off, none⟩ ∧ b < w.heap.size ∧ ∃ a1 c1, w.cell? ⟨b, off + k, none⟩ = some (.slice a1 ns[k] c1) ∧ ∀ j, j < ns[k] → ∃ b' o', a1 = some ⟨b', o', none⟩ ∧ D b' ∧ b' < w.heap.size ∧ (∃ z, w.cell? ⟨b', o' + j, none⟩ = some (.int .i64 z)) ∧ ∃ cs t, w.heap[b']? = some (.cells cs t (0, 0))
theorem RwX.later {w w' : World} {a : Option Addr} {ns : List Nat} {D : Nat → Prop} (h : RwX w a ns D) (hb : Below w.heap.size w w') : RwX w' a ns D := ⟨fun k hk => by
  obtain ⟨b, off, rfl, h1, a1, c1, h2, h3⟩ := h.at' k hk
  refine ⟨b, off, rfl, Nat.lt_of_lt_of_le h1 hb.size, a1, c1, (hb.cell (p := ⟨b, off + k, none⟩) h1).trans h2, fun j hj => ?_⟩
  obtain ⟨b', o', e, hd, h4, ⟨z, h5⟩, cs, t, h6⟩ := h3 j hj
  exact ⟨b', o', e, hd, Nat.lt_of_lt_of_le h4 hb.size, ⟨z, (hb.cell (p := ⟨b', o' + j, none⟩) h4).trans h5⟩, cs, t, (hb.block _ h4).trans h6⟩⟩
/-- A number is written over another. -/
theorem RwX.set {w : World} {a : Option Addr} {ns : List Nat} {D : Nat → Prop} (h : RwX w a ns D) {p : Nat} {q : Nat} {z0 : Int} (hp : w.cell? ⟨p, q, none⟩ = some (.int .i64 z0)) (z : Int) : RwX (w.setCell ⟨p, q, none⟩ (.int .i64 z)) a ns D := ⟨fun k hk => by
  obtain ⟨b, off, rfl, h1, a1, c1, h2, h3⟩ := h.at' k hk
  have hsz : (w.setCell ⟨p, q, none⟩ (.int .i64 z)).heap.size = w.heap.size := by simp [World.setCell]
  have hne : (⟨p, q, none⟩ : Addr) ≠ ⟨b, off + k, none⟩ := fun e => by
    rw [← e, hp] at h2
    cases h2
  refine ⟨b, off, rfl, by rw [hsz]; exact h1, a1, c1, (World.cell?_setCell_other _ _ _ _ hne).trans h2, fun j hj => ?_⟩
  obtain ⟨b', o', e, hd, h4, h5, cs, t, h6⟩ := h3 j hj
  refine ⟨b', o', e, hd, by rw [hsz]; exact h4, someInt_setCell h5 _ z, ?_⟩
  by_cases hb : b' = p
  · subst hb
    exact ⟨_, t, heap_setCell_same w b' q _ _ _ h6⟩
  · exact ⟨cs, t, (Below.heap_setCell w _ _ _ hb).trans h6⟩⟩
theorem choose2 {n : Nat} {P : Nat → Int → Prop} (h : ∀ j, j < n → ∃ z, P j z) : ∃ l : List Int, l.length = n ∧ ∀ j (hj : j < l.length), P j l[j] := by
  have h2 : ∀ j, ∃ z, j < n → P j z := fun j => by
    by_cases hj : j < n
    · obtain ⟨z, hz⟩ := h j hj; exact ⟨z, fun _ => hz⟩
    · exact ⟨0, fun q => absurd q hj⟩
  obtain ⟨f, hf⟩ := Classical.axiomOfChoice h2
  refine ⟨(List.range n).map f, by simp, fun j hj => ?_⟩
  have : j < n := by simpa using hj
  simpa using hf j this
theorem choose3 {n : Nat} {P : Nat → List Int → Prop} (h : ∀ j, j < n → ∃ z, P j z) : ∃ l : List (List Int), l.length = n ∧ ∀ j (hj : j < l.length), P j l[j] := by
  have h2 : ∀ j, ∃ z, j < n → P j z := fun j => by
    by_cases hj : j < n
    · obtain ⟨z, hz⟩ := h j hj; exact ⟨z, fun _ => hz⟩
    · exact ⟨[], fun q => absurd q hj⟩
  obtain ⟨f, hf⟩ := Classical.axiomOfChoice h2
  refine ⟨(List.range n).map f, by simp, fun j hj => ?_⟩
  have : j < n := by simpa using hj
  simpa using hf j this
/-- They read as some lists. -/
theorem RwX.read {w : World} {a : Option Addr} {ns : List Nat} {D : Nat → Prop} (h : RwX w a ns D) : ∃ L : List (List Int), L.map List.length = ns ∧ RwA w a L := by
  obtain ⟨L, hl, hL⟩ := choose3 (n := ns.length) (P := fun k r => ∃ (h : k < ns.length) (b off : Nat), r.length = ns[k] ∧ a = some ⟨b, off, none⟩ ∧ b < w.heap.size ∧ ∃ a1 c1, w.cell? ⟨b, off + k, none⟩ = some (.slice a1 ns[k] c1) ∧ IA w a1 r) (fun k hk => by
    obtain ⟨b, off, e, h1, a1, c1, h2, h3⟩ := h.at' k hk
    obtain ⟨r, hr, hP⟩ := choose2 (n := ns[k]) (P := fun j z => ∃ b' o', a1 = some ⟨b', o', none⟩ ∧ b' < w.heap.size ∧ w.cell? ⟨b', o' + j, none⟩ = some (.int .i64 z)) (fun j hj => by
      obtain ⟨b', o', e1, _, h4, ⟨z, h5⟩, _⟩ := h3 j hj
      exact ⟨z, b', o', e1, h4, h5⟩)
    exact ⟨r, hk, b, off, hr, e, h1, a1, c1, h2, ⟨fun j hj => hP j hj⟩⟩)
  refine ⟨L, ?_, ⟨fun k hk => ?_⟩⟩
  · apply List.ext_getElem
    · simpa using hl
    · intro k h1 h2
      obtain ⟨_, _, _, e, _⟩ := hL k (by simpa using h1)
      simpa using e
  · obtain ⟨hk', b, off, e1, e2, h1, a1, c1, h2, h3⟩ := hL k hk
    exact ⟨b, off, e2, h1, a1, c1, by rw [e1]; exact h2, h3⟩
theorem Tz.rwx {w : World} {base G c hi : Nat} {L : List (List Int)} (h : Tz w base G c L) (hh : w.heap.size ≤ hi) : RwX w (some ⟨G, 0, none⟩) (L.map List.length) (fun b => base ≤ b ∧ b < hi) := ⟨fun k hk => by
  have hk' : k < L.length := by simpa using hk
  obtain ⟨g, cg, h1, _, h2, _, h3, h4, h5⟩ := h.row hk'
  refine ⟨G, 0, rfl, h.cap.2.2, some ⟨g, 0, none⟩, cg, by rw [Nat.zero_add, List.getElem_map]; exact h1, fun j hj => ?_⟩
  have hj' : j < L[k].length := by simpa using hj
  obtain ⟨b', o', e, h6, h7⟩ := h2.at' j hj'
  cases e
  refine ⟨g, 0, rfl, ⟨h3, by omega⟩, h4, ⟨_, h7⟩, ?_⟩
  obtain ⟨qs, q1, q2⟩ := h.at'
  obtain ⟨x, hx, ex⟩ := q2.row hk'
  obtain ⟨g', cg', e1, hl, ho⟩ := q1.row x (List.mem_of_getElem? hx)
  have hc := q1.cell q2.len.symm hx
  rw [h1, e1] at hc
  simp only [Option.some.injEq, Value.slice.injEq, Addr.mk.injEq] at hc
  obtain ⟨⟨rfl, _⟩, _⟩ := hc
  obtain ⟨cs, h8⟩ := own_typ ho rfl
  exact ⟨cs, _, h8⟩⟩
/-- What turned leaves. -/
def TurR (w : World) (aN aO : Option Addr) (ns os : List Nat) (D : Nat → Prop) (w' : World) : Prop := RwX w' aN ns D ∧ RwX w' aO os D ∧ Kpd w w' D
end Go.Proofs.YtjmmckkiicefhaaDoor
namespace Go.Proofs.YtjmmckkiicefhaaDoor
open Go.RowKit Go.Shelf
structure RwY (w : World) (a : Option Addr) (ns : List Nat) (D : Nat → Prop) : Prop where
  at' : ∀ k (h : k < ns.length), ∃ b off, a = some ⟨b, off, none⟩ ∧ b < w.heap.size ∧ ∃ a1 c1, w.cell? ⟨b, off + k, none⟩ = some (.slice a1 ns[k] c1) ∧ (a1 = none → c1 = 0) ∧ ∀ j, j < ns[k] → ∃ b' o', a1 = some ⟨b', o', none⟩ ∧ D b' ∧ b' < w.heap.size ∧ (∃ z, w.cell? ⟨b', o' + j, none⟩ = some (.int .i64 z) ∧ z < 9223372036854775808) ∧ ∃ cs t, w.heap[b']? = some (.cells cs t (0, 0))
theorem RwY.later {w w' : World} {a : Option Addr} {ns : List Nat} {D : Nat → Prop} (h : RwY w a ns D) (hb : Below w.heap.size w w') : RwY w' a ns D := ⟨fun k hk => by
  obtain ⟨b, off, rfl, h1, a1, c1, h2, h0, h3⟩ := h.at' k hk
  refine ⟨b, off, rfl, Nat.lt_of_lt_of_le h1 hb.size, a1, c1, (hb.cell (p := ⟨b, off + k, none⟩) h1).trans h2, h0, fun j hj => ?_⟩
  obtain ⟨b', o', e, hd, h4, ⟨z, h5, hz⟩, cs, t, h6⟩ := h3 j hj
  exact ⟨b', o', e, hd, Nat.lt_of_lt_of_le h4 hb.size, ⟨z, (hb.cell (p := ⟨b', o' + j, none⟩) h4).trans h5, hz⟩, cs, t, (hb.block _ h4).trans h6⟩⟩
theorem RwY.set {w : World} {a : Option Addr} {ns : List Nat} {D : Nat → Prop} (h : RwY w a ns D) {p : Nat} {q : Nat} {z0 : Int} (hp : w.cell? ⟨p, q, none⟩ = some (.int .i64 z0)) (z : Int) (hz : z < 9223372036854775808) : RwY (w.setCell ⟨p, q, none⟩ (.int .i64 z)) a ns D := ⟨fun k hk => by
  obtain ⟨b, off, rfl, h1, a1, c1, h2, h0, h3⟩ := h.at' k hk
  have hsz : (w.setCell ⟨p, q, none⟩ (.int .i64 z)).heap.size = w.heap.size := by simp [World.setCell]
  have hne : (⟨p, q, none⟩ : Addr) ≠ ⟨b, off + k, none⟩ := fun e => by
    rw [← e, hp] at h2
    cases h2
  refine ⟨b, off, rfl, by rw [hsz]; exact h1, a1, c1, (World.cell?_setCell_other _ _ _ _ hne).trans h2, h0, fun j hj => ?_⟩
  obtain ⟨b', o', e, hd, h4, ⟨z5, h5, hz5⟩, cs, t, h6⟩ := h3 j hj
  refine ⟨b', o', e, hd, by rw [hsz]; exact h4, ?_, ?_⟩
  · by_cases e2 : (⟨p, q, none⟩ : Addr) = ⟨b', o' + j, none⟩
    · rw [← e2]
      exact ⟨z, World.cell?_setCell_same _ _ _ hp, hz⟩
    · exact ⟨z5, (World.cell?_setCell_other _ _ _ _ e2).trans h5, hz5⟩
  · by_cases hb : b' = p
    · subst hb
      exact ⟨_, t, heap_setCell_same w b' q _ _ _ h6⟩
    · exact ⟨cs, t, (Below.heap_setCell w _ _ _ hb).trans h6⟩⟩
theorem RwY.read {w : World} {a : Option Addr} {ns : List Nat} {D : Nat → Prop} (h : RwY w a ns D) : ∃ L : List (List Int), L.map List.length = ns ∧ RwN w a L ∧ ∀ r ∈ L, ∀ z ∈ r, z < 9223372036854775808 := by
  obtain ⟨L, hl, hL⟩ := choose3 (n := ns.length) (P := fun k r => ∃ (h : k < ns.length) (b off : Nat), r.length = ns[k] ∧ a = some ⟨b, off, none⟩ ∧ b < w.heap.size ∧ ∃ a1 c1, w.cell? ⟨b, off + k, none⟩ = some (.slice a1 ns[k] c1) ∧ IA w a1 r ∧ (a1 = none → c1 = 0) ∧ ∀ z ∈ r, z < 9223372036854775808) (fun k hk => by
    obtain ⟨b, off, e, h1, a1, c1, h2, h0, h3⟩ := h.at' k hk
    obtain ⟨r, hr, hP⟩ := choose2 (n := ns[k]) (P := fun j z => z < 9223372036854775808 ∧ ∃ b' o', a1 = some ⟨b', o', none⟩ ∧ b' < w.heap.size ∧ w.cell? ⟨b', o' + j, none⟩ = some (.int .i64 z)) (fun j hj => by
      obtain ⟨b', o', e1, _, h4, ⟨z, h5, hz⟩, _⟩ := h3 j hj
      exact ⟨z, hz, b', o', e1, h4, h5⟩)
    exact ⟨r, hk, b, off, hr, e, h1, a1, c1, h2, ⟨fun j hj => (hP j hj).2⟩, h0, fun z hz => by
      obtain ⟨j, hj, rfl⟩ := List.getElem_of_mem hz
      exact (hP j hj).1⟩)
  refine ⟨L, ?_, ⟨fun k hk => ?_⟩, fun r hr => ?_⟩
  · apply List.ext_getElem
    · simpa using hl
    · intro k h1 h2
      obtain ⟨_, _, _, e, _⟩ := hL k (by simpa using h1)
      simpa using e
  · obtain ⟨hk', b, off, e1, e2, h1, a1, c1, h2, h3, h4, _⟩ := hL k hk
    exact ⟨b, off, e2, h1, a1, c1, by rw [e1]; exact h2, h3, h4⟩
  · obtain ⟨k, hk, rfl⟩ := List.getElem_of_mem hr
    obtain ⟨_, _, _, _, _, _, _, _, _, _, _, h5⟩ := hL k hk
    exact h5
theorem Tz.rwy {w : World} {base G c hi : Nat} {L : List (List Int)} (h : Tz w base G c L) (hh : w.heap.size ≤ hi) (hz : ∀ r ∈ L, ∀ z ∈ r, z < 9223372036854775808) : RwY w (some ⟨G, 0, none⟩) (L.map List.length) (fun b => base ≤ b ∧ b < hi) := ⟨fun k hk => by
  have hk' : k < L.length := by simpa using hk
  obtain ⟨g, cg, h1, _, h2, _, h3, h4, h5⟩ := h.row hk'
  refine ⟨G, 0, rfl, h.cap.2.2, some ⟨g, 0, none⟩, cg, by rw [Nat.zero_add, List.getElem_map]; exact h1, (fun e => by cases e), fun j hj => ?_⟩
  have hj' : j < L[k].length := by simpa using hj
  obtain ⟨b', o', e, h6, h7⟩ := h2.at' j hj'
  cases e
  refine ⟨g, 0, rfl, ⟨h3, by omega⟩, h4, ⟨_, h7, hz _ (List.getElem_mem hk') _ (List.getElem_mem hj')⟩, ?_⟩
  obtain ⟨qs, q1, q2⟩ := h.at'
  obtain ⟨x, hx, ex⟩ := q2.row hk'
  obtain ⟨g', cg', e1, hl, ho⟩ := q1.row x (List.mem_of_getElem? hx)
  have hc := q1.cell q2.len.symm hx
  rw [h1, e1] at hc
  simp only [Option.some.injEq, Value.slice.injEq, Addr.mk.injEq] at hc
  obtain ⟨⟨rfl, _⟩, _⟩ := hc
  obtain ⟨cs, h8⟩ := own_typ ho rfl
  exact ⟨cs, _, h8⟩⟩
/-- What turned leaves. -/
def TurY (w : World) (aN aO : Option Addr) (ns os : List Nat) (D : Nat → Prop) (w' : World) : Prop := RwY w' aN ns D ∧ RwY w' aO os D ∧ Kpd w w' D
end Go.Proofs.YtjmmckkiicefhaaDoor
namespace Go.Proofs.YtjmmckkiicefhaaDoor
open Go.RowKit Go.Shelf
end Go.Proofs.YtjmmckkiicefhaaDoor
namespace Go.Proofs.YtjmmckkiicefhaaDoor
open Go.RowKit Go.Shelf
theorem kpd_below {w W W' : World} {D : Nat → Prop} {lo : Nat} (hb : Below lo w W) (hk : Kpd W W' D) (hd : ∀ k, D k → lo ≤ k) (hlo : lo ≤ w.heap.size) : Below lo w W' := ⟨hk.os.trans hb.os, hk.tape.trans hb.tape, hk.output.trans hb.output, Nat.le_trans hb.size hk.size, fun k hkl => (hk.oth k (by have := hb.size; omega) (fun h => by have := hd k h; omega)).trans (hb.block k hkl)⟩
theorem SmlO.relen {N O N5 O5 : List (List Int)} (h : SmlO N O) (hN : N5.map List.length = N.map List.length) (hO : O5.map List.length = O.map List.length) (hz : ∀ r ∈ O5, ∀ z ∈ r, z < 9223372036854775808) : SmlO N5 O5 ∧ N5.length = N.length ∧ O5.length = O.length := by
  have l1 : N5.length = N.length := by have := congrArg List.length hN; simpa using this
  have l2 : O5.length = O.length := by have := congrArg List.length hO; simpa using this
  refine ⟨⟨by rw [l1]; exact h.n, fun r hr => ?_, fun r hr => ?_, hz, fun m hm => ?_⟩, l1, l2⟩
  · have h1 : r.length ∈ N.map List.length := by rw [← hN]; exact List.mem_map_of_mem hr
    obtain ⟨x, hx, e⟩ := List.mem_map.1 h1
    rw [← e]
    exact h.nr x hx
  · have h1 : r.length ∈ O.map List.length := by rw [← hO]; exact List.mem_map_of_mem hr
    obtain ⟨x, hx, e⟩ := List.mem_map.1 h1
    rw [← e]
    exact h.or x hx
  · rw [l1]
    refine h.nm m (fun r hr => ?_)
    have h1 : r.length ∈ N5.map List.length := by rw [hN]; exact List.mem_map_of_mem hr
    obtain ⟨x, hx, e⟩ := List.mem_map.1 h1
    rw [← e]
    exact hm x hx
/-- A twin whose numbers have been turned. -/
theorem turned_twin {w4 w5 : World} {lo hi G H _c _d : Nat} {N O : List (List Int)} (hs : SmlO N O) (ht : TurY w4 (some ⟨G, 0, none⟩) (some ⟨H, 0, none⟩) (N.map List.length) (O.map List.length) (fun b => lo ≤ b ∧ b < hi) w5) : ∃ N5 O5, SmlO N5 O5 ∧ N5.length = N.length ∧ O5.length = O.length ∧ RwN w5 (some ⟨G, 0, none⟩) N5 ∧ RwN w5 (some ⟨H, 0, none⟩) O5 := by
  obtain ⟨h1, h2, _⟩ := ht
  obtain ⟨N5, e1, r1, _⟩ := h1.read
  obtain ⟨O5, e2, r2, z2⟩ := h2.read
  obtain ⟨k1, k2, k3⟩ := hs.relen e1 e2 z2
  exact ⟨N5, O5, k1, k2, k3, r1, r2⟩
end Go.Proofs.YtjmmckkiicefhaaDoor
namespace Go.Proofs.YtjmmckkiicefhaaDoor
open Go.RowKit Go.Shelf
theorem rwa_nil (w : World) (a : Option Addr) : RwA w a [] := ⟨fun _ hk => absurd hk (Nat.not_lt_zero _)⟩
theorem outer_nil (G : Nat) (W : World) (h : W.heap[G]? = some (.cells #[.slice none 0 0, .slice none 0 0, .slice none 0 0, .slice none 0 0] 22 (0, 0))) : Calls Tryd.prog 10 #[.slice (some ⟨G, 0, none⟩) 4 4] W fun e w' => e = .returned (.bool true) ∧ Below W.heap.size W w' :=
  outer_lot [(.slice none 0 0, []), (.slice none 0 0, []), (.slice none 0 0, []), (.slice none 0 0, [])] G 4 W.heap.size W W (fun x hx => by
    obtain rfl : x = (.slice none 0 0, []) := by simpa using hx
    exact World.ownsRow_nil _ _ _ _) (by simp [Value.ownBlock]) (fun x hx => by
    obtain rfl : x = (.slice none 0 0, []) := by simpa using hx
    simp) (by simp) (by simp) h (Below.refl _ _) (Nat.le_refl _)
set_option maxRecDepth 10000 in
set_option maxHeartbeats 3200000 in
theorem minimalNew_no (x : Addr) (sa sb sy : Int) (N O : List (List Int)) (aN aO : Option Addr) (vM vP vW : Value) (cN cO : Nat) (w : World) (hmay : mayF sa N O sy = false) (hs : SmlO N O) (hol : O.length ≤ 2200000) (rN : RwN w aN N) (rO : RwN w aO O) (he : E1 w x) :
    Calls Tryd.prog 3 #[.agg #[.int .i64 sa, .slice aN N.length cN, .slice aO O.length cO, .int .i64 sb, vM, vP, .int .i64 sy, vW]] w fun e w' => e = .returned (.bool true) ∧ Below w.heap.size w w' := by
  obtain ⟨w0, hw0⟩ : ∃ w0, w0 = w.alloc (.cells #[.int .i64 sa, .slice aN N.length cN, .slice aO O.length cO, .int .i64 sb, vM, vP, .int .i64 sy, vW] 27) := ⟨_, rfl⟩
  have hB0 : Below w.heap.size w w0 := by rw [hw0]; exact below_alloc _ _
  have hX0 : CBox w0 w.heap.size sa sb sy (.slice aN N.length cN) (.slice aO O.length cO) vM vP vW := ⟨by rw [hw0]; exact heap_alloc_new w _⟩
  have HAl : Hid (∀ V : World, Below w0.heap.size w0 V → (RwN V aN N ∧ RwN V aO O) ∧ E1 V x ∧ Below w.heap.size w V ∧ CBox V w.heap.size sa sb sy (.slice aN N.length cN) (.slice aO O.length cO) vM vP vW) := hid0 (fun V hV => by
    have h := Below.later hB0 hV
    exact ⟨⟨rN.past h, rO.past h⟩, he.below h, h, hX0.past hV⟩)
  obtain ⟨x0, x1, x2, x6, x7⟩ := hX0.c
  have HKn := hid0 (known_any x w0 (HAl.out w0 (below_refl0 w0)).2.1)
  have HTw : Hid (∀ V : World, Below w0.heap.size w0 V → Calls Tryd.prog 5 #[.agg #[.int .i64 sa, .slice aN N.length cN, .slice aO O.length cO]] V fun e w' => ∃ G c H d, e = .returned (.agg #[.int .i64 sa, .slice (some ⟨G, 0, none⟩) N.length c, .slice (some ⟨H, 0, none⟩) O.length d]) ∧ Tz w' V.heap.size G c N ∧ Tz w' V.heap.size H d O ∧ Below V.heap.size V w') := hid0 (fun V hV => twin_any sa N O aN aO cN cO V hs.sml hol (HAl.out V hV).1.1 (HAl.out V hV).1.2)
  have HOf : Hid (∀ V : World, Below w0.heap.size w0 V → Calls Tryd.prog 6 #[.agg #[.int .i64 sa, .slice aN N.length cN, .slice aO O.length cO], .int .i64 sy] V fun e w' => e = .returned (.tuple #[.agg #[.int .i64 0, .slice none 0 0, .slice none 0 0], .int .i64 1]) ∧ Below V.heap.size V w') := hid0 (fun V hV => refOf_no sa sy N O aN aO cN cO V hmay hs (HAl.out V hV).1.1.rwa (HAl.out V hV).1.2.rwa)
  have HSa : Hid (∀ V : World, Calls Tryd.prog 8 #[.agg #[.int .i64 0, .slice none 0 0, .slice none 0 0], .agg #[.int .i64 0, .slice none 0 0, .slice none 0 0]] V fun e w' => e = .returned (.bool true) ∧ Below V.heap.size V w') := hid0 (fun V => sameMachine_any 0 [] [] none none none none 0 0 0 0 V ⟨by simp, by simp, by simp, by simp, by simp⟩ (by simp) (rwa_nil _ _) (rwa_nil _ _) (rwa_nil _ _) (rwa_nil _ _))
  have HSm := hid0 (And.intro hs (And.intro hol hmay))
  have hfold := hw0.symm
  clear hw0 hB0 hX0 rN rO he hs hol hmay
  go_enter Tryd.func3, Tryd.ntmps3
  go_upto_region 3 with (first
    | (go_at_call 4; go_loud ((refine HKn.out.mono ?_; rintro e w1 ⟨rfl, hb1⟩; have HB1 := hid0 hb1; clear hb1 x0 x1 x2 x6 x7 hfold; obtain ⟨x0, x1, x2, x6, x7⟩ := (HAl.out w1 HB1.out).2.2.2.c)))
    | (go_at_call 5; go_loud ((refine (HTw.out w1 HB1.out).mono ?_; rintro e w2 ⟨G, c, H, d, rfl, t1, t2, hb2⟩; have HT1 := hid0 t1; have HT2 := hid0 t2; have HB2 := hid0 (Below.later HB1.out hb2); clear t1 t2 hb2 x0 x1 x2 x6 x7))))
  obtain ⟨w3, hw3⟩ : ∃ w3, w3 = w2.alloc (.cells #[.int .i64 sa, .slice (some ⟨G, 0, none⟩) N.length c, .slice (some ⟨H, 0, none⟩) O.length d] 24) := ⟨_, rfl⟩
  have hB23 : Below w2.heap.size w2 w3 := by rw [hw3]; exact below_alloc _ _
  have hX3 : MBox w3 w2.heap.size sa (.slice (some ⟨G, 0, none⟩) N.length c) (.slice (some ⟨H, 0, none⟩) O.length d) := by rw [hw3]; exact MBox.new _ _ _ _
  have HAm : Hid (∀ V : World, Below w3.heap.size w3 V → Below w0.heap.size w0 V ∧ Tz V w1.heap.size G c N ∧ Tz V w1.heap.size H d O ∧ MBox V w2.heap.size sa (.slice (some ⟨G, 0, none⟩) N.length c) (.slice (some ⟨H, 0, none⟩) O.length d)) := hid0 (fun V hV => ⟨Below.later HB2.out (Below.later hB23 hV), (HT1.out.later hB23).later hV, (HT2.out.later hB23).later hV, hX3.past hV⟩)
  have HOb : Hid (∀ V : World, Below w3.heap.size w3 V → Calls Tryd.prog 7 #[.agg #[.int .i64 sa, .slice (some ⟨G, 0, none⟩) N.length c, .slice (some ⟨H, 0, none⟩) O.length d], .int .i64 sy] V fun e w' => e = .returned (.tuple #[.agg #[.int .i64 0, .slice none 0 0, .slice none 0 0], .iface 112 (.pointer (some x))]) ∧ Below V.heap.size V w') := hid0 (fun V hV => of_bad x sa sy N O _ _ c d V HSm.out.2.2 HSm.out.1 (HAm.out V hV).2.1.rwa (HAm.out V hV).2.2.1.rwa (HAl.out V (HAm.out V hV).1).2.1)
  have HKe : Hid (∀ V : World, Below w3.heap.size w3 V → Calls Tryd.prog 11 #[.agg #[.int .i64 sa, .slice (some ⟨G, 0, none⟩) N.length c, .slice (some ⟨H, 0, none⟩) O.length d], .agg #[.int .i64 sa, .slice aN N.length cN, .slice aO O.length cO]] V fun e w' => e = .returned (.bool true) ∧ Below V.heap.size V w') := hid0 (fun V hV => kept_any sa N O _ _ G H c d cN cO aN aO V HSm.out.1.sml HSm.out.2.1 (HAm.out V hV).2.1 (HAm.out V hV).2.2.1 ⟨(HAl.out V (HAm.out V hV).1).1.1.rwa, (HAl.out V (HAm.out V hV).1).1.2.rwa⟩)
  have HR3 := hid0 (below_refl0 w3)
  obtain ⟨z0, z1, z2⟩ := hX3.c
  obtain ⟨y0, y1, y2, y6, _⟩ := (HAl.out w3 (HAm.out w3 HR3.out).1).2.2.2.c
  have q3 := hw3.symm
  clear hw3 hB23 hX3 HTw HKn HT1 HT2
  go_upto_region 4 with (go_at_call 6; go_loud ((refine (HOf.out w3 (HAm.out w3 HR3.out).1).mono ?_; rintro e w4 ⟨rfl, hb4⟩; have HB4 := hid0 hb4; clear hb4 z0 z1 z2 y0 y1 y2 y6 q3)))
  obtain ⟨w5, hw5⟩ : ∃ w5, w5 = w4.alloc (.cells #[.int .i64 0, .slice none 0 0, .slice none 0 0] 24) := ⟨_, rfl⟩
  have HX5 : Hid (MBox w5 w4.heap.size 0 (.slice none 0 0) (.slice none 0 0)) := hid0 (by rw [hw5]; exact MBox.new _ _ _ _)
  have HB5 : Hid (Below w3.heap.size w3 w5) := hid0 (Below.later HB4.out (by rw [hw5]; exact below_alloc _ _))
  obtain ⟨z0, z1, z2⟩ := (HAm.out w5 HB5.out).2.2.2.c
  obtain ⟨y0, y1, y2, y6, _⟩ := (HAl.out w5 (HAm.out w5 HB5.out).1).2.2.2.c
  have q5 := hw5.symm
  clear hw5
  go_upto_region 5 with (go_at_call 7; go_loud ((refine (HOb.out w5 HB5.out).mono ?_; rintro e w6 ⟨rfl, hb6⟩; have HB6 := hid0 hb6; clear hb6 z0 z1 z2 y0 y1 y2 y6 q5)))
  obtain ⟨w7, hw7⟩ : ∃ w7, w7 = w6.alloc (.cells #[.int .i64 0, .slice none 0 0, .slice none 0 0] 24) := ⟨_, rfl⟩
  have HX7 : Hid (MBox w7 w6.heap.size 0 (.slice none 0 0) (.slice none 0 0)) := hid0 (by rw [hw7]; exact MBox.new _ _ _ _)
  have HB57 : Hid (Below w5.heap.size w5 w7) := hid0 (Below.later HB6.out (by rw [hw7]; exact below_alloc _ _))
  have HB7 := hid0 (Below.later HB5.out HB57.out)
  obtain ⟨z0, z1, z2⟩ := (HAm.out w7 HB7.out).2.2.2.c
  obtain ⟨y0, y1, y2, y6, _⟩ := (HAl.out w7 (HAm.out w7 HB7.out).1).2.2.2.c
  have q7 := hw7.symm
  clear hw7
  go_upto_region 6 with (go_at_call 7; go_loud ((refine (HOb.out w7 HB7.out).mono ?_; rintro e w8 ⟨rfl, hb8⟩; have HB8 := hid0 hb8; clear hb8 z0 z1 z2 y0 y1 y2 y6 q7)))
  obtain ⟨w9, hw9⟩ : ∃ w9, w9 = w8.alloc (.cells #[.int .i64 0, .slice none 0 0, .slice none 0 0] 24) := ⟨_, rfl⟩
  have HX9 : Hid (MBox w9 w8.heap.size 0 (.slice none 0 0) (.slice none 0 0)) := hid0 (by rw [hw9]; exact MBox.new _ _ _ _)
  have HB79 : Hid (Below w7.heap.size w7 w9) := hid0 (Below.later HB8.out (by rw [hw9]; exact below_alloc _ _))
  have HBx : Hid (∀ V : World, Below w9.heap.size w9 V → Below w3.heap.size w3 V ∧ MBox V w4.heap.size 0 (.slice none 0 0) (.slice none 0 0) ∧ MBox V w6.heap.size 0 (.slice none 0 0) (.slice none 0 0) ∧ MBox V w8.heap.size 0 (.slice none 0 0) (.slice none 0 0)) := hid0 (fun V hV => ⟨Below.later HB7.out (Below.later HB79.out hV), HX5.out.past (Below.later HB57.out (Below.later HB79.out hV)), HX7.out.past (Below.later HB79.out hV), HX9.out.past hV⟩)
  have HR9 := hid0 (below_refl0 w9)
  obtain ⟨a0, a1, a2⟩ := (HBx.out w9 HR9.out).2.1.c
  obtain ⟨b0, b1, b2⟩ := (HBx.out w9 HR9.out).2.2.1.c
  obtain ⟨c0, c1, c2⟩ := (HBx.out w9 HR9.out).2.2.2.c
  have q9 := hw9.symm
  clear hw9 HX5 HX7 HX9 HB57 HB79 HB7 HB5 HB4 HB6 HB8
  go_upto_region 11 with (first
    | (go_at_call 8; go_loud ((refine (HSa.out w9).mono ?_; rintro e w10 ⟨rfl, hb10⟩; have HB10 := hid0 hb10; clear hb10 a0 a1 a2 b0 b1 b2 c0 c1 c2 q9; obtain ⟨a0, a1, a2⟩ := (HBx.out w10 HB10.out).2.1.c; obtain ⟨c0, c1, c2⟩ := (HBx.out w10 HB10.out).2.2.2.c)))
    | (go_at_call 8; go_loud ((refine (HSa.out w10).mono ?_; rintro e w11 ⟨rfl, hb11⟩; have HB11 := hid0 (Below.later HB10.out hb11); clear hb11 a0 a1 a2 c0 c1 c2; obtain ⟨b0, b1, b2⟩ := (HBx.out w11 HB11.out).2.2.1.c; obtain ⟨c0, c1, c2⟩ := (HBx.out w11 HB11.out).2.2.2.c))))
  go_upto_region 16 with (go_at_call 9; go_loud ((refine (split_nil w11).mono ?_; rintro e w12 ⟨rfl, hw12⟩; have HB12 : Hid (Below w9.heap.size w9 w12) := hid0 (by rw [hw12]; exact HB11.out); clear hw12 b0 b1 b2 c0 c1 c2; obtain ⟨b0, b1, b2⟩ := (HBx.out w12 HB12.out).2.2.1.c; obtain ⟨c0, c1, c2⟩ := (HBx.out w12 HB12.out).2.2.2.c)))
  obtain ⟨w13, hw13⟩ : ∃ w13, w13 = w12.alloc (.cells #[.slice none 0 0, .slice none 0 0, .slice none 0 0, .slice none 0 0] 22) := ⟨_, rfl⟩
  have HOu : Hid (Calls Tryd.prog 10 #[.slice (some ⟨w12.heap.size, 0, none⟩) 4 4] w13 fun e w' => e = .returned (.bool true) ∧ Below w13.heap.size w13 w') := hid0 (outer_nil w12.heap.size w13 (by rw [hw13]; exact heap_alloc_new w12 _))
  have HB13 : Hid (Below w9.heap.size w9 w13) := hid0 (Below.later HB12.out (by rw [hw13]; exact below_alloc _ _))
  have q13 := hw13.symm
  clear hw13
  go_upto_region 18 with (first
    | (go_at_call 10; go_loud ((refine HOu.out.mono ?_; rintro e w14 ⟨rfl, hb14⟩; have HB14 := hid0 (Below.later HB13.out hb14); clear hb14 b0 b1 b2 c0 c1 c2 q13; obtain ⟨z0, z1, z2⟩ := (HAm.out w14 (HBx.out w14 HB14.out).1).2.2.2.c; obtain ⟨y0, y1, y2, y6, _⟩ := (HAl.out w14 (HAm.out w14 (HBx.out w14 HB14.out).1).1).2.2.2.c)))
    | (go_at_call 11; go_loud ((refine (HKe.out w14 (HBx.out w14 HB14.out).1).mono ?_; rintro e w15 ⟨rfl, hb15⟩; have HB15 := hid0 (Below.later HB14.out hb15); clear hb15 z0 z1 z2 y0 y1 y2 y6; obtain ⟨z0, z1, z2⟩ := (HAm.out w15 (HBx.out w15 HB15.out).1).2.2.2.c; obtain ⟨y0, y1, y2, y6, _⟩ := (HAl.out w15 (HAm.out w15 (HBx.out w15 HB15.out).1).1).2.2.2.c))))
  go_upto_region 19 with (go_at_call 7; go_loud ((refine (HOb.out w15 (HBx.out w15 HB15.out).1).mono ?_; rintro e w16 ⟨rfl, hb16⟩; have HB16 := hid0 (Below.later HB15.out hb16); clear hb16 z0 z1 z2 y0 y1 y2 y6)))
  obtain ⟨w17, hw17⟩ : ∃ w17, w17 = w16.alloc (.cells #[.int .i64 0, .slice none 0 0, .slice none 0 0] 24) := ⟨_, rfl⟩
  have hX17 : MBox w17 w16.heap.size 0 (.slice none 0 0) (.slice none 0 0) := by rw [hw17]; exact MBox.new _ _ _ _
  have HB17 : Hid (Below w9.heap.size w9 w17) := hid0 (Below.later HB16.out (by rw [hw17]; exact below_alloc _ _))
  obtain ⟨z0, z1, z2⟩ := hX17.c
  obtain ⟨a0, a1, a2⟩ := (HBx.out w17 HB17.out).2.1.c
  have q17 := hw17.symm
  clear hw17 hX17
  go_wp2_with (go_at_call 8; go_loud ((refine (HSa.out w17).mono ?_; rintro e w18 ⟨rfl, hb18⟩; have HB18 := hid0 (Below.later HB17.out hb18); clear hb18)))
  go_ret
  exact ⟨rfl, (HAl.out _ (HAm.out _ (HBx.out _ HB18.out).1).1).2.2.1⟩
end Go.Proofs.YtjmmckkiicefhaaDoor
namespace Go.Proofs.YtjmmckkiicefhaaDoor
open Go.RowKit Go.Shelf
theorem row_low {W : World} {lo lo' : Nat} {t : TypeId} {s m : Nat} {v : Value} {xs : List Value} (h : W.ownsRow lo t s v m xs) (hl : lo' ≤ lo) : W.ownsRow lo' t s v m xs := ⟨h.1, by
  rcases h.2 with h2 | ⟨g, cap, cur, e, hg, r⟩
  · exact .inl h2
  · exact .inr ⟨g, cap, cur, e, Nat.le_trans hl hg, r⟩⟩
/-- What a bag's list adds. -/
theorem bag_news {V : World} {base g n c : Nat} {p : Lot} (h : Bag V base (.slice (some ⟨g, 0, none⟩) n c) p) : (∀ j u, (p.map (·.1))[j]? = some u → V.cell? ((⟨g, 0, none⟩ : Addr).add j) = some u) ∧ ∀ u ∈ p.map (·.1), u.oneCell' = true := by
  refine ⟨World.ownsRow.cells h.outer rfl, fun u hu => ?_⟩
  obtain ⟨y, hy, rfl⟩ := List.mem_map.1 hu
  obtain ⟨a, k, e, _⟩ := (h.row y hy).ia
  rw [e]
  rfl
theorem own_grow {w wr w1 : World} {base n size : Nat} {e : TypeId} {v : Value} {xs : List Value} (hown : wr.ownsRow base e size v n xs) (hgrow : wr.grownBy w1 v.ownBlock) (hbel : Below base w wr) (hb : base ≤ w.heap.size) : Below base w w1 :=
  hbel.grown hgrow (by have := hbel.size; omega) (fun k hk => (World.ownsRow.lt hown k hk).1)
/-- The wanted machine. -/
structure Wan (W : World) (m s0 n1 n2 : Nat) (N O N2 O2 : List (List Int)) (aD aE : Option Addr) (cD cE : Nat) : Prop where
  e1 : n1 = N2.length
  e2 : n2 = O2.length
  lst : Lst m (s0 : Int) N O N2 O2
  db : DbB 0 W (.slice aD n1 cD) (.slice aE n2 cE) N2 O2
theorem DbB.low {lo lo' : Nat} {W : World} {vD vE : Value} {ND OD : List (List Int)} (h : DbB lo W vD vE ND OD) (hl : lo' ≤ lo) : DbB lo' W vD vE ND OD := by
  obtain ⟨pD, pE, h1, h2, h3, h4⟩ := h
  exact ⟨pD, pE, h1.low hl, h2.low hl, h3, h4⟩
theorem Wan.later {W W' : World} {m s0 n1 n2 : Nat} {N O N2 O2 : List (List Int)} {aD aE : Option Addr} {cD cE : Nat} (h : Wan W m s0 n1 n2 N O N2 O2 aD aE cD cE) (hb : Below W.heap.size W W') : Wan W' m s0 n1 n2 N O N2 O2 aD aE cD cE := ⟨h.e1, h.e2, h.lst, h.db.later hb⟩
theorem refOf_wan (s0 m : Nat) (N O : List (List Int)) (aN aO : Option Addr) (cN cO : Nat) (w : World) (hmay : mayF (s0 : Int) N O (m : Int) = true) (hs : SmlO N O) (rN : RwA w aN N) (rO : RwN w aO O) :
    Calls Tryd.prog 6 #[.agg #[.int .i64 (s0 : Int), .slice aN N.length cN, .slice aO O.length cO], .int .i64 (m : Int)] w fun e w' => ∃ n1 n2 aD cD aE cE, e = .returned (.tuple #[.agg #[.int .i64 0, .slice aD n1 cD, .slice aE n2 cE], .int .i64 0]) ∧ (∃ N2 O2, Wan w' m s0 n1 n2 N O N2 O2 aD aE cD cE) ∧ Below w.heap.size w w' :=
  (refOf_yes s0 m N O aN aO cN cO w hmay hs rN rO).mono (fun _e _w' ⟨N2, O2, aD, aE, cD, cE, e1, hl, hdb, hb⟩ => ⟨_, _, aD, cD, aE, cE, e1, ⟨N2, O2, rfl, rfl, hl, hdb.low (Nat.zero_le _)⟩, hb⟩)
/-- One answer of the program's, where the wanted one is known. -/
structure Got (V W : World) (m s0 : Nat) (N O N2 O2 : List (List Int)) (v1 v2 : Value) (a1 a2 : Option Addr) : Prop where
  ofr : OfR V W m (s0 : Int) N O v1 v2
  r1 : RwA W a1 N2
  r2 : RwA W a2 O2
  bel : Below V.heap.size V W
theorem of_got {W0 : World} {n1 n2 : Nat} {N2 O2 : List (List Int)} {aD aE : Option Addr} {cD cE : Nat} (s0 m : Nat) (N O : List (List Int)) (aN aO : Option Addr) (cN cO : Nat) (V : World) (hmay : mayF (s0 : Int) N O (m : Int) = true) (hs : SmlO N O) (rN : RwA V aN N) (rO : RwA V aO O) (hw : Wan W0 m s0 n1 n2 N O N2 O2 aD aE cD cE) :
    Calls Tryd.prog 7 #[.agg #[.int .i64 (s0 : Int), .slice aN N.length cN, .slice aO O.length cO], .int .i64 (m : Int)] V fun e w' => ∃ gA cA gB cB, e = .returned (.tuple #[.agg #[.int .i64 0, .slice (some ⟨gA, 0, none⟩) n1 cA, .slice (some ⟨gB, 0, none⟩) n2 cB], .nilIface]) ∧ Got V w' m s0 N O N2 O2 (.slice (some ⟨gA, 0, none⟩) n1 cA) (.slice (some ⟨gB, 0, none⟩) n2 cB) (some ⟨gA, 0, none⟩) (some ⟨gB, 0, none⟩) :=
  (of_sml s0 m N O aN aO cN cO V hmay hs rN rO).mono (fun e w' ⟨vN, vO, e1, hof, hb⟩ => by
    have hof2 := hof
    obtain ⟨pA, pB, h1, h2, _, _, hl⟩ := hof2
    obtain ⟨u1, u2⟩ := hw.lst.uniq hl
    have hp := hw.lst.red.pos
    have ho : O2.length = N2.length := by have := hw.lst.red.may'.out; omega
    have q1 : pA.length = n1 := by rw [hw.e1, u1, List.length_map]
    have q2 : pB.length = n2 := by rw [hw.e2, u2, List.length_map]
    obtain ⟨gA, cA, f1, _⟩ := own_form h1.outer (by rw [q1, hw.e1]; exact hp)
    obtain ⟨gB, cB, f2, _⟩ := own_form h2.outer (by rw [q2, hw.e2, ho]; exact hp)
    obtain ⟨aA', cA', g1, k1⟩ := h1.rwq
    obtain ⟨aB', cB', g2, k2⟩ := h2.rwq
    rw [q1] at f1
    rw [q2] at f2
    subst f1
    subst f2
    simp only [Value.slice.injEq] at g1 g2
    have t1 := k1.rwa
    have t2 := k2.rwa
    rw [← g1.1, ← u1] at t1
    rw [← g2.1, ← u2] at t2
    exact ⟨gA, cA, gB, cB, e1, hof, t1, t2, hb⟩)
/-- The four lists of two answers, one behind the other. -/
structure Fou (V : World) (B n1 n2 X1 X2 g1 g2 g3 g4 c1 c2 c3 c4 : Nat) (pA pB pC pD : Lot) : Prop where
  two : TwoA V B (.slice (some ⟨g1, 0, none⟩) n1 c1) (.slice (some ⟨g2, 0, none⟩) n2 c2) (.slice (some ⟨g3, 0, none⟩) n1 c3) (.slice (some ⟨g4, 0, none⟩) n2 c4) pA pB pC pD
  b1 : MBox V X1 0 (.slice (some ⟨g1, 0, none⟩) n1 c1) (.slice (some ⟨g2, 0, none⟩) n2 c2)
  b2 : MBox V X2 0 (.slice (some ⟨g3, 0, none⟩) n1 c3) (.slice (some ⟨g4, 0, none⟩) n2 c4)
theorem Fou.later {V V' : World} {B n1 n2 X1 X2 g1 g2 g3 g4 c1 c2 c3 c4 : Nat} {pA pB pC pD : Lot} (h : Fou V B n1 n2 X1 X2 g1 g2 g3 g4 c1 c2 c3 c4 pA pB pC pD) (hb : Below V.heap.size V V') : Fou V' B n1 n2 X1 X2 g1 g2 g3 g4 c1 c2 c3 c4 pA pB pC pD := ⟨h.two.later hb, h.b1.past hb, h.b2.past hb⟩
theorem app_more {w wr w1 : World} {base n m t : Nat} {v v' : Value} {xs news : List Value} (hown : wr.ownsRow base 25 1 v n xs) (hbel : Below base w wr) (hb : base ≤ w.heap.size) (ht : t = n + m) (hp : 0 < t) (h1 : w1.ownsRow base 25 1 v' (n + m) (xs ++ news)) (hg : wr.grownBy w1 v.ownBlock) :
    ∃ G C, v' = .slice (some ⟨G, 0, none⟩) t C ∧ w1.ownsRow base 25 1 (.slice (some ⟨G, 0, none⟩) t C) t (xs ++ news) ∧ Below base w w1 := by
  rw [← ht] at h1
  obtain ⟨G, C, e, _⟩ := own_form h1 hp
  subst e
  exact ⟨G, C, rfl, h1, own_grow hown hg hbel hb⟩
theorem bag_len {V : World} {base g n c : Nat} {p : Lot} (h : Bag V base (.slice (some ⟨g, 0, none⟩) n c) p) : p.length = n := by
  rcases h.outer.2 with ⟨e, _⟩ | ⟨g', cap, cur, e, _⟩
  · cases e
  · simp only [Value.slice.injEq] at e
    exact e.2.1.symm
/-- split asked of the four. -/
theorem split_four {V w0 : World} {B n1 n2 t X1 X2 g1 g2 g3 g4 c1 c2 c3 c4 lo : Nat} {pA pB pC pD : Lot} (h : Fou V B n1 n2 X1 X2 g1 g2 g3 g4 c1 c2 c3 c4 pA pB pC pD) {vl : Value} (hlo : B ≤ lo) (ht : t = n1 + n2 + n1 + n2) (hp : 0 < t) (hb : t ≤ 5000000)
    (hr : ∀ x ∈ pA ++ pB ++ pC ++ pD, x.2.length ≤ 5000000) (hown : V.ownsRow lo 25 1 vl t (((pA.map (·.1) ++ pB.map (·.1)) ++ pC.map (·.1)) ++ pD.map (·.1))) (hbel : Below B w0 V) (hB : B ≤ V.heap.size) :
    Calls Tryd.prog 9 #[vl] V fun e w' => e = .returned (.bool true) ∧ Below B w0 w' ∧ Lsts V w' := by
  have e1 := bag_len h.two.a
  have e2 := bag_len h.two.b
  have e3 := bag_len h.two.c
  have e4 := bag_len h.two.d
  have el : (pA ++ pB ++ pC ++ pD).length = t := by simp only [List.length_append]; omega
  refine split_lot (pA ++ pB ++ pC ++ pD) vl B w0 V (fun x hx => ?_) h.two.rows hr (by omega) (by omega) ?_ hbel hB
  · simp only [List.mem_append] at hx
    rcases hx with ((hx | hx) | hx) | hx
    · exact h.two.a.row x hx
    · exact h.two.b.row x hx
    · exact h.two.c.row x hx
    · exact h.two.d.row x hx
  · rw [el]
    simp only [List.map_append]
    exact row_low hown hlo
/-- outer asked of the four. -/
theorem outer_four {V V1 V2 w0 : World} {B n1 n2 X1 X2 g1 g2 g3 g4 c1 c2 c3 c4 : Nat} {pA pB pC pD : Lot} (h : Fou V B n1 n2 X1 X2 g1 g2 g3 g4 c1 c2 c3 c4 pA pB pC pD) (hl : Lsts V V1) (h1 : n1 ≤ 5000000) (h2 : n2 ≤ 5000000) (hbel : Below B w0 V1) (hB : B ≤ V1.heap.size)
    (hV2 : V2 = V1.alloc (.cells #[.slice (some ⟨g1, 0, none⟩) n1 c1, .slice (some ⟨g2, 0, none⟩) n2 c2, .slice (some ⟨g3, 0, none⟩) n1 c3, .slice (some ⟨g4, 0, none⟩) n2 c4] 22)) :
    Calls Tryd.prog 10 #[.slice (some ⟨V1.heap.size, 0, none⟩) 4 4] V2 fun e w' => e = .returned (.bool true) ∧ Below B w0 w' := by
  subst hV2
  have e1 := bag_len h.two.a
  have e2 := bag_len h.two.b
  have e3 := bag_len h.two.c
  have e4 := bag_len h.two.d
  refine outer_lot [(.slice (some ⟨g1, 0, none⟩) n1 c1, pA.map (·.1)), (.slice (some ⟨g2, 0, none⟩) n2 c2, pB.map (·.1)), (.slice (some ⟨g3, 0, none⟩) n1 c3, pC.map (·.1)), (.slice (some ⟨g4, 0, none⟩) n2 c4, pD.map (·.1))] V1.heap.size 4 B w0 _ (fun x hx => ?_) ?_ (fun x hx => ?_) (by simp) (by simp) (heap_alloc_new V1 _) (hbel.alloc hB _) (by simp; omega)
  · simp only [List.mem_cons, List.not_mem_nil, or_false] at hx
    rcases hx with rfl | rfl | rfl | rfl
    · simp only [List.length_map]; exact World.ownsRow.alloc (hl.own (by decide) h.two.a.outer) _
    · simp only [List.length_map]; exact World.ownsRow.alloc (hl.own (by decide) h.two.b.outer) _
    · simp only [List.length_map]; exact World.ownsRow.alloc (hl.own (by decide) h.two.c.outer) _
    · simp only [List.length_map]; exact World.ownsRow.alloc (hl.own (by decide) h.two.d.outer) _
  · exact (List.pairwise_map (f := Prod.fst) (R := fun x y : Value => ∀ g, x.ownBlock = some g → y.ownBlock ≠ some g)).1 h.two.outs
  · simp only [List.mem_cons, List.not_mem_nil, or_false] at hx
    rcases hx with rfl | rfl | rfl | rfl
    · simp only [List.length_map]; omega
    · simp only [List.length_map]; omega
    · simp only [List.length_map]; omega
    · simp only [List.length_map]; omega
theorem MBox.lsts {w w' : World} {X : Nat} {s : Int} {vN vO : Value} (h : MBox w X s vN vO) (hl : Lsts w w') : MBox w' X s vN vO := ⟨(hl _ _ _ (by decide) h.r).trans h.r⟩
end Go.Proofs.YtjmmckkiicefhaaDoor
namespace Go.Proofs.YtjmmckkiicefhaaDoor
open Go.RowKit Go.Shelf
set_option maxRecDepth 10000 in
set_option maxHeartbeats 3200000 in
theorem minimalNew_yes (x : Addr) (s0 m : Nat) (sb : Int) (N O : List (List Int)) (aN aO : Option Addr) (vM vP vW : Value) (cN cO : Nat) (w : World) (hmay : mayF (s0 : Int) N O (m : Int) = true) (hs : SmlO N O) (hnl : N.length ≤ 1048576) (hol : O.length ≤ 2200000) (rN : RwN w aN N) (rO : RwN w aO O) (he : E1 w x) :
    Calls Tryd.prog 3 #[.agg #[.int .i64 (s0 : Int), .slice aN N.length cN, .slice aO O.length cO, .int .i64 sb, vM, vP, .int .i64 (m : Int), vW]] w fun e w' => e = .returned (.bool true) ∧ Below w.heap.size w w' := by
  obtain ⟨w0, hw0⟩ : ∃ w0, w0 = w.alloc (.cells #[.int .i64 (s0 : Int), .slice aN N.length cN, .slice aO O.length cO, .int .i64 sb, vM, vP, .int .i64 (m : Int), vW] 27) := ⟨_, rfl⟩
  have hB0 : Below w.heap.size w w0 := by rw [hw0]; exact below_alloc _ _
  have hX0 : CBox w0 w.heap.size (s0 : Int) sb (m : Int) (.slice aN N.length cN) (.slice aO O.length cO) vM vP vW := ⟨by rw [hw0]; exact heap_alloc_new w _⟩
  have HAl : Hid (∀ V : World, Below w0.heap.size w0 V → (RwN V aN N ∧ RwN V aO O) ∧ E1 V x ∧ Below w.heap.size w V ∧ CBox V w.heap.size (s0 : Int) sb (m : Int) (.slice aN N.length cN) (.slice aO O.length cO) vM vP vW) := hid0 (fun V hV => by
    have h := Below.later hB0 hV
    exact ⟨⟨rN.past h, rO.past h⟩, he.below h, h, hX0.past hV⟩)
  obtain ⟨x0, x1, x2, x6, x7⟩ := hX0.c
  have HKn := hid0 (known_any x w0 (HAl.out w0 (below_refl0 w0)).2.1)
  have HTw : Hid (∀ V : World, Below w0.heap.size w0 V → Calls Tryd.prog 5 #[.agg #[.int .i64 (s0 : Int), .slice aN N.length cN, .slice aO O.length cO]] V fun e w' => ∃ G c H d, e = .returned (.agg #[.int .i64 (s0 : Int), .slice (some ⟨G, 0, none⟩) N.length c, .slice (some ⟨H, 0, none⟩) O.length d]) ∧ Tz w' V.heap.size G c N ∧ Tz w' V.heap.size H d O ∧ Below V.heap.size V w') := hid0 (fun V hV => twin_any (s0 : Int) N O aN aO cN cO V hs.sml hol (HAl.out V hV).1.1 (HAl.out V hV).1.2)
  have HOf : Hid (∀ V : World, Below w0.heap.size w0 V → Calls Tryd.prog 6 #[.agg #[.int .i64 (s0 : Int), .slice aN N.length cN, .slice aO O.length cO], .int .i64 (m : Int)] V fun e w' => ∃ n1 n2 aD cD aE cE, e = .returned (.tuple #[.agg #[.int .i64 0, .slice aD n1 cD, .slice aE n2 cE], .int .i64 0]) ∧ (∃ N2 O2, Wan w' m s0 n1 n2 N O N2 O2 aD aE cD cE) ∧ Below V.heap.size V w') := hid0 (fun V hV => refOf_wan s0 m N O aN aO cN cO V hmay hs (HAl.out V hV).1.1.rwa (HAl.out V hV).1.2)
  obtain ⟨i0, hi, hz0, hz1, hz2⟩ := info_parts infoInts
  have HSm := hid0 (And.intro hs (And.intro hol hmay))
  have HNl := hid0 hnl
  have hfold := hw0.symm
  clear hw0 hB0 hX0 rN rO he hs hol hmay hnl
  go_enter Tryd.func3, Tryd.ntmps3
  go_upto_region 3 with (first
    | (go_at_call 4; go_loud ((refine HKn.out.mono ?_; rintro e w1 ⟨rfl, hb1⟩; have HB1 := hid0 hb1; clear hb1 x0 x1 x2 x6 x7 hfold; obtain ⟨x0, x1, x2, x6, x7⟩ := (HAl.out w1 HB1.out).2.2.2.c)))
    | (go_at_call 5; go_loud ((refine (HTw.out w1 HB1.out).mono ?_; rintro e w2 ⟨G, c, H, d, rfl, t1, t2, hb2⟩; have HT1 := hid0 t1; have HT2 := hid0 t2; have HB2 := hid0 (Below.later HB1.out hb2); clear t1 t2 hb2 x0 x1 x2 x6 x7))))
  obtain ⟨w3, hw3⟩ : ∃ w3, w3 = w2.alloc (.cells #[.int .i64 (s0 : Int), .slice (some ⟨G, 0, none⟩) N.length c, .slice (some ⟨H, 0, none⟩) O.length d] 24) := ⟨_, rfl⟩
  have hB23 : Below w2.heap.size w2 w3 := by rw [hw3]; exact below_alloc _ _
  have hX3 : MBox w3 w2.heap.size (s0 : Int) (.slice (some ⟨G, 0, none⟩) N.length c) (.slice (some ⟨H, 0, none⟩) O.length d) := by rw [hw3]; exact MBox.new _ _ _ _
  have HAm : Hid (∀ V : World, Below w3.heap.size w3 V → Below w0.heap.size w0 V ∧ Tz V w1.heap.size G c N ∧ Tz V w1.heap.size H d O ∧ MBox V w2.heap.size (s0 : Int) (.slice (some ⟨G, 0, none⟩) N.length c) (.slice (some ⟨H, 0, none⟩) O.length d)) := hid0 (fun V hV => ⟨Below.later HB2.out (Below.later hB23 hV), (HT1.out.later hB23).later hV, (HT2.out.later hB23).later hV, hX3.past hV⟩)
  have HKe : Hid (∀ V : World, Below w3.heap.size w3 V → Calls Tryd.prog 11 #[.agg #[.int .i64 (s0 : Int), .slice (some ⟨G, 0, none⟩) N.length c, .slice (some ⟨H, 0, none⟩) O.length d], .agg #[.int .i64 (s0 : Int), .slice aN N.length cN, .slice aO O.length cO]] V fun e w' => e = .returned (.bool true) ∧ Below V.heap.size V w') := hid0 (fun V hV => kept_any (s0 : Int) N O _ _ G H c d cN cO aN aO V HSm.out.1.sml HSm.out.2.1 (HAm.out V hV).2.1 (HAm.out V hV).2.2.1 ⟨(HAl.out V (HAm.out V hV).1).1.1.rwa, (HAl.out V (HAm.out V hV).1).1.2.rwa⟩)
  have HR3 := hid0 (below_refl0 w3)
  obtain ⟨z0, z1, z2⟩ := hX3.c
  obtain ⟨y0, y1, y2, y6, _⟩ := (HAl.out w3 (HAm.out w3 HR3.out).1).2.2.2.c
  have q3 := hw3.symm
  clear hw3 hB23 hX3 HTw HKn HT1 HT2
  go_upto_region 4 with (go_at_call 6; go_loud ((refine (HOf.out w3 (HAm.out w3 HR3.out).1).mono ?_; rintro e w4 ⟨n1, n2, aD, cD, aE, cE, rfl, hwan, hb4⟩; have HW4 := hid0 hwan; have HB4 := hid0 hb4; clear hwan hb4 z0 z1 z2 y0 y1 y2 y6 q3)))
  obtain ⟨w5, hw5⟩ : ∃ w5, w5 = w4.alloc (.cells #[.int .i64 0, .slice aD n1 cD, .slice aE n2 cE] 24) := ⟨_, rfl⟩
  have hB45 : Below w4.heap.size w4 w5 := by rw [hw5]; exact below_alloc _ _
  have hX5 : MBox w5 w4.heap.size 0 (.slice aD n1 cD) (.slice aE n2 cE) := by rw [hw5]; exact MBox.new _ _ _ _
  have HB5 : Hid (Below w3.heap.size w3 w5) := hid0 (Below.later HB4.out hB45)
  obtain ⟨N2, O2, hWa⟩ := HW4.out
  have HBy : Hid (∀ V : World, Below w5.heap.size w5 V → Below w3.heap.size w3 V ∧ MBox V w4.heap.size 0 (.slice aD n1 cD) (.slice aE n2 cE) ∧ Wan V m s0 n1 n2 N O N2 O2 aD aE cD cE) := hid0 (fun V hV => ⟨Below.later HB5.out hV, hX5.past hV, (hWa.later hB45).later hV⟩)
  have HS2 : Hid (SmlO N2 O2) := hid0 (hWa.lst.sml HSm.out.1 HSm.out.2.2)
  have hp1 : 0 < n1 := by have := hWa.lst.red.pos; rw [hWa.e1]; omega
  have hp2 : 0 < n2 := by have := hWa.lst.red.pos; have := hWa.lst.red.may'.out; rw [hWa.e2]; omega
  have hq1 : n1 ≤ 1048576 := by have := hWa.lst.less; have := HNl.out; rw [hWa.e1]; omega
  have hq2 : n2 ≤ 1048576 := by have := hWa.lst.less; have := HNl.out; have := hWa.lst.red.may'.out; rw [hWa.e2]; omega
  have HOb : Hid (∀ V : World, Below w5.heap.size w5 V → Calls Tryd.prog 7 #[.agg #[.int .i64 (s0 : Int), .slice (some ⟨G, 0, none⟩) N.length c, .slice (some ⟨H, 0, none⟩) O.length d], .int .i64 (m : Int)] V fun e w' => ∃ gA cA gB cB, e = .returned (.tuple #[.agg #[.int .i64 0, .slice (some ⟨gA, 0, none⟩) n1 cA, .slice (some ⟨gB, 0, none⟩) n2 cB], .nilIface]) ∧ Got V w' m s0 N O N2 O2 (.slice (some ⟨gA, 0, none⟩) n1 cA) (.slice (some ⟨gB, 0, none⟩) n2 cB) (some ⟨gA, 0, none⟩) (some ⟨gB, 0, none⟩)) := hid0 (fun V hV => of_got s0 m N O _ _ c d V HSm.out.2.2 HSm.out.1 (HAm.out V (HBy.out V hV).1).2.1.rwa (HAm.out V (HBy.out V hV).1).2.2.1.rwa (HBy.out V hV).2.2)
  have HSa : Hid (∀ (V : World) (bA bB : Option Addr) (dA dB : Nat), Below w5.heap.size w5 V → RwA V bA N2 → RwA V bB O2 → Calls Tryd.prog 8 #[.agg #[.int .i64 0, .slice bA n1 dA, .slice bB n2 dB], .agg #[.int .i64 0, .slice aD n1 cD, .slice aE n2 cE]] V fun e w' => e = .returned (.bool true) ∧ Below V.heap.size V w') := hid0 (fun V bA bB dA dB hV r1 r2 => by
    have hq := (HBy.out V hV).2.2
    have hr := hq.db.rwa
    have h := sameMachine_any 0 N2 O2 bA bB aD aE dA dB cD cE V HS2.out (by have := hq.lst.red.may'.out; have := HS2.out.n; omega) r1 r2 hr.1 hr.2.1
    rw [← hq.e1, ← hq.e2] at h
    exact h)
  obtain ⟨z0, z1, z2⟩ := (HAm.out w5 HB5.out).2.2.2.c
  obtain ⟨y0, y1, y2, y6, _⟩ := (HAl.out w5 (HAm.out w5 HB5.out).1).2.2.2.c
  have q5 := hw5.symm
  have HR5 := hid0 (below_refl0 w5)
  clear hw5 hB45 hX5 hWa HW4 HOf
  go_upto_region 5 with (go_at_call 7; go_loud ((refine (HOb.out w5 HR5.out).mono ?_; rintro e w6 ⟨gA, cA, gB, cB, rfl, hgot⟩; have HGA := hid0 hgot; clear hgot z0 z1 z2 y0 y1 y2 y6 q5)))
  obtain ⟨w7, hw7⟩ : ∃ w7, w7 = w6.alloc (.cells #[.int .i64 0, .slice (some ⟨gA, 0, none⟩) n1 cA, .slice (some ⟨gB, 0, none⟩) n2 cB] 24) := ⟨_, rfl⟩
  have HX7 : Hid (MBox w7 w6.heap.size 0 (.slice (some ⟨gA, 0, none⟩) n1 cA) (.slice (some ⟨gB, 0, none⟩) n2 cB)) := hid0 (by rw [hw7]; exact MBox.new _ _ _ _)
  have HB67 : Hid (Below w6.heap.size w6 w7) := hid0 (by rw [hw7]; exact below_alloc _ _)
  have HB57 : Hid (Below w5.heap.size w5 w7) := hid0 (Below.later HGA.out.bel HB67.out)
  have HB7 := hid0 (Below.later HB5.out HB57.out)
  obtain ⟨z0, z1, z2⟩ := (HAm.out w7 HB7.out).2.2.2.c
  obtain ⟨y0, y1, y2, y6, _⟩ := (HAl.out w7 (HAm.out w7 HB7.out).1).2.2.2.c
  have q7 := hw7.symm
  clear hw7
  go_upto_region 6 with (go_at_call 7; go_loud ((refine (HOb.out w7 HB57.out).mono ?_; rintro e w8 ⟨gC, cC, gF, cF, rfl, hgot⟩; have HGC := hid0 hgot; clear hgot z0 z1 z2 y0 y1 y2 y6 q7)))
  obtain ⟨w9, hw9⟩ : ∃ w9, w9 = w8.alloc (.cells #[.int .i64 0, .slice (some ⟨gC, 0, none⟩) n1 cC, .slice (some ⟨gF, 0, none⟩) n2 cF] 24) := ⟨_, rfl⟩
  have HX9 : Hid (MBox w9 w8.heap.size 0 (.slice (some ⟨gC, 0, none⟩) n1 cC) (.slice (some ⟨gF, 0, none⟩) n2 cF)) := hid0 (by rw [hw9]; exact MBox.new _ _ _ _)
  have HB89 : Hid (Below w8.heap.size w8 w9) := hid0 (by rw [hw9]; exact below_alloc _ _)
  have HB79 : Hid (Below w7.heap.size w7 w9) := hid0 (Below.later HGC.out.bel HB89.out)
  have HB59 := hid0 (Below.later HB57.out HB79.out)
  obtain ⟨pA, pB, pC, pD, hTwo, hlA, hlC⟩ := two_of HGA.out.ofr HGA.out.bel HB67.out HGC.out.ofr HGC.out.bel
  have HPr : Hid (∀ x ∈ pA ++ pB ++ pC ++ pD, x.2.length ≤ 5000000) := hid0 (fun x hx => by
    have hq := (HBy.out w9 HB59.out).2.2.lst
    have u1 := hq.uniq hlA
    have u2 := hq.uniq hlC
    simp only [List.mem_append] at hx
    rcases hx with ((hx | hx) | hx) | hx
    · have := HS2.out.nr x.2 (by rw [u1.1]; exact List.mem_map_of_mem hx); omega
    · have := HS2.out.or x.2 (by rw [u1.2]; exact List.mem_map_of_mem hx); omega
    · have := HS2.out.nr x.2 (by rw [u2.1]; exact List.mem_map_of_mem hx); omega
    · have := HS2.out.or x.2 (by rw [u2.2]; exact List.mem_map_of_mem hx); omega)
  have HBx : Hid (∀ V : World, Below w9.heap.size w9 V → Below w5.heap.size w5 V ∧ Fou V w5.heap.size n1 n2 w6.heap.size w8.heap.size gA gB gC gF cA cB cC cF pA pB pC pD ∧ (RwA V (some ⟨gA, 0, none⟩) N2 ∧ RwA V (some ⟨gB, 0, none⟩) O2) ∧ RwA V (some ⟨gC, 0, none⟩) N2 ∧ RwA V (some ⟨gF, 0, none⟩) O2) := hid0 (fun V hV => by
    have h1 := Below.later HB89.out hV
    have h2 := Below.later HB67.out (Below.later HB79.out hV)
    exact ⟨Below.later HB59.out hV, ⟨hTwo.later h1, HX7.out.past (Below.later HB79.out hV), HX9.out.past hV⟩, ⟨HGA.out.r1.past h2, HGA.out.r2.past h2⟩, HGC.out.r1.past h1, HGC.out.r2.past h1⟩)
  have HR9 := hid0 (below_refl0 w9)
  obtain ⟨a0, a1, a2⟩ := (HBy.out w9 HB59.out).2.1.c
  obtain ⟨b0, b1, b2⟩ := (HBx.out w9 HR9.out).2.1.b1.c
  obtain ⟨c0, c1, c2⟩ := (HBx.out w9 HR9.out).2.1.b2.c
  have q9 := hw9.symm
  clear hw9 hTwo hlA hlC HX7 HX9 HGA HGC HB67 HB57 HB7 HB89 HB79
  go_upto_region 7 with (go_at_call 8; go_loud ((refine (HSa.out w9 _ _ cA cB HB59.out (HBx.out w9 HR9.out).2.2.1.1 (HBx.out w9 HR9.out).2.2.1.2).mono ?_; rintro e w10 ⟨rfl, hb10⟩; have HB10 := hid0 hb10; clear hb10 a0 a1 a2 b0 b1 b2 c0 c1 c2 q9; obtain ⟨a0, a1, a2⟩ := (HBy.out w10 (HBx.out w10 HB10.out).1).2.1.c; obtain ⟨c0, c1, c2⟩ := (HBx.out w10 HB10.out).2.1.b2.c)))
  go_upto_region 11 with (go_at_call 8; go_loud ((refine (HSa.out w10 _ _ cC cF (HBx.out w10 HB10.out).1 (HBx.out w10 HB10.out).2.2.2.1 (HBx.out w10 HB10.out).2.2.2.2).mono ?_; rintro e w11 ⟨rfl, hb11⟩; have HB11 := hid0 (Below.later HB10.out hb11); clear hb11 a0 a1 a2 c0 c1 c2; obtain ⟨b0, b1, b2⟩ := (HBx.out w11 HB11.out).2.1.b1.c)))
  have HB9 : Hid (∀ V : World, Below w11.heap.size w11 V → Below w9.heap.size w9 V) := hid0 (fun V hV => Below.later HB11.out hV)
  have HR11 := hid0 (below_refl0 w11)
  obtain ⟨t2, ht2⟩ : ∃ t2, t2 = n1 + n2 := ⟨_, rfl⟩
  obtain ⟨t3, ht3⟩ : ∃ t3, t3 = t2 + n1 := ⟨_, rfl⟩
  obtain ⟨t4, ht4⟩ : ∃ t4, t4 = t3 + n2 := ⟨_, rfl⟩
  have k2 : t2 ≤ 2097152 := by omega
  have k3 : t3 ≤ 3145728 := by omega
  have k4 : t4 ≤ 4194304 := by omega
  have j2 : 0 < t2 := by omega
  have j3 : 0 < t3 := by omega
  have j4 : 0 < t4 := by omega
  have HT12 : Hid (n1 = 0 + n1) := hid0 (by omega)
  have HT13 := hid0 ht2
  have HT14 := hid0 ht3
  have HT15 := hid0 ht4
  clear ht2 ht3 ht4
  have HL12 : Hid ((pA.map (·.1)).length = n1 * 1) := hid0 (by rw [List.length_map, bag_len (HBx.out w11 HB11.out).2.1.two.a]; omega)
  have HL13 : Hid ((pB.map (·.1)).length = n2 * 1) := hid0 (by rw [List.length_map, bag_len (HBx.out w11 HB11.out).2.1.two.b]; omega)
  have HL14 : Hid ((pC.map (·.1)).length = n1 * 1) := hid0 (by rw [List.length_map, bag_len (HBx.out w11 HB11.out).2.1.two.c]; omega)
  have HL15 : Hid ((pD.map (·.1)).length = n2 * 1) := hid0 (by rw [List.length_map, bag_len (HBx.out w11 HB11.out).2.1.two.d]; omega)
  have HN12 := hid0 (bag_news (HBx.out w11 HB11.out).2.1.two.a)
  go_upto_region 12 with (at_builtin; go_loud ((refine wpList_append_own_at _ rfl _ _ 22 rfl w11.heap.size 25 i0 (.slice none 0 0) 1 24 Tryd.underlying22 hi hz0 hz1 hz2 rfl (by decide) (.slice none 0 0) 0 [] rfl (World.ownsRow_nil _ _ _ _) ⟨gA, 0, none⟩ n1 cA (pA.map (·.1)) rfl HL12.out HN12.out.1 HN12.out.2 (by unfold maxLen; omega) (by omega) (Nat.le_refl _) ?_; intro vv w12 hown hgrow _ _; obtain ⟨G1, C1, ev, ho, hb⟩ := app_more (World.ownsRow_nil _ _ _ _) HR11.out (Nat.le_refl _) HT12.out (by omega) hown hgrow; subst ev; have HO12 := hid0 ho; have HC12 := hid0 hb; clear ho hb hown hgrow b0 b1 b2)))
  have HN13 := hid0 (bag_news (HBx.out w12 (HB9.out w12 HC12.out)).2.1.two.b)
  have hz13 := HC12.out.size
  obtain ⟨b0, b1, b2⟩ := (HBx.out w12 (HB9.out w12 HC12.out)).2.1.b1.c
  go_upto_region 13 with (at_builtin; go_loud ((refine wpList_append_own_at _ rfl _ _ 22 rfl w11.heap.size 25 i0 (.slice none 0 0) 1 24 Tryd.underlying22 hi hz0 hz1 hz2 rfl (by decide) (.slice (some ⟨G1, 0, none⟩) n1 C1) n1 ([] ++ pA.map (·.1)) rfl HO12.out ⟨gB, 0, none⟩ n2 cB (pB.map (·.1)) rfl HL13.out HN13.out.1 HN13.out.2 (by unfold maxLen; omega) (by omega) hz13 ?_; intro vv w13 hown hgrow _ _; obtain ⟨G2, C2, ev, ho, hb⟩ := app_more HO12.out HC12.out (Nat.le_refl _) HT13.out (by omega) hown hgrow; subst ev; have HO13 := hid0 ho; have HC13 := hid0 hb; clear ho hb hown hgrow b0 b1 b2)))
  have HN14 := hid0 (bag_news (HBx.out w13 (HB9.out w13 HC13.out)).2.1.two.c)
  have hz14 := HC13.out.size
  obtain ⟨b0, b1, b2⟩ := (HBx.out w13 (HB9.out w13 HC13.out)).2.1.b2.c
  go_upto_region 14 with (at_builtin; go_loud ((refine wpList_append_own_at _ rfl _ _ 22 rfl w11.heap.size 25 i0 (.slice none 0 0) 1 24 Tryd.underlying22 hi hz0 hz1 hz2 rfl (by decide) (.slice (some ⟨G2, 0, none⟩) t2 C2) t2 ([] ++ pA.map (·.1) ++ pB.map (·.1)) rfl HO13.out ⟨gC, 0, none⟩ n1 cC (pC.map (·.1)) rfl HL14.out HN14.out.1 HN14.out.2 (by unfold maxLen; omega) (by omega) hz14 ?_; intro vv w14 hown hgrow _ _; obtain ⟨G3, C3, ev, ho, hb⟩ := app_more HO13.out HC13.out (Nat.le_refl _) HT14.out (by omega) hown hgrow; subst ev; have HO14 := hid0 ho; have HC14 := hid0 hb; clear ho hb hown hgrow b0 b1 b2)))
  have HN15 := hid0 (bag_news (HBx.out w14 (HB9.out w14 HC14.out)).2.1.two.d)
  have hz15 := HC14.out.size
  obtain ⟨b0, b1, b2⟩ := (HBx.out w14 (HB9.out w14 HC14.out)).2.1.b2.c
  go_upto_region 15 with (at_builtin; go_loud ((refine wpList_append_own_at _ rfl _ _ 22 rfl w11.heap.size 25 i0 (.slice none 0 0) 1 24 Tryd.underlying22 hi hz0 hz1 hz2 rfl (by decide) (.slice (some ⟨G3, 0, none⟩) t3 C3) t3 ([] ++ pA.map (·.1) ++ pB.map (·.1) ++ pC.map (·.1)) rfl HO14.out ⟨gF, 0, none⟩ n2 cF (pD.map (·.1)) rfl HL15.out HN15.out.1 HN15.out.2 (by unfold maxLen; omega) (by omega) hz15 ?_; intro vv w15 hown hgrow _ _; obtain ⟨G4, C4, ev, ho, hb⟩ := app_more HO14.out HC14.out (Nat.le_refl _) HT15.out (by omega) hown hgrow; subst ev; have HO15 := hid0 ho; have HC15 := hid0 hb; clear ho hb hown hgrow b0 b1 b2)))
  have HD5 := hid0 (HB9.out w15 HC15.out)
  have HSp : Hid (Calls Tryd.prog 9 #[.slice (some ⟨G4, 0, none⟩) t4 C4] w15 fun e w' => e = .returned (.bool true) ∧ Below w5.heap.size w5 w' ∧ Lsts w15 w') := hid0 (split_four (t := t4) (lo := w11.heap.size) (HBx.out w15 HD5.out).2.1 (by have h1 := HB59.out.size; have h2 := HB11.out.size; omega) (by have h1 := HT13.out; have h2 := HT14.out; have h3 := HT15.out; omega) j4 (by omega) HPr.out (by have h := HO15.out; rw [List.nil_append] at h; exact h) (HBx.out w15 HD5.out).1 (HBx.out w15 HD5.out).1.size)
  go_upto_region 16 with (go_at_call 9; go_loud ((refine HSp.out.mono ?_; rintro e w16 ⟨rfl, hb16, hl16⟩; have HB16 := hid0 hb16; have HL16 := hid0 hl16; clear hb16 hl16)))
  obtain ⟨w17, hw17⟩ : ∃ w17, w17 = w16.alloc (.cells #[.slice (some ⟨gA, 0, none⟩) n1 cA, .slice (some ⟨gB, 0, none⟩) n2 cB, .slice (some ⟨gC, 0, none⟩) n1 cC, .slice (some ⟨gF, 0, none⟩) n2 cF] 22) := ⟨_, rfl⟩
  have HOu : Hid (Calls Tryd.prog 10 #[.slice (some ⟨w16.heap.size, 0, none⟩) 4 4] w17 fun e w' => e = .returned (.bool true) ∧ Below w5.heap.size w5 w') := hid0 (outer_four (HBx.out w15 HD5.out).2.1 HL16.out (by omega) (by omega) HB16.out HB16.out.size hw17)
  obtain ⟨b0, b1, b2⟩ := ((HBx.out w15 HD5.out).2.1.b1.lsts HL16.out).c
  obtain ⟨c0, c1, c2⟩ := ((HBx.out w15 HD5.out).2.1.b2.lsts HL16.out).c
  have q17 := hw17.symm
  clear hw17
  go_upto_region 18 with (first
    | (go_at_call 10; go_loud ((refine HOu.out.mono ?_; rintro e w18 ⟨rfl, hb18⟩; have HB18 := hid0 hb18; clear hb18 b0 b1 b2 c0 c1 c2 q17; obtain ⟨z0, z1, z2⟩ := (HAm.out w18 (HBy.out w18 HB18.out).1).2.2.2.c; obtain ⟨y0, y1, y2, y6, _⟩ := (HAl.out w18 (HAm.out w18 (HBy.out w18 HB18.out).1).1).2.2.2.c)))
    | (go_at_call 11; go_loud ((refine (HKe.out w18 (HBy.out w18 HB18.out).1).mono ?_; rintro e w19 ⟨rfl, hb19⟩; have HB19 := hid0 (Below.later HB18.out hb19); clear hb19 z0 z1 z2 y0 y1 y2 y6; obtain ⟨z0, z1, z2⟩ := (HAm.out w19 (HBy.out w19 HB19.out).1).2.2.2.c; obtain ⟨y0, y1, y2, y6, _⟩ := (HAl.out w19 (HAm.out w19 (HBy.out w19 HB19.out).1).1).2.2.2.c))))
  go_upto_region 19 with (go_at_call 7; go_loud ((refine (HOb.out w19 HB19.out).mono ?_; rintro e w20 ⟨gK, cK, gL, cL, rfl, hgot⟩; have HGK := hid0 hgot; clear hgot z0 z1 z2 y0 y1 y2 y6)))
  obtain ⟨w21, hw21⟩ : ∃ w21, w21 = w20.alloc (.cells #[.int .i64 0, .slice (some ⟨gK, 0, none⟩) n1 cK, .slice (some ⟨gL, 0, none⟩) n2 cL] 24) := ⟨_, rfl⟩
  have hX21 : MBox w21 w20.heap.size 0 (.slice (some ⟨gK, 0, none⟩) n1 cK) (.slice (some ⟨gL, 0, none⟩) n2 cL) := by rw [hw21]; exact MBox.new _ _ _ _
  have HB01 : Hid (Below w20.heap.size w20 w21) := hid0 (by rw [hw21]; exact below_alloc _ _)
  have HB21 : Hid (Below w5.heap.size w5 w21) := hid0 (Below.later HB19.out (Below.later HGK.out.bel HB01.out))
  obtain ⟨z0, z1, z2⟩ := hX21.c
  obtain ⟨a0, a1, a2⟩ := (HBy.out w21 HB21.out).2.1.c
  have q21 := hw21.symm
  clear hw21 hX21
  go_wp2_with (go_at_call 8; go_loud ((refine (HSa.out w21 _ _ cK cL HB21.out (HGK.out.r1.past HB01.out) (HGK.out.r2.past HB01.out)).mono ?_; rintro e w22 ⟨rfl, hb22⟩; have HB22 := hid0 (Below.later HB21.out hb22); clear hb22)))
  go_ret
  exact ⟨rfl, (HAl.out _ (HAm.out _ (HBy.out _ HB22.out).1).1).2.2.1⟩
end Go.Proofs.YtjmmckkiicefhaaDoor
