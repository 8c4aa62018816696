/-
  PlOW, PlKbW, PlNaM, PlNbW.
-/
import Derived.Test.YtlkgghbdgjomkaaDoorMtb
import Derived.Test.YtlkgghbdgjomkaaDoorMtc
import Derived.Test.YtlkgghbdgjomkaaDoorMta
import Derived.Test.YtlkgghbdgjomkaaDoorMte
import Derived.Test.YtlkgghbdgjomkaaDoorMtf
namespace Go.Proofs.YtlkgghbdgjomkaaDoor
open Go.RowKit Go.Shelf
theorem infoBool : (Tryd.prog.info? 4).map (fun i => (i.zero, i.size, i.bytes)) = some (some (.bool false), 1, 1) := by kernel_rfl
/-- A list of truths in memory. -/
def OwnB (w : World) (base : Nat) (v : Value) (l : List Bool) : Prop := w.ownsRow base 4 1 v l.length (l.map Value.bool)
theorem OwnB.cells {w : World} {base : Nat} {v : Value} {f : Nat → Bool} {n : Nat} (h : OwnB w base v ((List.range n).map f)) (hn : 0 < n) : ∃ g cap, v = .slice (some ⟨g, 0, none⟩) n cap ∧ base ≤ g ∧ g < w.heap.size ∧ ∀ p, p < n → w.cell? ⟨g, p, none⟩ = some (.bool (f p)) ∧ w.frozen? ⟨g, p, none⟩ = false := by
  unfold OwnB at h
  rw [List.length_map, List.length_range] at h
  have h0 := h
  rcases h.2 with ⟨_, e⟩ | ⟨g, cap, cur, rfl, hg, hr, _⟩
  · omega
  · refine ⟨g, cap, rfl, hg, (World.ownsRow.lt h0 g rfl).2, fun p hp => ⟨?_, by simp [World.frozen?, hr]⟩⟩
    rw [World.ownsRow.cellAt h0 p (by omega)]
    simp [hp]
theorem OwnB.put {w : World} {base g n cap : Nat} {F F' : Nat → Bool} (h : OwnB w base (.slice (some ⟨g, 0, none⟩) n cap) ((List.range n).map F)) (t : Nat) (ht : t < n) (he : ∀ s, ¬ s = t → F' s = F s) (k : Nat) : OwnB ((w.drewN k).setCell ⟨g, t, none⟩ (.bool (F' t))) base (.slice (some ⟨g, 0, none⟩) n cap) ((List.range n).map F') := by
  unfold OwnB at h ⊢
  rw [List.length_map, List.length_range] at h ⊢
  rcases h.2 with ⟨e, _⟩ | ⟨g', cap', cur, e, hg, hr, h1, h2, h3, h4⟩
  · simp at e
  · simp only [Value.slice.injEq, Option.some.injEq, Addr.mk.injEq, and_true, true_and] at e
    obtain ⟨rfl, rfl⟩ := e
    refine ⟨by simp, .inr ⟨g, cap, cur.setIfInBounds t (.bool (F' t)), rfl, hg, heap_setCell_same (w.drewN k) g t cur _ _ hr, h1, h2, by simpa using h3, ?_⟩⟩
    rw [Array.toList_setIfInBounds, List.take_set, h4]
    apply List.ext_getElem (by simp)
    intro j hj1 hj2
    by_cases e : j = t
    · subst e; simp
    · rw [List.getElem_set_ne (fun e' => e e'.symm)]
      simp [he j e]
theorem getD_at {L : List (List Int)} {q : Nat} (hq : q < L.length) : L.getD q [] = L[q] := by rw [List.getD_eq_getElem?_getD, List.getElem?_eq_getElem hq]; rfl
theorem oneOf_at' {n : Nat} {L : List Int} (h : L.all (oneOf n) = true) {k : Nat} (hk : k < L.length) : ∃ p : Nat, p < n ∧ L[k] = (p : Int) := by
  have := (oneOf_iff n L[k]).1 (List.all_eq_true.1 h _ (List.getElem_mem hk))
  exact ⟨(L[k]).toNat, by omega, by omega⟩
theorem insA_at {n : Nat} {Fo : List (List Int)} (h : insA n Fo = true) {q k : Nat} (hq : q < Fo.length) (hk : k < Fo[q].length) : ∃ p : Nat, p < n ∧ Fo[q][k] = (p : Int) :=
  oneOf_at' (List.all_eq_true.1 h _ (List.getElem_mem hq)) hk
theorem partK_at {Fo : List (List Int)} {f : Nat → Bool} {z k p : Nat} (hz : z < Fo.length) (hk : k < Fo[z].length) (hf : f z = true) (hp : Fo[z][k] = (p : Int)) (t : Nat) : partK Fo f z (k + 1) t = (partK Fo f z k t || decide (t = p)) := by
  have e := getD_at hz
  have hd : ((p : Int) == (t : Int)) = decide (t = p) := by
    by_cases h : t = p
    · subst h; simp
    · rw [decide_eq_false h, beq_eq_false_iff_ne]; omega
  unfold partK
  rw [e, List.take_succ_eq_append_getElem hk, hasL_append, hf, Bool.true_and, Bool.true_and, ← Bool.or_assoc, hp]
  simp only [hasL, List.any_cons, List.any_nil, Bool.or_false, hd]
set_option maxRecDepth 10000 in
set_option maxHeartbeats 3200000 in
theorem refMatch_any (aL aF aA aO aW : Option Addr) (cL cF cA cO cW : Nat) (Le Fo : List (List Int)) (Fi La Wd : List Int) (em : Bool) (w : World) (hp : PosA w aL aF aA aO Le Fo Fi La) (hwd : IA w aW Wd) (hwl : Wd.length ≤ 4000000) :
    Calls Tryd.prog 21 #[posV aL aF aA aO cL cF cA cO Le Fo Fi La em, .slice aW Wd.length cW] w fun e w' => e = .returned (.bool (matM Le Fo Fi La em Wd)) ∧ Below w.heap.size w w' := by
  obtain ⟨w0, hw0⟩ : ∃ w0, w0 = w.alloc (.cells #[.slice aL Le.length cL, .slice aF Fi.length cF, .slice aA La.length cA, .slice aO Fo.length cO, .bool em] 25) := ⟨_, rfl⟩
  have hs0 : w0.heap.size = w.heap.size + 1 := by rw [hw0]; simp
  have hB0 : Below w.heap.size w w0 := by rw [hw0]; exact (Below.refl _ _).alloc (Nat.le_refl _) _
  have hX0 : w0.heap[w.heap.size]? = some (.cells #[.slice aL Le.length cL, .slice aF Fi.length cF, .slice aA La.length cA, .slice aO Fo.length cO, .bool em] 25 (0, 0)) := by rw [hw0]; exact heap_alloc_new w _
  have HXX : Hid (∀ V, Below w0.heap.size w0 V → V.cell? ⟨w.heap.size, 0, none⟩ = some (.slice aL Le.length cL) ∧ V.cell? ⟨w.heap.size, 1, none⟩ = some (.slice aF Fi.length cF) ∧ V.cell? ⟨w.heap.size, 2, none⟩ = some (.slice aA La.length cA) ∧ V.cell? ⟨w.heap.size, 3, none⟩ = some (.slice aO Fo.length cO) ∧ V.cell? ⟨w.heap.size, 4, none⟩ = some (.bool em)) := hid0 (fun V hV => row5 ((hV.block _ (by omega)).trans hX0))
  have HB0 := hid0 hB0
  have HS0' := hid0 hs0
  have hp0 := hp.past hB0
  have HP0 := hid0 hp0
  have HW0 := hid0 (hwd.past hB0)
  obtain ⟨x0, x1, x2, x3, x4⟩ := row5 hX0
  have H1 := hid0 (refSound_any aL aF aA aO cL cF cA cO Le Fo Fi La em w0 hp0)
  unfold posV at H1 ⊢
  have hfold := hw0.symm
  clear hw0 hB0 hX0 hp hp0 hwd
  cases g1 : soundP Le.length Fi La Fo with
  | false =>
    rw [g1] at H1
    have HV : Hid (matM Le Fo Fi La em Wd = false) := hid0 (by unfold matM; rw [g1]; rfl)
    clear g1
    go_enter Tryd.func21, Tryd.ntmps21
    go_wp2_with (go_at_call 38; refine H1.out.mono ?_; rintro e w1 ⟨rfl, h⟩; have HB1 := hid0 h; clear h)
    go_ret
    exact ⟨by rw [HV.out]; rfl, Below.later HB0.out HB1.out⟩
  | true =>
  rw [g1] at H1
  cases Wd with
  | nil =>
    have HV : Hid (matM Le Fo Fi La em [] = em) := hid0 (by unfold matM; rw [g1]; rfl)
    clear g1
    go_enter Tryd.func21, Tryd.ntmps21
    go_wp2_with (go_at_call 38; refine H1.out.mono ?_; rintro e w1 ⟨rfl, h⟩; have HB1 := hid0 h; clear h x0 x1 x2 x3 x4; obtain ⟨x0, x1, x2, x3, x4⟩ := HXX.out w1 HB1.out)
    go_ret
    exact ⟨by rw [HV.out]; rfl, Below.later HB0.out HB1.out⟩
  | cons c r =>
    have HV : Hid (matM Le Fo Fi La em (c :: r) = contM Le Fo La (atF Le (fun q => hasL Fi (q : Int)) c) r) := hid0 (by unfold matM; rw [g1, Bool.true_and]; exact run_cont Le Fo La r _ c)
    have HSd : Hid (Fo.length = Le.length ∧ La.all (oneOf Le.length) = true ∧ insA Le.length Fo = true) := hid0 (by
      unfold soundP at g1
      simp only [Bool.and_eq_true, decide_eq_true_eq] at g1
      exact ⟨g1.1.1.1, g1.1.2, g1.2⟩)
    have hln : ¬ ((c :: r).length : Int) = 0 := by simp; omega
    have hlb : (((c :: r).length : Int) == 0) = false := by simp; omega
    obtain ⟨bw, ow, rfl, hbw, dw⟩ := HW0.out.at' 0 (by simp)
    have HDw := hid0 dw
    obtain ⟨i0, hi, hz0, hz1, hz2⟩ := info_parts infoBool
    obtain ⟨nW, hnW⟩ : ∃ nW : Nat, (c :: r).length = nW := ⟨_, rfl⟩
    rw [hnW] at hln hlb hwl ⊢
    have HnW := hid0 hnW
    have hn0 : 0 < nW := by omega
    have hn1 : (0 : Int) < (nW : Int) := by omega
    clear g1 dw hnW
    go_enter Tryd.func21, Tryd.ntmps21
    go_wp2_with (go_at_call 38; refine H1.out.mono ?_; rintro e w1 ⟨rfl, h⟩; have HB1 := hid0 h; clear h x0 x1 x2 x3 x4; obtain ⟨x0, x1, x2, x3, x4⟩ := HXX.out w1 HB1.out)
    go_loopw [6, 7] (fun v i wr => ∃ q : Nat, q ≤ Le.length ∧ i = .int .i64 (q : Int) ∧ Hid (OwnB wr w0.heap.size v ((List.range q).map (atF Le (fun q => hasL Fi (q : Int)) c))) ∧ Hid (Below w0.heap.size w0 wr)) (fun _ i _ => Le.length - (intOf i).toNat)
    case atStart => exact ⟨0, Nat.zero_le _, rfl, hid0 (World.ownsRow_nil _ _ _ _), HB1⟩
    case round =>
      clear x0 x1 x2 x3 x4
      obtain ⟨q, hq, rfl, HO, HB⟩ := hrel
      obtain ⟨x0, x1, x2, x3, x4⟩ := HXX.out wr HB.out
      by_cases hlt : q < Le.length
      · have hqI : (q : Int) < (Le.length : Int) := by omega
        have hqI0 : (0 : Int) ≤ (q : Int) := by omega
        have hlen := HP0.out.l1
        obtain ⟨bq, oq, hae, hbq, a1, c1, d1, hi1⟩ := HP0.out.le.at' q hlt
        have hsl := HP0.out.r1 _ (List.getElem_mem hlt)
        have HE : Hid (atF Le (fun q => hasL Fi (q : Int)) c q = (hasL Fi (q : Int) && hasL Le[q] c)) := hid0 (by rw [atF, holdF, List.getD_eq_getElem?_getD, List.getElem?_eq_getElem hlt]; rfl)
        generalize Le[q] = s at *
        have HSS : Hid (∀ V, Below w0.heap.size w0 V → (V.cell? ⟨w.heap.size, 0, none⟩ = some (.slice aL Le.length cL) ∧ V.cell? ⟨w.heap.size, 1, none⟩ = some (.slice aF Fi.length cF) ∧ V.cell? ⟨w.heap.size, 2, none⟩ = some (.slice aA La.length cA) ∧ V.cell? ⟨w.heap.size, 3, none⟩ = some (.slice aO Fo.length cO) ∧ V.cell? ⟨w.heap.size, 4, none⟩ = some (.bool em)) ∧ V.cell? ⟨bq, oq + q, none⟩ = some (.slice a1 s.length c1) ∧ V.cell? ⟨bw, ow, none⟩ = some (.int .i64 c)) := hid0 (fun V hV => ⟨HXX.out V hV, (hV.cell (p := ⟨bq, oq + q, none⟩) hbq).trans d1, (hV.cell (p := ⟨bw, ow, none⟩) hbw).trans HDw.out⟩)
        have HH1 := hid0 (fun V (hV : Below w0.heap.size w0 V) => refHas_any (q : Int) Fi aF cF V (by have := HP0.out.l2; omega) (HP0.out.fi.past hV))
        have HH2 := hid0 (fun V (hV : Below w0.heap.size w0 V) => refHas_any c s a1 c1 V (by omega) (hi1.past hV))
        have hbd : Below w0.heap.size w0 wr.drew := ⟨HB.out.os, HB.out.tape, HB.out.output, HB.out.size, HB.out.block⟩
        have HS0 := hid0 (HSS.out _ hbd)
        have HBd := hid0 hbd
        have HApp : Hid (∀ b : Bool, hasL Fi (q : Int) = true ∧ hasL s c = b ∨ hasL Fi (q : Int) = false ∧ b = false → ∃ v2 w2, (Builtin.append_ #[61, 61] 61 #[u6, .slice (some ⟨wr.heap.size, 0, none⟩) 1 1]).run Tryd.prog ((wr.alloc (.cells #[.bool b] 4)).drew) = .ok v2 w2 ∧ OwnB w2 w0.heap.size v2 ((List.range (q + 1)).map (atF Le (fun q => hasL Fi (q : Int)) c)) ∧ Below w0.heap.size w0 w2) := hid0 (by
          intro b hb
          have ho := HO.out
          unfold OwnB at ho
          have hsz := HB.out.size
          rw [List.length_map, List.length_range] at ho
          obtain ⟨v2, w2, hrun, hown, hgrow, _, _⟩ := run_append_own_at (P := Tryd.prog) ((wr.alloc (.cells #[.bool b] 4)).drew) w0.heap.size 61 61 4 i0 (.bool false) 1 1 Tryd.underlying61 hi hz0 hz1 hz2 rfl (by decide) u6 q _ (show World.ownsRow (wr.alloc (.cells #[.bool b] 4)).drew _ _ _ _ _ _ from World.ownsRow.alloc (show World.ownsRow wr _ _ _ _ _ _ from ho) _) ⟨wr.heap.size, 0, none⟩ 1 1 [.bool b] rfl (show ∀ j u, [Value.bool b][j]? = some u → (wr.alloc (.cells #[.bool b] 4)).drew.cell? (Addr.add ⟨wr.heap.size, 0, none⟩ j) = some u from cell_one_new wr _ _) (by simp [Value.oneCell']) (by unfold maxLen; omega) (by omega) (by simp; omega)
          refine ⟨v2, w2, hrun, ?_, ?_⟩
          · have hbe : atF Le (fun q => hasL Fi (q : Int)) c q = b := by
              rw [HE.out]
              rcases hb with ⟨h1, h2⟩ | ⟨h1, h2⟩
              · rw [h1, h2, Bool.true_and]
              · rw [h1, h2, Bool.false_and]
            unfold OwnB
            rw [List.length_map, List.length_range, List.range_succ, List.map_append, List.map_append, List.map_singleton, List.map_singleton, hbe]
            exact hown
          · have h1 : Below w0.heap.size w0 ((wr.alloc (.cells #[.bool b] 4)).drew) := ⟨HB.out.os, HB.out.tape, HB.out.output, by simp; omega, fun k hk => (Below.heap_alloc wr _ k (by omega)).trans (HB.out.block k hk)⟩
            exact h1.grown hgrow (by simp; omega) (fun k hk => (World.ownsRow.lt ho k hk).1))
        have HSa : Hid (∀ b : Bool, (((wr.alloc (.cells #[.bool b] 4)).drew).cell? ⟨w.heap.size, 0, none⟩ = some (.slice aL Le.length cL) ∧ ((wr.alloc (.cells #[.bool b] 4)).drew).cell? ⟨w.heap.size, 1, none⟩ = some (.slice aF Fi.length cF) ∧ ((wr.alloc (.cells #[.bool b] 4)).drew).cell? ⟨w.heap.size, 2, none⟩ = some (.slice aA La.length cA) ∧ ((wr.alloc (.cells #[.bool b] 4)).drew).cell? ⟨w.heap.size, 3, none⟩ = some (.slice aO Fo.length cO) ∧ ((wr.alloc (.cells #[.bool b] 4)).drew).cell? ⟨w.heap.size, 4, none⟩ = some (.bool em)) ∧ ((wr.alloc (.cells #[.bool b] 4)).drew).cell? ⟨bq, oq + q, none⟩ = some (.slice a1 s.length c1) ∧ ((wr.alloc (.cells #[.bool b] 4)).drew).cell? ⟨bw, ow, none⟩ = some (.int .i64 c)) := hid0 (fun b => HSS.out _ ⟨HB.out.os, HB.out.tape, HB.out.output, by have := HB.out.size; simp; omega, fun k hk => (Below.heap_alloc wr _ k (by have := HB.out.size; omega)).trans (HB.out.block k hk)⟩)
        subst hae
        clear hbd d1 HE HO
        cases gF : hasL Fi (q : Int) with
        | true =>
          have hh1 : (Fi.any (· == (q : Int))) = true := gF
          simp only [hh1] at HH1
          obtain ⟨b, hb⟩ : ∃ b, hasL s c = b := ⟨_, rfl⟩
          have hh2 : (s.any (· == c)) = b := hb
          simp only [hh2] at HH2
          obtain ⟨v2, w2, hrun, hown, hbel⟩ := HApp.out b (.inl ⟨gF, hb⟩)
          have HSb := hid0 (HSS.out _ hbel)
          have HSa1 := hid0 (HSa.out b)
          have HOw := hid0 hown
          have HBw := hid0 hbel
          have HRun := hid0 hrun
          clear HApp HSa gF hh1 hh2 hb hown hbel hrun
          go_wp2
          refine wp_region_noPanic ?_
          refine wp_region_held_drew (S := (fun V => (V.cell? ⟨w.heap.size, 0, none⟩ = some (.slice (some ⟨bq, oq, none⟩) Le.length cL) ∧ V.cell? ⟨w.heap.size, 1, none⟩ = some (.slice aF Fi.length cF) ∧ V.cell? ⟨w.heap.size, 2, none⟩ = some (.slice aA La.length cA) ∧ V.cell? ⟨w.heap.size, 3, none⟩ = some (.slice aO Fo.length cO) ∧ V.cell? ⟨w.heap.size, 4, none⟩ = some (.bool em)) ∧ V.cell? ⟨bq, oq + q, none⟩ = some (.slice a1 s.length c1) ∧ V.cell? ⟨bw, ow, none⟩ = some (.int .i64 c))) (by kernel_rfl) ?_ (fun hHeld => ?_)
          · exact HS0.out
          refine tkV (i := 0) (d := some 31) (v := ?_) rfl (by kernel_rfl) (by kernel_rfl) (by kernel_rfl) rfl (fun _ _ _ h => h) (by rfl) ?_ (by assumption) ?_
          rotate_left
          · (intro w hSw; (try dsimp only at hSw); (try simp only [List.getElem_toArray, List.getElem_cons_zero]); go_simp; try with_reducible rfl)
          try simp only [Act.put, List.setIfInBounds_toArray, List.set_cons_zero, List.set_cons_succ]
          refine tkV (i := 1) (d := some 32) (v := ?_) rfl (by kernel_rfl) (by kernel_rfl) (by kernel_rfl) rfl (fun _ _ _ h => h) (by rfl) ?_ (by assumption) ?_
          rotate_left
          · (intro w hSw; (try dsimp only at hSw); (try simp only [List.getElem_toArray, List.getElem_cons_zero, List.getElem_cons_succ]); go_simp; try with_reducible rfl)
          try simp only [Act.put, List.setIfInBounds_toArray, List.set_cons_zero, List.set_cons_succ]
          refine tkV (i := 2) (d := some 33) (v := ?_) rfl (by kernel_rfl) (by kernel_rfl) (by kernel_rfl) rfl (fun _ _ _ h => h) (by rfl) ?_ (by assumption) ?_
          rotate_left
          · (intro w hSw; (try dsimp only at hSw); (try simp only [List.getElem_toArray, List.getElem_cons_zero, List.getElem_cons_succ]); go_simp; try with_reducible rfl)
          try simp only [Act.put, List.setIfInBounds_toArray, List.set_cons_zero, List.set_cons_succ]
          refine tkV (i := 3) (d := some 34) (v := ?_) rfl (by kernel_rfl) (by kernel_rfl) (by kernel_rfl) rfl (fun _ _ _ h => h) (by rfl) ?_ (by assumption) ?_
          rotate_left
          · (intro w hSw; (try dsimp only at hSw); (try simp only [List.getElem_toArray, List.getElem_cons_zero, List.getElem_cons_succ]); go_simp; try with_reducible rfl)
          try simp only [Act.put, List.setIfInBounds_toArray, List.set_cons_zero, List.set_cons_succ]
          refine wpAnyH_ready (rs := [4]) (by kernel_rfl) (by simp) (AllReadyH.cons rfl (fun K hK => ?_) AllReadyH.nil)
          try simp only [List.getElem_toArray, List.getElem_cons_zero, List.getElem_cons_succ]
          go_simp
          refine (HH1.out _ HBd.out).mono ?_
          rintro e v1 ⟨rfl, rfl⟩
          go_wp2_with fail
          refine hK.out _ _ ?_ (fun hHeld4 => ?_)
          · assumption
          clear hK K
          (try simp only [Act.put]); (try simp only [List.setIfInBounds_toArray]); (try simp only [List.set_cons_succ]); (try simp only [List.set_cons_zero])
          refine tkV (i := 5) (d := some 36) (v := ?_) rfl (by kernel_rfl) (by kernel_rfl) (by kernel_rfl) rfl (fun _ _ _ h => h) (by rfl) ?_ (by assumption) ?_
          rotate_left
          · (intro w hSw; (try dsimp only at hSw); (try simp only [List.getElem_toArray, List.getElem_cons_zero, List.getElem_cons_succ]); go_simp; try with_reducible rfl)
          try simp only [Act.put, List.setIfInBounds_toArray, List.set_cons_zero, List.set_cons_succ]
          refine tkV (i := 6) (d := some 37) (v := ?_) rfl (by kernel_rfl) (by kernel_rfl) (by kernel_rfl) rfl (fun _ _ _ h => h) (by rfl) ?_ (by assumption) ?_
          rotate_left
          · (intro w hSw; (try dsimp only at hSw); (try simp only [List.getElem_toArray, List.getElem_cons_zero, List.getElem_cons_succ]); go_simp; try with_reducible rfl)
          try simp only [Act.put, List.setIfInBounds_toArray, List.set_cons_zero, List.set_cons_succ]
          refine tkV (i := 7) (d := some 38) (v := ?_) rfl (by kernel_rfl) (by kernel_rfl) (by kernel_rfl) rfl (fun _ _ _ h => h) (by rfl) ?_ (by assumption) ?_
          rotate_left
          · (intro w hSw; (try dsimp only at hSw); (try simp only [List.getElem_toArray, List.getElem_cons_zero, List.getElem_cons_succ]); go_simp; try with_reducible rfl)
          try simp only [Act.put, List.setIfInBounds_toArray, List.set_cons_zero, List.set_cons_succ]
          refine tkV (i := 8) (d := some 39) (v := ?_) rfl (by kernel_rfl) (by kernel_rfl) (by kernel_rfl) rfl (fun _ _ _ h => h) (by rfl) ?_ (by assumption) ?_
          rotate_left
          · (intro w hSw; (try dsimp only at hSw); (try simp only [List.getElem_toArray, List.getElem_cons_zero, List.getElem_cons_succ]); go_simp; try with_reducible rfl)
          try simp only [Act.put, List.setIfInBounds_toArray, List.set_cons_zero, List.set_cons_succ]
          refine tkV (i := 9) (d := some 40) (v := ?_) rfl (by kernel_rfl) (by kernel_rfl) (by kernel_rfl) rfl (fun _ _ _ h => h) (by rfl) ?_ (by assumption) ?_
          rotate_left
          · (intro w hSw; (try dsimp only at hSw); (try simp only [List.getElem_toArray, List.getElem_cons_zero, List.getElem_cons_succ]); go_simp; try with_reducible rfl)
          try simp only [Act.put, List.setIfInBounds_toArray, List.set_cons_zero, List.set_cons_succ]
          refine tkV (i := 10) (d := some 41) (v := ?_) rfl (by kernel_rfl) (by kernel_rfl) (by kernel_rfl) rfl (fun _ _ _ h => h) (by rfl) ?_ (by assumption) ?_
          rotate_left
          · (intro w hSw; (try dsimp only at hSw); (try simp only [List.getElem_toArray, List.getElem_cons_zero, List.getElem_cons_succ]); go_simp; try with_reducible rfl)
          try simp only [Act.put, List.setIfInBounds_toArray, List.set_cons_zero, List.set_cons_succ]
          refine tkV (i := 11) (d := some 42) (v := ?_) rfl (by kernel_rfl) (by kernel_rfl) (by kernel_rfl) rfl (fun _ _ _ h => h) (by rfl) ?_ (by assumption) ?_
          rotate_left
          · (intro w hSw; (try dsimp only at hSw); (try simp only [List.getElem_toArray, List.getElem_cons_zero, List.getElem_cons_succ]); go_simp; try with_reducible rfl)
          try simp only [Act.put, List.setIfInBounds_toArray, List.set_cons_zero, List.set_cons_succ]
          refine tkV (i := 12) (d := some 43) (v := ?_) rfl (by kernel_rfl) (by kernel_rfl) (by kernel_rfl) rfl (fun _ _ _ h => h) (by rfl) ?_ (by assumption) ?_
          rotate_left
          · (intro w hSw; (try dsimp only at hSw); (try simp only [List.getElem_toArray, List.getElem_cons_zero, List.getElem_cons_succ]); go_simp; try with_reducible rfl)
          try simp only [Act.put, List.setIfInBounds_toArray, List.set_cons_zero, List.set_cons_succ]
          refine tkV (i := 13) (d := some 44) (v := ?_) rfl (by kernel_rfl) (by kernel_rfl) (by kernel_rfl) rfl (fun _ _ _ h => h) (by rfl) ?_ (by assumption) ?_
          rotate_left
          · (intro w hSw; (try dsimp only at hSw); (try simp only [List.getElem_toArray, List.getElem_cons_zero, List.getElem_cons_succ]); go_simp; try with_reducible rfl)
          try simp only [Act.put, List.setIfInBounds_toArray, List.set_cons_zero, List.set_cons_succ]
          refine wpAnyH_ready (rs := [14]) (by kernel_rfl) (by simp) (AllReadyH.cons rfl (fun K hK => ?_) AllReadyH.nil)
          try simp only [List.getElem_toArray, List.getElem_cons_zero, List.getElem_cons_succ]
          go_simp
          refine (HH2.out _ HBd.out).mono ?_
          rintro e v1 ⟨rfl, rfl⟩
          go_wp2_with fail
          refine hK.out _ _ ?_ (fun hHeld14 => ?_)
          · assumption
          clear hK K
          (try simp only [Act.put]); (try simp only [List.setIfInBounds_toArray]); (try simp only [List.set_cons_succ]); (try simp only [List.set_cons_zero])
          refine tkV (i := 15) (d := some 46) (v := ?_) rfl (by kernel_rfl) (by kernel_rfl) (by kernel_rfl) rfl (fun _ _ _ h => h) (by rfl) ?_ (by assumption) ?_
          rotate_left
          · (intro w hSw; (try dsimp only at hSw); (try simp only [List.getElem_toArray, List.getElem_cons_zero, List.getElem_cons_succ]); go_simp; try with_reducible rfl)
          try simp only [Act.put, List.setIfInBounds_toArray, List.set_cons_zero, List.set_cons_succ]
          refine wpAnyH_ready (rs := [16]) (by kernel_rfl) (by simp) (AllReadyH.cons rfl (fun K hK => ?_) AllReadyH.nil)
          try simp only [List.getElem_toArray, List.getElem_cons_zero, List.getElem_cons_succ]
          go_simp
          refine hK.out _ _ ?_ (fun hHeld16 => ?_)
          · exact HSa1.out
          clear hK K
          (try simp only [Act.put]); (try simp only [List.setIfInBounds_toArray]); (try simp only [List.set_cons_succ]); (try simp only [List.set_cons_zero])
          refine wpAnyH_ready (rs := [17]) (by kernel_rfl) (by simp) (AllReadyH.cons rfl (fun K hK => ?_) AllReadyH.nil)
          refine step_append_run rfl (.tmp 31) (.tmp 47) 61 rfl _ _ _ _ HRun.out (by simp [Act.eval]) (by simp [Act.eval]) ?_
          refine hK.out _ _ ?_ (fun hHeld17 => ?_)
          · exact HSb.out
          clear hK K
          (try simp only [Act.put]); (try simp only [List.setIfInBounds_toArray]); (try simp only [List.set_cons_succ]); (try simp only [List.set_cons_zero])
          refine tkV (i := 18) (d := some 6) (v := ?_) rfl (by kernel_rfl) (by kernel_rfl) (by kernel_rfl) rfl (fun _ _ _ h => h) (by rfl) ?_ (by assumption) ?_
          rotate_left
          · (intro w hSw; (try dsimp only at hSw); (try simp only [List.getElem_toArray, List.getElem_cons_zero, List.getElem_cons_succ]); go_simp; try with_reducible rfl)
          try simp only [Act.put]
          refine wpAnyH_done (by kernel_rfl) ?_ _
          refine NoPanic.normal ?_
          go_wp2
          go_roundw
          case rel => exact ⟨q + 1, by omega, by go_num, HOw, HBw⟩
          case measure => simp [intOf]; omega
        | false =>
          have hh1 : (Fi.any (· == (q : Int))) = false := gF
          simp only [hh1] at HH1
          obtain ⟨v2, w2, hrun, hown, hbel⟩ := HApp.out false (.inr ⟨gF, rfl⟩)
          have HSb := hid0 (HSS.out _ hbel)
          have HSa1 := hid0 (HSa.out false)
          have HOw := hid0 hown
          have HBw := hid0 hbel
          have HRun := hid0 hrun
          clear HApp HSa gF hh1 hown hbel hrun HH2
          go_wp2
          refine wp_region_noPanic ?_
          refine wp_region_held_drew (S := (fun V => (V.cell? ⟨w.heap.size, 0, none⟩ = some (.slice (some ⟨bq, oq, none⟩) Le.length cL) ∧ V.cell? ⟨w.heap.size, 1, none⟩ = some (.slice aF Fi.length cF) ∧ V.cell? ⟨w.heap.size, 2, none⟩ = some (.slice aA La.length cA) ∧ V.cell? ⟨w.heap.size, 3, none⟩ = some (.slice aO Fo.length cO) ∧ V.cell? ⟨w.heap.size, 4, none⟩ = some (.bool em)) ∧ V.cell? ⟨bq, oq + q, none⟩ = some (.slice a1 s.length c1) ∧ V.cell? ⟨bw, ow, none⟩ = some (.int .i64 c))) (by kernel_rfl) ?_ (fun hHeld => ?_)
          · exact HS0.out
          refine tkV (i := 0) (d := some 31) (v := ?_) rfl (by kernel_rfl) (by kernel_rfl) (by kernel_rfl) rfl (fun _ _ _ h => h) (by rfl) ?_ (by assumption) ?_
          rotate_left
          · (intro w hSw; (try dsimp only at hSw); (try simp only [List.getElem_toArray, List.getElem_cons_zero]); go_simp; try with_reducible rfl)
          try simp only [Act.put, List.setIfInBounds_toArray, List.set_cons_zero, List.set_cons_succ]
          refine tkV (i := 1) (d := some 32) (v := ?_) rfl (by kernel_rfl) (by kernel_rfl) (by kernel_rfl) rfl (fun _ _ _ h => h) (by rfl) ?_ (by assumption) ?_
          rotate_left
          · (intro w hSw; (try dsimp only at hSw); (try simp only [List.getElem_toArray, List.getElem_cons_zero, List.getElem_cons_succ]); go_simp; try with_reducible rfl)
          try simp only [Act.put, List.setIfInBounds_toArray, List.set_cons_zero, List.set_cons_succ]
          refine tkV (i := 2) (d := some 33) (v := ?_) rfl (by kernel_rfl) (by kernel_rfl) (by kernel_rfl) rfl (fun _ _ _ h => h) (by rfl) ?_ (by assumption) ?_
          rotate_left
          · (intro w hSw; (try dsimp only at hSw); (try simp only [List.getElem_toArray, List.getElem_cons_zero, List.getElem_cons_succ]); go_simp; try with_reducible rfl)
          try simp only [Act.put, List.setIfInBounds_toArray, List.set_cons_zero, List.set_cons_succ]
          refine tkV (i := 3) (d := some 34) (v := ?_) rfl (by kernel_rfl) (by kernel_rfl) (by kernel_rfl) rfl (fun _ _ _ h => h) (by rfl) ?_ (by assumption) ?_
          rotate_left
          · (intro w hSw; (try dsimp only at hSw); (try simp only [List.getElem_toArray, List.getElem_cons_zero, List.getElem_cons_succ]); go_simp; try with_reducible rfl)
          try simp only [Act.put, List.setIfInBounds_toArray, List.set_cons_zero, List.set_cons_succ]
          refine wpAnyH_ready (rs := [4]) (by kernel_rfl) (by simp) (AllReadyH.cons rfl (fun K hK => ?_) AllReadyH.nil)
          try simp only [List.getElem_toArray, List.getElem_cons_zero, List.getElem_cons_succ]
          go_simp
          refine (HH1.out _ HBd.out).mono ?_
          rintro e v1 ⟨rfl, rfl⟩
          go_wp2_with fail
          refine hK.out _ _ ?_ (fun hHeld4 => ?_)
          · assumption
          clear hK K
          (try simp only [Act.put]); (try simp only [List.setIfInBounds_toArray]); (try simp only [List.set_cons_succ]); (try simp only [List.set_cons_zero])
          refine tkV (i := 5) (d := some 36) (v := ?_) rfl (by kernel_rfl) (by kernel_rfl) (by kernel_rfl) rfl (fun _ _ _ h => h) (by rfl) ?_ (by assumption) ?_
          rotate_left
          · (intro w hSw; (try dsimp only at hSw); (try simp only [List.getElem_toArray, List.getElem_cons_zero, List.getElem_cons_succ]); go_simp; try with_reducible rfl)
          try simp only [Act.put, List.setIfInBounds_toArray, List.set_cons_zero, List.set_cons_succ]
          refine tkU (i := 6) (d := some 37) rfl (by kernel_rfl) (by kernel_rfl) (by kernel_rfl) rfl (fun _ _ _ h => h) (by rfl) (by assumption) ?_
          try simp only [Act.put, List.setIfInBounds_toArray, List.set_cons_zero, List.set_cons_succ]
          refine tkU (i := 7) (d := some 38) rfl (by kernel_rfl) (by kernel_rfl) (by kernel_rfl) rfl (fun _ _ _ h => h) (by rfl) (by assumption) ?_
          try simp only [Act.put, List.setIfInBounds_toArray, List.set_cons_zero, List.set_cons_succ]
          refine tkU (i := 8) (d := some 39) rfl (by kernel_rfl) (by kernel_rfl) (by kernel_rfl) rfl (fun _ _ _ h => h) (by rfl) (by assumption) ?_
          try simp only [Act.put, List.setIfInBounds_toArray, List.set_cons_zero, List.set_cons_succ]
          refine tkU (i := 9) (d := some 40) rfl (by kernel_rfl) (by kernel_rfl) (by kernel_rfl) rfl (fun _ _ _ h => h) (by rfl) (by assumption) ?_
          try simp only [Act.put, List.setIfInBounds_toArray, List.set_cons_zero, List.set_cons_succ]
          refine tkU (i := 10) (d := some 41) rfl (by kernel_rfl) (by kernel_rfl) (by kernel_rfl) rfl (fun _ _ _ h => h) (by rfl) (by assumption) ?_
          try simp only [Act.put, List.setIfInBounds_toArray, List.set_cons_zero, List.set_cons_succ]
          refine tkU (i := 11) (d := some 42) rfl (by kernel_rfl) (by kernel_rfl) (by kernel_rfl) rfl (fun _ _ _ h => h) (by rfl) (by assumption) ?_
          try simp only [Act.put, List.setIfInBounds_toArray, List.set_cons_zero, List.set_cons_succ]
          refine tkU (i := 12) (d := some 43) rfl (by kernel_rfl) (by kernel_rfl) (by kernel_rfl) rfl (fun _ _ _ h => h) (by rfl) (by assumption) ?_
          try simp only [Act.put, List.setIfInBounds_toArray, List.set_cons_zero, List.set_cons_succ]
          refine tkU (i := 13) (d := some 44) rfl (by kernel_rfl) (by kernel_rfl) (by kernel_rfl) rfl (fun _ _ _ h => h) (by rfl) (by assumption) ?_
          try simp only [Act.put, List.setIfInBounds_toArray, List.set_cons_zero, List.set_cons_succ]
          refine wpAnyH_ready (rs := [14]) (by kernel_rfl) (by simp) (AllReadyH.cons rfl (fun K hK => ?_) AllReadyH.nil)
          try simp only [List.getElem_toArray, List.getElem_cons_zero, List.getElem_cons_succ]
          go_simp
          refine hK.out _ _ ?_ (fun hHeld14 => ?_)
          · assumption
          clear hK K
          (try simp only [Act.put]); (try simp only [List.setIfInBounds_toArray]); (try simp only [List.set_cons_succ]); (try simp only [List.set_cons_zero])
          refine tkV (i := 15) (d := some 46) (v := ?_) rfl (by kernel_rfl) (by kernel_rfl) (by kernel_rfl) rfl (fun _ _ _ h => h) (by rfl) ?_ (by assumption) ?_
          rotate_left
          · (intro w hSw; (try dsimp only at hSw); (try simp only [List.getElem_toArray, List.getElem_cons_zero, List.getElem_cons_succ]); go_simp; try with_reducible rfl)
          try simp only [Act.put, List.setIfInBounds_toArray, List.set_cons_zero, List.set_cons_succ]
          refine wpAnyH_ready (rs := [16]) (by kernel_rfl) (by simp) (AllReadyH.cons rfl (fun K hK => ?_) AllReadyH.nil)
          try simp only [List.getElem_toArray, List.getElem_cons_zero, List.getElem_cons_succ]
          go_simp
          refine hK.out _ _ ?_ (fun hHeld16 => ?_)
          · exact HSa1.out
          clear hK K
          (try simp only [Act.put]); (try simp only [List.setIfInBounds_toArray]); (try simp only [List.set_cons_succ]); (try simp only [List.set_cons_zero])
          refine wpAnyH_ready (rs := [17]) (by kernel_rfl) (by simp) (AllReadyH.cons rfl (fun K hK => ?_) AllReadyH.nil)
          refine step_append_run rfl (.tmp 31) (.tmp 47) 61 rfl _ _ _ _ HRun.out (by simp [Act.eval]) (by simp [Act.eval]) ?_
          refine hK.out _ _ ?_ (fun hHeld17 => ?_)
          · exact HSb.out
          clear hK K
          (try simp only [Act.put]); (try simp only [List.setIfInBounds_toArray]); (try simp only [List.set_cons_succ]); (try simp only [List.set_cons_zero])
          refine tkV (i := 18) (d := some 6) (v := ?_) rfl (by kernel_rfl) (by kernel_rfl) (by kernel_rfl) rfl (fun _ _ _ h => h) (by rfl) ?_ (by assumption) ?_
          rotate_left
          · (intro w hSw; (try dsimp only at hSw); (try simp only [List.getElem_toArray, List.getElem_cons_zero, List.getElem_cons_succ]); go_simp; try with_reducible rfl)
          try simp only [Act.put]
          refine wpAnyH_done (by kernel_rfl) ?_ _
          refine NoPanic.normal ?_
          go_wp2
          go_roundw
          case rel => exact ⟨q + 1, by omega, by go_num, HOw, HBw⟩
          case measure => simp [intOf]; omega
      · have hqI : ¬ (q : Int) < (Le.length : Int) := by omega
        have HO1 : Hid (OwnB wr w0.heap.size u6 ((List.range Le.length).map (atF Le (fun q => hasL Fi (q : Int)) c))) := hid0 (by have := HO.out; rwa [show q = Le.length by omega] at this)
        have HBs := HB
        clear HO HB1 HDw
        go_wp2
        go_loopw [6, 8] (fun v i wr => ∃ (k : Nat) (f : Nat → Bool), 1 ≤ k ∧ k ≤ nW ∧ i = .int .i64 (k : Int) ∧ Hid (OwnB wr w0.heap.size v ((List.range Le.length).map f)) ∧ Hid (contM Le Fo La f ((c :: r).drop k) = contM Le Fo La (atF Le (fun q => hasL Fi (q : Int)) c) r) ∧ Hid (Below w0.heap.size w0 wr)) (fun _ i _ => nW - (intOf i).toNat)
        case atStart => exact ⟨1, _, Nat.le_refl _, by omega, rfl, HO1, hid0 rfl, HBs⟩
        case round =>
          clear x0 x1 x2 x3 x4 HO1 HBs HB
          obtain ⟨i, f, hi1, hin, rfl, HN, HC, HB⟩ := hrel
          obtain ⟨W2, rfl⟩ : ∃ x, x = wr := ⟨wr, rfl⟩
          obtain ⟨x0, x1, x2, x3, x4⟩ := HXX.out W2 HB.out
          by_cases hilt : i < nW
          · have hiI : (i : Int) < (nW : Int) := by omega
            have hiI0 : (0 : Int) ≤ (i : Int) := by omega
            have hil : i < (c :: r).length := by rw [HnW.out]; exact hilt
            obtain ⟨bw', ow', hwe, hbw', dwi⟩ := HW0.out.at' i hil
            simp only [Option.some.injEq, Addr.mk.injEq, and_true] at hwe
            obtain ⟨rfl, rfl⟩ := hwe
            have HCd : Hid (contM Le Fo La (atF Le (nextF Fo f) (c :: r)[i]) ((c :: r).drop (i + 1)) = contM Le Fo La (atF Le (fun q => hasL Fi (q : Int)) c) r) := hid0 (by rw [← HC.out, List.drop_eq_getElem_cons hil]; rfl)
            generalize (c :: r)[i] = d at *
            have HDi := hid0 dwi
            clear dwi HC hil
            go_wp2
            go_loopw [9, 10] (fun v j w3 => ∃ q : Nat, q ≤ Le.length ∧ j = .int .i64 (q : Int) ∧ Hid (OwnB w3 W2.heap.size v (List.replicate q false)) ∧ Hid (Below W2.heap.size W2 w3)) (fun _ j _ => Le.length - (intOf j).toNat)
            case atStart => exact ⟨0, Nat.zero_le _, rfl, hid0 (World.ownsRow_nil _ _ _ _), hid0 (Below.refl _ _)⟩
            case round =>
              clear x0 x1 x2 x3 x4
              obtain ⟨q, hq, rfl, HO3, HB3⟩ := hrel
              obtain ⟨x0, x1, x2, x3, x4⟩ := HXX.out wr (Below.later HB.out HB3.out)
              by_cases hqlt : q < Le.length
              · have hqI : (q : Int) < (Le.length : Int) := by omega
                have hlen := HP0.out.l1
                have ho3 := HO3.out
                unfold OwnB at ho3
                rw [List.length_replicate] at ho3
                have HOO := hid0 ho3
                have hs3 := HB3.out.size
                clear ho3 HO3
                go_wp2_with (at_builtin; go_loud ((
                  refine wpList_append_own_at _ rfl _ _ 61 rfl W2.heap.size 4 i0 (.bool false) 1 1 Tryd.underlying61 hi hz0 hz1 hz2 rfl (by decide) _ q _ rfl (World.ownsRow.alloc HOO.out _) ⟨wr.heap.size, 0, none⟩ 1 1 [.bool false] rfl rfl (cell_one_new _ _ _) (by simp [Value.oneCell']) (by unfold maxLen; omega) (by omega) (by simp; omega) ?_
                  intro v4 w4 hown4 hgrow4 _ _
                  have hb4 : Below W2.heap.size W2 w4 := (HB3.out.alloc hs3 _).grown hgrow4 (by simp; omega) (fun k hk => (World.ownsRow.lt HOO.out k hk).1)
                  have HO4 : Hid (OwnB w4 W2.heap.size v4 (List.replicate (q + 1) false)) := hid0 (by unfold OwnB; rw [List.length_replicate, List.replicate_succ', List.map_append]; exact hown4)
                  have HB4 := hid0 hb4
                  clear hown4 hgrow4 hb4)))
                go_roundw
                case rel => exact ⟨q + 1, by omega, by go_num, HO4, HB4⟩
                case measure => simp [intOf]; omega
              · have hqI : ¬ (q : Int) < (Le.length : Int) := by omega
                have HO4 : Hid (OwnB wr W2.heap.size u9 ((List.range Le.length).map (fun t => partF Fo f 0 t && holdF Le d t))) := hid0 (by
                  have h := HO3.out
                  have e : (List.range Le.length).map (fun t => partF Fo f 0 t && holdF Le d t) = List.replicate q false := by
                    rw [show q = Le.length by omega]
                    apply List.ext_getElem (by simp)
                    intro j _ _
                    simp [partF_zero]
                  rw [e]; exact h)
                clear HO3
                go_wp2
                go_loopw [11] (fun j w4 => ∃ q : Nat, q ≤ Le.length ∧ j = .int .i64 (q : Int) ∧ Hid (OwnB w4 W2.heap.size u9 ((List.range Le.length).map (fun t => partF Fo f q t && holdF Le d t))) ∧ Hid (Below W2.heap.size W2 w4)) (fun j _ => Le.length - (intOf j).toNat)
                case atStart => exact ⟨0, Nat.zero_le _, rfl, HO4, HB3⟩
                case round =>
                  clear x0 x1 x2 x3 x4 HO4 HB3
                  obtain ⟨z, hz, rfl, HO5, HB5⟩ := hrel
                  obtain ⟨x0, x1, x2, x3, x4⟩ := HXX.out wr (Below.later HB.out HB5.out)
                  by_cases hzlt : z < Le.length
                  · have hzI : (z : Int) < (Le.length : Int) := by omega
                    have hzI0 : (0 : Int) ≤ (z : Int) := by omega
                    have hlen := HP0.out.l1
                    have hzF : z < Fo.length := by rw [HSd.out.1]; exact hzlt
                    have hzFI : (z : Int) < (Fo.length : Int) := by omega
                    obtain ⟨bO, oO, hOe, hbO, a5, c5, d5, hi5⟩ := HP0.out.fo.at' z hzF
                    have hr5 := HP0.out.r4 _ (List.getElem_mem hzF)
                    have HG := hid0 (getD_at hzF)
                    have HIn := hid0 (fun k (hk : k < Fo[z].length) => insA_at HSd.out.2.2 hzF hk)
                    have HK0 : Hid (OwnB wr W2.heap.size u9 ((List.range Le.length).map (fun t => partK Fo f z 0 t && holdF Le d t))) := hid0 (by have := HO5.out; simpa only [partK_zero] using this)
                    obtain ⟨g6, c6, h6e, _, h6l, h6c⟩ := HN.out.cells (by omega)
                    have d6 := (h6c z hzlt).1
                    clear HO5 h6c
                    subst hOe
                    subst h6e
                    go_wp2
                    go_loopw [12] (fun j w4 => ∃ k : Nat, k ≤ Fo[z].length ∧ j = .int .i64 (k : Int) ∧ Hid (OwnB w4 W2.heap.size u9 ((List.range Le.length).map (fun t => partK Fo f z k t && holdF Le d t))) ∧ Hid (Below W2.heap.size W2 w4)) (fun j _ => Fo[z].length - (intOf j).toNat)
                    case atStart => exact ⟨0, Nat.zero_le _, rfl, HK0, HB5⟩
                    case round =>
                      clear x0 x1 x2 x3 x4 HK0 HB5
                      obtain ⟨k, hk, rfl, HK, HB5⟩ := hrel
                      have HBx := hid0 (Below.later HB.out HB5.out)
                      obtain ⟨x0, x1, x2, x3, x4⟩ := HXX.out wr HBx.out
                      have e6 : wr.cell? ⟨g6, z, none⟩ = some (.bool (f z)) := (HB5.out.cell (p := ⟨g6, z, none⟩) h6l).trans d6
                      have e5 : wr.cell? ⟨bO, oO + z, none⟩ = some (.slice a5 Fo[z].length c5) := (HBx.out.cell (p := ⟨bO, oO + z, none⟩) hbO).trans d5
                      cases hfz : f z with
                      | false =>
                        rw [hfz] at e6
                        have HO7 : Hid (OwnB wr W2.heap.size u9 ((List.range Le.length).map (fun t => partF Fo f (z + 1) t && holdF Le d t))) := hid0 (by have h := HK.out; simpa only [partK_off Fo f z k _ hfz] using h)
                        clear HK
                        go_wp2
                        go_roundw
                        case rel => exact ⟨z + 1, by omega, by go_num, HO7, HB5⟩
                        case measure => simp [intOf]; omega
                      | true =>
                      rw [hfz] at e6
                      by_cases hkl : k < Fo[z].length
                      · have hkI : (k : Int) < (Fo[z].length : Int) := by omega
                        have hkI0 : (0 : Int) ≤ (k : Int) := by omega
                        obtain ⟨p, hp, hpk⟩ := HIn.out k hkl
                        obtain ⟨b7, o7, h7e, hb7, d7⟩ := hi5.at' k hkl
                        rw [hpk] at d7
                        have e7 := (HBx.out.cell (p := ⟨b7, o7 + k, none⟩) hb7).trans d7
                        obtain ⟨g9, c9, h9e, h9b, h9l, h9c⟩ := HK.out.cells (by omega)
                        obtain ⟨e9, f9⟩ := h9c p hp
                        obtain ⟨b8, o8, h8e, hb8, a8, c8, d8, hi8⟩ := HP0.out.le.at' p hp
                        have e8 := (HBx.out.cell (p := ⟨b8, o8 + p, none⟩) hb8).trans d8
                        have eW := (HBx.out.cell (p := ⟨bw, ow + i, none⟩) hbw').trans HDi.out
                        have hpI : (p : Int) < (Le.length : Int) := by omega
                        have hpI0 : (0 : Int) ≤ (p : Int) := by omega
                        have hl8 := HP0.out.r1 _ (List.getElem_mem hp)
                        have hbd : Below w0.heap.size w0 wr.drew := ⟨HBx.out.os, HBx.out.tape, HBx.out.output, HBx.out.size, HBx.out.block⟩
                        have HH := hid0 (refHas_any d Le[p] a8 c8 wr.drew (by omega) (hi8.past hbd))
                        have hKp := fun t => partK_at (t := t) hzF hkl hfz hpk
                        have hhold : holdF Le d p = Le[p].any (· == d) := by rw [holdF, getD_at hp]; rfl
                        subst h9e
                        have HO8 := hid0 (fun n => OwnB.put (F' := fun t => partK Fo f z (k + 1) t && holdF Le d t) HK.out p hp (fun s hs => by show (partK Fo f z (k + 1) s && holdF Le d s) = _; rw [hKp s, decide_eq_false hs, Bool.or_false]) n)
                        have hFp : (partK Fo f z (k + 1) p && holdF Le d p) = Le[p].any (· == d) := by rw [hKp p, decide_eq_true rfl, Bool.or_true, Bool.true_and, hhold]
                        have HB8 : Hid (∀ n u, Below W2.heap.size W2 ((wr.drewN n).setCell ⟨g9, p, none⟩ u)) := hid0 (fun n u => (show Below W2.heap.size W2 (wr.drewN n) from ⟨HB5.out.os, HB5.out.tape, HB5.out.output, HB5.out.size, HB5.out.block⟩).setCell (p := ⟨g9, p, none⟩) h9b u)
                        have HFp := hid0 hFp
                        have HHo := hid0 hhold
                        subst h7e
                        subst h8e
                        clear h9c hpk d7 d8 hbd hKp hFp hhold HK hi5 hi8
                        generalize Le[p].any (· == d) = bh at *
                        cases hb0 : (partK Fo f z k p && holdF Le d p) with
                        | true =>
                          rw [hb0] at e9
                          have hbh : bh = true := by
                            simp only [Bool.and_eq_true] at hb0
                            rw [← HHo.out]; exact hb0.2
                          have HFt : Hid ((partK Fo f z (k + 1) p && holdF Le d p) = true) := hid0 (by rw [HFp.out, hbh])
                          have HS3 : Hid (wr.drew.cell? ⟨g9, p, none⟩ = some (.bool true)) := hid0 e9
                          have HS4 : Hid ((wr.drew.setCell ⟨g9, p, none⟩ (.bool true)).cell? ⟨g9, p, none⟩ = some (.bool true)) := hid0 (by
                            obtain ⟨_, _, h9e, _, _, h9c⟩ := (HO8.out 1).cells (by omega)
                            cases h9e
                            have h := (h9c p hp).1
                            rw [HFt.out] at h
                            exact h)
                          clear hb0 hbh HH
                          go_wp2
                          refine wp_region_noPanic ?_
                          refine wp_region_held_drew (S := (fun V => V.cell? ⟨g9, p, none⟩ = some (.bool true))) (by kernel_rfl) ?_ (fun hHeld => ?_)
                          · exact HS3.out
                          refine tkV (i := 0) (d := some 96) (v := ?_) rfl (by kernel_rfl) (by kernel_rfl) (by kernel_rfl) rfl (fun _ _ _ h => h) (by rfl) ?_ (by assumption) ?_
                          rotate_left
                          · (intro w hSw; (try dsimp only at hSw); (try simp only [List.getElem_toArray, List.getElem_cons_zero]); go_simp; try with_reducible rfl)
                          try simp only [Act.put, List.setIfInBounds_toArray, List.set_cons_zero, List.set_cons_succ]
                          refine tkV (i := 1) (d := some 97) (v := ?_) rfl (by kernel_rfl) (by kernel_rfl) (by kernel_rfl) rfl (fun _ _ _ h => h) (by rfl) ?_ (by assumption) ?_
                          rotate_left
                          · (intro w hSw; (try dsimp only at hSw); (try simp only [List.getElem_toArray, List.getElem_cons_zero, List.getElem_cons_succ]); go_simp; try with_reducible rfl)
                          try simp only [Act.put, List.setIfInBounds_toArray, List.set_cons_zero, List.set_cons_succ]
                          refine tkV (i := 2) (d := some 98) (v := ?_) rfl (by kernel_rfl) (by kernel_rfl) (by kernel_rfl) rfl (fun _ _ _ h => h) (by rfl) ?_ (by assumption) ?_
                          rotate_left
                          · (intro w hSw; (try dsimp only at hSw); (try simp only [List.getElem_toArray, List.getElem_cons_zero, List.getElem_cons_succ]); go_simp; try with_reducible rfl)
                          try simp only [Act.put, List.setIfInBounds_toArray, List.set_cons_zero, List.set_cons_succ]
                          refine tkV (i := 3) (d := some 99) (v := ?_) rfl (by kernel_rfl) (by kernel_rfl) (by kernel_rfl) rfl (fun _ _ _ h => h) (by rfl) ?_ (by assumption) ?_
                          rotate_left
                          · (intro w hSw; (try dsimp only at hSw); (try simp only [List.getElem_toArray, List.getElem_cons_zero, List.getElem_cons_succ]); go_simp; try with_reducible rfl)
                          try simp only [Act.put, List.setIfInBounds_toArray, List.set_cons_zero, List.set_cons_succ]
                          refine tkV (i := 4) (d := some 100) (v := ?_) rfl (by kernel_rfl) (by kernel_rfl) (by kernel_rfl) rfl (fun _ _ _ h => h) (by rfl) ?_ (by assumption) ?_
                          rotate_left
                          · (intro w hSw; (try dsimp only at hSw); (try simp only [List.getElem_toArray, List.getElem_cons_zero, List.getElem_cons_succ]); go_simp; try with_reducible rfl)
                          try simp only [Act.put, List.setIfInBounds_toArray, List.set_cons_zero, List.set_cons_succ]
                          refine tkV (i := 5) (d := some 101) (v := ?_) rfl (by kernel_rfl) (by kernel_rfl) (by kernel_rfl) rfl (fun _ _ _ h => h) (by rfl) ?_ (by assumption) ?_
                          rotate_left
                          · (intro w hSw; (try dsimp only at hSw); (try simp only [List.getElem_toArray, List.getElem_cons_zero, List.getElem_cons_succ]); go_simp; try with_reducible rfl)
                          try simp only [Act.put, List.setIfInBounds_toArray, List.set_cons_zero, List.set_cons_succ]
                          refine tkV (i := 6) (d := some 102) (v := ?_) rfl (by kernel_rfl) (by kernel_rfl) (by kernel_rfl) rfl (fun _ _ _ h => h) (by rfl) ?_ (by assumption) ?_
                          rotate_left
                          · (intro w hSw; (try dsimp only at hSw); (try simp only [List.getElem_toArray, List.getElem_cons_zero, List.getElem_cons_succ]); go_simp; try with_reducible rfl)
                          try simp only [Act.put, List.setIfInBounds_toArray, List.set_cons_zero, List.set_cons_succ]
                          refine tkU (i := 7) (d := some 103) rfl (by kernel_rfl) (by kernel_rfl) (by kernel_rfl) rfl (fun _ _ _ h => h) (by rfl) (by assumption) ?_
                          try simp only [Act.put, List.setIfInBounds_toArray, List.set_cons_zero, List.set_cons_succ]
                          refine tkU (i := 8) (d := some 104) rfl (by kernel_rfl) (by kernel_rfl) (by kernel_rfl) rfl (fun _ _ _ h => h) (by rfl) (by assumption) ?_
                          try simp only [Act.put, List.setIfInBounds_toArray, List.set_cons_zero, List.set_cons_succ]
                          refine tkU (i := 9) (d := some 105) rfl (by kernel_rfl) (by kernel_rfl) (by kernel_rfl) rfl (fun _ _ _ h => h) (by rfl) (by assumption) ?_
                          try simp only [Act.put, List.setIfInBounds_toArray, List.set_cons_zero, List.set_cons_succ]
                          refine tkU (i := 10) (d := some 106) rfl (by kernel_rfl) (by kernel_rfl) (by kernel_rfl) rfl (fun _ _ _ h => h) (by rfl) (by assumption) ?_
                          try simp only [Act.put, List.setIfInBounds_toArray, List.set_cons_zero, List.set_cons_succ]
                          refine tkU (i := 11) (d := some 107) rfl (by kernel_rfl) (by kernel_rfl) (by kernel_rfl) rfl (fun _ _ _ h => h) (by rfl) (by assumption) ?_
                          try simp only [Act.put, List.setIfInBounds_toArray, List.set_cons_zero, List.set_cons_succ]
                          refine tkU (i := 12) (d := some 108) rfl (by kernel_rfl) (by kernel_rfl) (by kernel_rfl) rfl (fun _ _ _ h => h) (by rfl) (by assumption) ?_
                          try simp only [Act.put, List.setIfInBounds_toArray, List.set_cons_zero, List.set_cons_succ]
                          refine tkU (i := 13) (d := some 109) rfl (by kernel_rfl) (by kernel_rfl) (by kernel_rfl) rfl (fun _ _ _ h => h) (by rfl) (by assumption) ?_
                          try simp only [Act.put, List.setIfInBounds_toArray, List.set_cons_zero, List.set_cons_succ]
                          refine tkU (i := 14) (d := some 110) rfl (by kernel_rfl) (by kernel_rfl) (by kernel_rfl) rfl (fun _ _ _ h => h) (by rfl) (by assumption) ?_
                          try simp only [Act.put, List.setIfInBounds_toArray, List.set_cons_zero, List.set_cons_succ]
                          refine tkU (i := 15) (d := some 111) rfl (by kernel_rfl) (by kernel_rfl) (by kernel_rfl) rfl (fun _ _ _ h => h) (by rfl) (by assumption) ?_
                          try simp only [Act.put, List.setIfInBounds_toArray, List.set_cons_zero, List.set_cons_succ]
                          refine wpAnyH_ready (rs := [16]) (by kernel_rfl) (by simp) (AllReadyH.cons rfl (fun K hK => ?_) AllReadyH.nil)
                          try simp only [List.getElem_toArray, List.getElem_cons_zero, List.getElem_cons_succ]
                          go_simp
                          refine hK.out _ _ ?_ (fun hHeld16 => ?_)
                          · assumption
                          clear hK K
                          (try simp only [Act.put]); (try simp only [List.setIfInBounds_toArray]); (try simp only [List.set_cons_succ]); (try simp only [List.set_cons_zero])
                          refine tkV (i := 17) (d := some 113) (v := .bool true) rfl (by kernel_rfl) (by kernel_rfl) (by kernel_rfl) rfl (fun _ _ _ h => h) (by rfl) ?_ (by assumption) ?_
                          · (intro w hSw; (try dsimp only at hSw); (try simp only [List.getElem_toArray, List.getElem_cons_zero, List.getElem_cons_succ]); go_simp; try with_reducible rfl)
                          try simp only [Act.put, List.setIfInBounds_toArray, List.set_cons_zero, List.set_cons_succ]
                          refine tkV (i := 18) (d := some 114) (v := ?_) rfl (by kernel_rfl) (by kernel_rfl) (by kernel_rfl) rfl (fun _ _ _ h => h) (by rfl) ?_ (by assumption) ?_
                          rotate_left
                          · (intro w hSw; (try dsimp only at hSw); (try simp only [List.getElem_toArray, List.getElem_cons_zero, List.getElem_cons_succ]); go_simp; try with_reducible rfl)
                          try simp only [Act.put, List.setIfInBounds_toArray, List.set_cons_zero, List.set_cons_succ]
                          refine wpAnyH_ready (rs := [19]) (by kernel_rfl) (by simp) (AllReadyH.cons rfl (fun K hK => ?_) AllReadyH.nil)
                          try simp only [List.getElem_toArray, List.getElem_cons_zero, List.getElem_cons_succ]
                          go_simp
                          refine hK.out _ _ ?_ (fun hHeld19 => ?_)
                          · exact HS4.out
                          clear hK K
                          (try simp only [Act.put]); (try simp only [List.setIfInBounds_toArray]); (try simp only [List.set_cons_succ]); (try simp only [List.set_cons_zero])
                          refine wpAnyH_done (by kernel_rfl) ?_ _
                          refine NoPanic.normal ?_
                          go_wp2
                          go_roundw
                          case rel => exact ⟨k + 1, by omega, by go_num, hid0 (by have h := HO8.out 1; rw [HFt.out] at h; exact h), hid0 (HB8.out 1 _)⟩
                          case measure => simp [intOf]; omega
                        | false =>
                          rw [hb0] at e9
                          clear hb0
                          go_wp2
                          go_region_with (go_at_call 44; refine HH.out.mono ?_; rintro e v1 ⟨rfl, rfl⟩)
                          all_goals (
                            go_wp2
                            go_roundw
                            case rel => exact ⟨k + 1, by omega, by go_num, hid0 (by have h := HO8.out 1; rw [HFp.out] at h; exact h), hid0 (HB8.out 1 _)⟩
                            case measure => simp [intOf]; omega)
                      · have hkI : ¬ (k : Int) < (Fo[z].length : Int) := by omega
                        have HO7 : Hid (OwnB wr W2.heap.size u9 ((List.range Le.length).map (fun t => partF Fo f (z + 1) t && holdF Le d t))) := hid0 (by have h := HK.out; simpa only [fun t => partK_end Fo f z k t (by rw [HG.out]; omega)] using h)
                        clear HK
                        go_wp2
                        go_roundw
                        case rel => exact ⟨z + 1, by omega, by go_num, HO7, HB5⟩
                        case measure => simp [intOf]; omega
                  · have hzI : ¬ (z : Int) < (Le.length : Int) := by omega
                    have HO6 : Hid (OwnB wr w0.heap.size u9 ((List.range Le.length).map (atF Le (nextF Fo f) d))) := hid0 (by
                      have h := HO5.out
                      rw [show z = Fo.length by have := HSd.out.1; omega] at h
                      exact owns_lower h HB.out.size)
                    have HB6 := hid0 (Below.later HB.out HB5.out)
                    clear HO5
                    go_wp2
                    go_roundw
                    case rel => exact ⟨i + 1, _, by omega, by omega, by go_num, HO6, HCd, HB6⟩
                    case measure => simp [intOf]; omega
          · have hiI : ¬ (i : Int) < (nW : Int) := by omega
            have HCe : Hid (lastF La f = contM Le Fo La (atF Le (fun q => hasL Fi (q : Int)) c) r) := hid0 (by rw [← HC.out, List.drop_of_length_le (by rw [HnW.out]; omega)]; rfl)
            clear HC
            go_wp2
            go_loopw [14] (fun j w3 => ∃ k : Nat, k ≤ La.length ∧ j = .int .i64 (k : Int) ∧ w3 = W2 ∧ Hid (lastF (La.drop k) f = lastF La f)) (fun j _ => La.length - (intOf j).toNat)
            case atStart => exact ⟨0, Nat.zero_le _, rfl, rfl, hid0 rfl⟩
            case round =>
              obtain ⟨k, hk, rfl, rfl, HL⟩ := hrel
              by_cases hklt : k < La.length
              · have hkI : (k : Int) < (La.length : Int) := by omega
                have hkI0 : (0 : Int) ≤ (k : Int) := by omega
                have hl3 := HP0.out.l3
                obtain ⟨p, hp, hpk⟩ := oneOf_at' HSd.out.2.1 hklt
                obtain ⟨bA, oA, hAe, hbA, dA⟩ := HP0.out.la.at' k hklt
                rw [hpk] at dA
                have dA2 := (HB.out.cell (p := ⟨bA, oA + k, none⟩) hbA).trans dA
                obtain ⟨g, cap, hge, _, _, hcell⟩ := HN.out.cells (by omega)
                have dn := (hcell p hp).1
                have HLs : Hid (lastF (La.drop k) f = (f p || lastF (La.drop (k + 1)) f)) := hid0 (by rw [List.drop_eq_getElem_cons hklt, lastF, List.any_cons, hpk]; rfl)
                have hpI : (p : Int) < (Le.length : Int) := by omega
                have hpI0 : (0 : Int) ≤ (p : Int) := by omega
                subst hAe
                subst hge
                clear hcell dA hpk
                cases hfp : f p with
                | true =>
                  rw [hfp] at dn
                  have HR : Hid (matM Le Fo Fi La em (c :: r) = true) := hid0 (by rw [HV.out, ← HCe.out, ← HL.out, HLs.out, hfp, Bool.true_or])
                  clear HLs HL HCe HV
                  go_wp2
                  go_ret
                  exact ⟨by rw [HR.out]; rfl, Below.later HB0.out HB.out⟩
                | false =>
                  rw [hfp] at dn
                  have HL2 : Hid (lastF (La.drop (k + 1)) f = lastF La f) := hid0 (by rw [← HL.out, HLs.out, hfp, Bool.false_or])
                  clear HLs HL
                  go_wp2
                  go_roundw
                  case rel => exact ⟨k + 1, by omega, by go_num, trivial, HL2⟩
                  case measure => simp [intOf]; omega
              · have hkI : ¬ (k : Int) < (La.length : Int) := by omega
                have HR : Hid (matM Le Fo Fi La em (c :: r) = false) := hid0 (by rw [HV.out, ← HCe.out, ← HL.out, List.drop_of_length_le (by omega)]; rfl)
                clear HL HCe HV
                go_wp2
                go_ret
                exact ⟨by rw [HR.out]; rfl, Below.later HB0.out HB.out⟩
end Go.Proofs.YtlkgghbdgjomkaaDoor
namespace Go.Proofs.YtlkgghbdgjomkaaDoor
open Go.RowKit Go.Shelf
theorem chk_lt {Le Fo : List (List Int)} {Fi La : List Int} {sy : Int} {i : Nat} (h : chkP Le Fo Fi La sy = some i) : i < 11 := by
  unfold chkP at h
  repeat' split at h
  all_goals first | (cases h; done) | (simp only [Option.some.injEq] at h; omega)
theorem num_errP (A : Nat → Addr) (o : Option Nat) (ho : ∀ i, o = some i → i < 11) (w : World) (h : Sents w A) : Calls Tryd.prog 19 #[errP A o] w fun e w' => e = .returned (.int .i64 (numP o)) ∧ w' = w := by
  cases o with
  | none => exact kitNum_nil w
  | some i => exact kitNum_at w A h i (ho i rfl)
/-- What the world holds besides. -/
structure EnvL (w : World) (A : Nat → Addr) : Prop where
  sen : Sents w A
  tab : TabAt 11 Lib.deBruijn64tab w
  tl : 11 < w.heap.size
theorem EnvL.past {w w' : World} {A : Nat → Addr} (h : EnvL w A) (hb : Below w.heap.size w w') : EnvL w' A :=
  ⟨h.sen.below hb, fun j hj => (hb.cell (p := ⟨11, j, none⟩) h.tl).trans (h.tab j hj), Nat.lt_of_lt_of_le h.tl hb.size⟩
theorem zero5 (W : World) : (W.alloc (.cells #[.slice none 0 0, .slice none 0 0, .slice none 0 0, .slice none 0 0, .bool false] 25)).heap[W.heap.size]? = some (.cells #[.slice none 0 0, .slice none 0 0, .slice none 0 0, .slice none 0 0, .bool false] 25 (0, 0)) := heap_alloc_new W _
set_option maxRecDepth 10000 in
set_option maxHeartbeats 1600000 in
theorem reads_any (A : Nat → Addr) (sy : Int) (aL aF aA aO aW : Option Addr) (cL cF cA cO cW : Nat) (Le Fo : List (List Int)) (Fi La Wd : List Int) (em : Bool) (w : World) (hp : PosF w aL aF aA aO cF cA Le Fo Fi La) (hwd : IA w aW Wd) (hwl : Wd.length ≤ 4000000) (hWi : ∀ z ∈ Wd, inI z) (hsy : sy ≤ 9223372036854775807) (he : EnvL w A) :
    Calls Tryd.prog 22 #[posV aL aF aA aO cL cF cA cO Le Fo Fi La em, .int .i64 sy, .slice aW Wd.length cW] w fun e w' => e = .returned (.bool true) ∧ Below w.heap.size w w' := by
  obtain ⟨w0, hw0⟩ : ∃ w0, w0 = w.alloc (.cells #[.slice aL Le.length cL, .slice aF Fi.length cF, .slice aA La.length cA, .slice aO Fo.length cO, .bool em] 25) := ⟨_, rfl⟩
  have hr0 : w0.heap[w.heap.size]? = some (.cells #[.slice aL Le.length cL, .slice aF Fi.length cF, .slice aA La.length cA, .slice aO Fo.length cO, .bool em] 25 (0, 0)) := by rw [hw0]; exact heap_alloc_new w _
  have hb0 : Below w.heap.size w w0 := by rw [hw0]; exact (Below.refl _ _).alloc (Nat.le_refl _) _
  have hs0 : w.heap.size < w0.heap.size := by rw [hw0]; simp
  obtain ⟨c0, c1, c2, c3, c4⟩ := row5 hr0
  have HC5 : Hid (∀ W, Below w0.heap.size w0 W → W.cell? ⟨w.heap.size, 0, none⟩ = some (.slice aL Le.length cL) ∧ W.cell? ⟨w.heap.size, 1, none⟩ = some (.slice aF Fi.length cF) ∧ W.cell? ⟨w.heap.size, 2, none⟩ = some (.slice aA La.length cA) ∧ W.cell? ⟨w.heap.size, 3, none⟩ = some (.slice aO Fo.length cO) ∧ W.cell? ⟨w.heap.size, 4, none⟩ = some (.bool em)) := hid0 (fun W hW => row5 ((hW.block w.heap.size hs0).trans hr0))
  have HP : Hid (∀ W, Below w0.heap.size w0 W → PosF W aL aF aA aO cF cA Le Fo Fi La) := hid0 (fun W hW => hp.past (Below.later hb0 hW))
  have HE : Hid (∀ W, Below w0.heap.size w0 W → EnvL W A) := hid0 (fun W hW => he.past (Below.later hb0 hW))
  have H1 := hid0 (fun W hW => refCheck_any sy aL aF aA aO cL cF cA cO Le Fo Fi La em W (HP.out W hW).pos)
  have H2 := hid0 (fun W hW => refMatch_any aL aF aA aO aW cL cF cA cO cW Le Fo Fi La Wd em W (HP.out W hW).pos (hwd.past (Below.later hb0 hW)) hwl)
  have H3 := hid0 (fun W hW => refReverse_any aL aF aA aO cL cF cA cO Le Fo Fi La em W (HP.out W hW).pos (HP.out W hW).nL hp.nF hp.nA)
  have H4 := hid0 (fun W hW => check_any A sy aL aF aA aO cL cF cA cO Le Fo Fi La em W (HP.out W hW).pos hsy (HE.out W hW).sen)
  have H5 := hid0 (fun W hW => match_any aL aF aA aO aW cL cF cA cO cW Le Fo Fi La Wd em W (HP.out W hW).pos (hwd.past (Below.later hb0 hW)) hwl (HP.out W hW).bO (HP.out W hW).bF hp.iL hWi (HE.out W hW).tab (HE.out W hW).tl)
  have H6 := hid0 (fun W hW => reverse_any aL aF aA aO cL cF cA cO Le Fo Fi La em W (HP.out W hW).pos)
  have H7 := hid0 (fun W hW => num_errP A (chkP Le Fo Fi La sy) (fun i hi => chk_lt hi) W (HE.out W hW).sen)
  have HSm := hid0 (rev_small (em := em) hp.pos)
  have HB0 := hid0 hb0
  unfold posV at H1 H2 H3 H4 H5 H6 ⊢
  have hfold := hw0.symm
  clear hw0 hb0 hp hwd hWi he HP HE hr0
  generalize chkP Le Fo Fi La sy = ck at *
  generalize matM Le Fo Fi La em Wd = mt at *
  generalize revP Le Fo Fi La em = P at *
  have q1 : (numP ck == numP ck) = true := by simp
  have q2 : (mt == mt) = true := by simp
  go_enter Tryd.func22, Tryd.ntmps22
  go_upto_region 6 with (first
    | (go_at_call 20; refine (H1.out _ (Below.refl _ _)).mono ?_; rintro e w1 ⟨rfl, h⟩; have HB1 := hid0 h; clear h c0 c1 c2 c3 c4; obtain ⟨c0, c1, c2, c3, c4⟩ := HC5.out w1 HB1.out)
    | (go_at_call 21; refine (H2.out _ HB1.out).mono ?_; rintro e w2 ⟨rfl, h⟩; have HB2 := hid0 (Below.later HB1.out h); clear h c0 c1 c2 c3 c4; obtain ⟨c0, c1, c2, c3, c4⟩ := HC5.out w2 HB2.out)
    | (go_at_call 16; go_loud ((
        refine (H3.out _ HB2.out).mono ?_
        rintro e w3 ⟨bL, bF, bA, bO, dL, dF, dA, dO, rfl, hq, h⟩
        unfold posV
        have HB3 := hid0 (Below.later HB2.out h)
        obtain ⟨w4, hw4⟩ : ∃ w4, w4 = w3.alloc (.cells #[.slice none 0 0, .slice none 0 0, .slice none 0 0, .slice none 0 0, .bool false] 25) := ⟨_, rfl⟩
        have hb4 : Below w3.heap.size w3 w4 := by { rw [hw4]; exact (Below.refl _ _).alloc (Nat.le_refl _) _ }
        have hz4 : w4.heap[w3.heap.size]? = some (.cells #[.slice none 0 0, .slice none 0 0, .slice none 0 0, .slice none 0 0, .bool false] 25 (0, 0)) := by { rw [hw4]; exact zero5 w3 }
        obtain ⟨w5, hw5⟩ : ∃ w5, w5 = set5 w4 w3.heap.size (.slice bL P.le.length dL) (.slice bF P.fi.length dF) (.slice bA P.la.length dA) (.slice bO P.fo.length dO) (.bool P.em) := ⟨_, rfl⟩
        have hb5 : Below w3.heap.size w3 w5 := by { rw [hw5]; exact set5_below hb4 (Nat.le_refl _) _ _ _ _ _ }
        have hz5 : w5.heap[w3.heap.size]? = some (.cells #[.slice bL P.le.length dL, .slice bF P.fi.length dF, .slice bA P.la.length dA, .slice bO P.fo.length dO, .bool P.em] 25 (0, 0)) := by { rw [hw5]; exact set5_row hz4 _ _ _ _ _ }
        have HB5 := hid0 (Below.later HB3.out hb5)
        have HQ5 := hid0 (hq.past hb5)
        have HZ5 := hid0 hz5
        obtain ⟨y0, y1, y2, y3, y4⟩ := row5 hz4
        obtain ⟨g0, g1, g2, g3, g4⟩ := frz5 hz4
        have hz3 : w3.heap.size < w5.heap.size := (Array.getElem?_eq_some_iff.1 hz5).1
        unfold set5 at hw5
        have hf4 := hw4.symm
        have hf5 := hw5.symm
        clear h hq hw4 hb4 hz4 hw5 hb5 hz5 c0 c1 c2 c3 c4
        obtain ⟨c0, c1, c2, c3, c4⟩ := HC5.out w5 HB5.out)))
    | (go_at_call 10; refine (H4.out _ HB5.out).mono ?_; rintro e w6 ⟨rfl, h⟩; have HB6 := hid0 (Below.later HB5.out h); have HT6 := hid0 h; clear h c0 c1 c2 c3 c4; obtain ⟨c0, c1, c2, c3, c4⟩ := HC5.out w6 HB6.out)
    | (go_at_call 11; refine (H5.out _ HB6.out).mono ?_; rintro e w7 ⟨rfl, h⟩; have HB7 := hid0 (Below.later HB6.out h); have HT7 := hid0 (Below.later HT6.out h); clear h c0 c1 c2 c3 c4; obtain ⟨c0, c1, c2, c3, c4⟩ := HC5.out w7 HB7.out)
    | fail)
  have HSS : Hid (∀ V, Below w0.heap.size w0 V → Below w5.heap.size w5 V → (V.cell? ⟨w.heap.size, 0, none⟩ = some (.slice aL Le.length cL) ∧ V.cell? ⟨w.heap.size, 1, none⟩ = some (.slice aF Fi.length cF) ∧ V.cell? ⟨w.heap.size, 2, none⟩ = some (.slice aA La.length cA) ∧ V.cell? ⟨w.heap.size, 3, none⟩ = some (.slice aO Fo.length cO) ∧ V.cell? ⟨w.heap.size, 4, none⟩ = some (.bool em)) ∧ (V.cell? ⟨w3.heap.size, 0, none⟩ = some (.slice bL P.le.length dL) ∧ V.cell? ⟨w3.heap.size, 1, none⟩ = some (.slice bF P.fi.length dF) ∧ V.cell? ⟨w3.heap.size, 2, none⟩ = some (.slice bA P.la.length dA) ∧ V.cell? ⟨w3.heap.size, 3, none⟩ = some (.slice bO P.fo.length dO) ∧ V.cell? ⟨w3.heap.size, 4, none⟩ = some (.bool P.em))) := hid0 (fun V h1 h2 => ⟨HC5.out V h1, row5 ((h2.block w3.heap.size hz3).trans HZ5.out)⟩)
  clear c0 c1 c2 c3 c4 y0 y1 y2 y3 y4 g0 g1 g2 g3 g4 hf4 hf5
  refine wp_region_noPanic ?_
  refine wp_region_held_drew (S := (fun V => (V.cell? ⟨w.heap.size, 0, none⟩ = some (.slice aL Le.length cL) ∧ V.cell? ⟨w.heap.size, 1, none⟩ = some (.slice aF Fi.length cF) ∧ V.cell? ⟨w.heap.size, 2, none⟩ = some (.slice aA La.length cA) ∧ V.cell? ⟨w.heap.size, 3, none⟩ = some (.slice aO Fo.length cO) ∧ V.cell? ⟨w.heap.size, 4, none⟩ = some (.bool em)) ∧ (V.cell? ⟨w3.heap.size, 0, none⟩ = some (.slice bL P.le.length dL) ∧ V.cell? ⟨w3.heap.size, 1, none⟩ = some (.slice bF P.fi.length dF) ∧ V.cell? ⟨w3.heap.size, 2, none⟩ = some (.slice bA P.la.length dA) ∧ V.cell? ⟨w3.heap.size, 3, none⟩ = some (.slice bO P.fo.length dO) ∧ V.cell? ⟨w3.heap.size, 4, none⟩ = some (.bool P.em)))) (by kernel_rfl) ?_ (fun hHeld => ?_)
  · exact HSS.out w7.drew (Below.later HB7.out (drew_below w7)) (Below.later HT7.out (drew_below w7))
  refine tkV (i := 0) (d := some 27) (v := ?_) rfl (by kernel_rfl) (by kernel_rfl) (by kernel_rfl) rfl (fun _ _ _ h => h) (by rfl) ?_ (by assumption) ?_
  rotate_left
  · (intro w hSw; (try dsimp only at hSw); (try simp only [List.getElem_toArray, List.getElem_cons_zero]); go_simp; try with_reducible rfl)
  try simp only [Act.put, List.setIfInBounds_toArray, List.set_cons_zero, List.set_cons_succ]
  refine tkV (i := 2) (d := some 29) (v := ?_) rfl (by kernel_rfl) (by kernel_rfl) (by kernel_rfl) rfl (fun _ _ _ h => h) (by rfl) ?_ (by assumption) ?_
  rotate_left
  · (intro w hSw; (try dsimp only at hSw); (try simp only [List.getElem_toArray, List.getElem_cons_zero, List.getElem_cons_succ]); go_simp; try with_reducible rfl)
  try simp only [Act.put, List.setIfInBounds_toArray, List.set_cons_zero, List.set_cons_succ]
  refine wpAnyH_ready (rs := [1]) (by kernel_rfl) (by simp) (AllReadyH.cons rfl (fun K hK => ?_) AllReadyH.nil)
  try simp only [List.getElem_toArray, List.getElem_cons_zero, List.getElem_cons_succ]
  go_simp
  refine (H6.out w7.drew (Below.later HB7.out (drew_below w7))).mono ?_
  rintro e w8 ⟨eL, eF, eA, eO, fL, fF, fA, fO, rfl, hq8, h⟩
  unfold posV
  have HB8 := hid0 (Below.later HB7.out (below_drew h))
  have HT8 := hid0 (Below.later HT7.out (below_drew h))
  have HQ8 := hid0 hq8
  clear h hq8
  go_wp2_with fail
  refine hK.out _ _ ?_ (fun hHeld1 => ?_)
  · exact HSS.out w8 HB8.out HT8.out
  clear hK K
  (try simp only [Act.put]); (try simp only [List.setIfInBounds_toArray]); (try simp only [List.set_cons_succ]); (try simp only [List.set_cons_zero])
  refine wpAnyH_ready (rs := [3]) (by kernel_rfl) (by simp) (AllReadyH.cons rfl (fun K hK => ?_) AllReadyH.nil)
  try simp only [List.getElem_toArray, List.getElem_cons_zero, List.getElem_cons_succ]
  go_simp
  refine (samePos eL eF eA eO bL bF bA bO fL fF fA fO dL dF dA dO P.le P.fo P.fi P.la P.em w8 (HQ8.out.posA HSm.out) ((HQ5.out.past HT8.out).posA HSm.out)).mono ?_
  rintro e w9 ⟨rfl, h⟩
  have HB9 := hid0 (Below.later HB8.out h)
  have HT9 := hid0 (Below.later HT8.out h)
  clear h
  go_wp2_with fail
  refine hK.out _ _ ?_ (fun hHeld3 => ?_)
  · exact HSS.out w9 HB9.out HT9.out
  clear hK K
  (try simp only [Act.put]); (try simp only [List.setIfInBounds_toArray]); (try simp only [List.set_cons_succ]); (try simp only [List.set_cons_zero])
  refine tkV (i := 4) (d := some 12) (v := ?_) rfl (by kernel_rfl) (by kernel_rfl) (by kernel_rfl) rfl (fun _ _ _ h => h) (by rfl) ?_ (by assumption) ?_
  rotate_left
  · (intro w hSw; (try dsimp only at hSw); (try simp only [List.getElem_toArray, List.getElem_cons_zero, List.getElem_cons_succ]); go_simp; try with_reducible rfl)
  try simp only [Act.put, List.setIfInBounds_toArray, List.set_cons_zero, List.set_cons_succ]
  refine wpAnyH_done (by kernel_rfl) ?_ _
  refine NoPanic.normal ?_
  go_wp2_with (go_at_call 19; refine (H7.out _ HB9.out).mono ?_; rintro e w10 ⟨rfl, hw10⟩; have hw10' := hw10.symm; subst hw10'; clear hw10)
  go_ret
  exact ⟨rfl, Below.later HB0.out HB9.out⟩
end Go.Proofs.YtlkgghbdgjomkaaDoor
namespace Go.Proofs.YtlkgghbdgjomkaaDoor
open Go.RowKit Go.Shelf
/-- What was lent is a thing that may be written over. -/
theorem lent_ln {w W : World} {Le Fo : List (List Int)} {Fi La : List Int} {gL cL gF cF gA cA gO cO b1 b2 b3 : Nat} {psL psO : Lot} (hL : psL.map (fun x : Value × List Int => x.2) = Le) (hO : psO.map (fun x : Value × List Int => x.2) = Fo) (h1 : MkR W w.heap.size gL cL psL ∧ gL < b1 ∧ ∀ x ∈ psL, ∀ g, x.1.ownBlock = some g → g < b1)
    (h2 : (LW W b1 gF cF Fi ∧ gF < b2) ∧ (LW W b2 gA cA La ∧ gA < b3) ∧ MkR W b3 gO cO psO) (hs : PosS ⟨Le, Fi, La, Fo, false⟩) (hi : ∀ r ∈ Le, ∀ z ∈ r, inI z) :
    Ln W w.heap.size b1 b2 b3 W.heap.size gL cL gF cF gA cA gO cO (psL.map (·.1)) (psO.map (·.1)) Fi.length La.length (psL.map (fun x => x.2.length)) (psO.map (fun x => x.2.length)) := by
  have q4 := h2.2.2.lt
  have n1 : psL.length = Le.length := by rw [← hL, List.length_map]
  have n4 : psO.length = Fo.length := by rw [← hO, List.length_map]
  refine ⟨⟨psL, psO, Fi, La, rfl, rfl, rfl, rfl, rfl, rfl, h1.1.pile, h2.1.1, h2.2.1.1, h2.2.2.pile, fun x hx y hy => hi x.2 (by rw [← hL]; exact List.mem_map_of_mem (f := fun x : Value × List Int => x.2) hx) y hy⟩, ⟨h1.2.1, fun v hv g hg => ?_⟩, h2.1.2, h2.2.1.2, ⟨q4.2, fun v hv g hg => ?_⟩, ⟨by omega, Nat.le_refl _⟩, ⟨by rw [List.length_map, n1]; exact hs.l1, by rw [List.length_map, n4]; exact hs.l4⟩, ⟨hs.l2, hs.l3⟩, fun n hn => ?_, fun n hn => ?_⟩
  · obtain ⟨x, hx, rfl⟩ := List.mem_map.1 hv
    exact h1.2.2 x hx g hg
  · obtain ⟨x, hx, rfl⟩ := List.mem_map.1 hv
    exact (h2.2.2.pile.blk hx hg).2
  · obtain ⟨x, hx, rfl⟩ := List.mem_map.1 hn
    exact hs.r1 x.2 (by show x.2 ∈ Le; rw [← hL]; exact List.mem_map_of_mem (f := fun x : Value × List Int => x.2) hx)
  · obtain ⟨x, hx, rfl⟩ := List.mem_map.1 hn
    exact hs.r4 x.2 (by show x.2 ∈ Fo; rw [← hO]; exact List.mem_map_of_mem (f := fun x : Value × List Int => x.2) hx)
/-- What was lent may be read. -/
theorem lent_pos {W : World} {lo : Nat} {Le Fo : List (List Int)} {Fi La : List Int} {gL cL gF cF gA cA gO cO b1 b2 b3 : Nat} {psL psO : Lot} (hL : psL.map (fun x : Value × List Int => x.2) = Le) (hO : psO.map (fun x : Value × List Int => x.2) = Fo) (h1 : MkR W lo gL cL psL)
    (h2 : LW W b1 gF cF Fi) (h3 : LW W b2 gA cA La) (h4 : MkR W b3 gO cO psO) (hs : PosS ⟨Le, Fi, La, Fo, false⟩) (hi : ∀ r ∈ Le, ∀ z ∈ r, inI z) :
    PosF W (some ⟨gL, 0, none⟩) (some ⟨gF, 0, none⟩) (some ⟨gA, 0, none⟩) (some ⟨gO, 0, none⟩) cF cA Le Fo Fi La := by
  have a1 := h1.pile.parts hL
  have a4 := h4.pile.parts hO
  exact ⟨⟨a1.1, h2.ia, h3.ia, a4.1, hs.l1, hs.l2, hs.l3, hs.l4, hs.r1, hs.r4⟩, a1.2.1, fun e => (by cases e), fun e => (by cases e), a4.2.2, fun p hp => by cases hp; exact h2.lt.2, hi⟩
/-- The law's variables. -/
structure LawM (w0 V : World) (hi X3 lo4 gW cW lo7 X7 b1 b2 b3 gL cL gF cF gA cA gO cO nL nO nF nA : Nat) (sL sO : List Value) (kL kO : List Nat) (em : Bool) (Wd : List Int) (eL eF eA eO : Option Addr) (fL fF fA fO : Nat) (P : Pos) : Prop where
  bel : Below w0.heap.size w0 V
  ln : Ln V w0.heap.size b1 b2 b3 hi gL cL gF cF gA cA gO cO sL sO nF nA kL kO
  n1 : sL.length = nL
  n4 : sO.length = nO
  x3 : V.heap[X3]? = some (.cells #[.slice (some ⟨gL, 0, none⟩) nL cL, .slice (some ⟨gF, 0, none⟩) nF cF, .slice (some ⟨gA, 0, none⟩) nA cA, .slice (some ⟨gO, 0, none⟩) nO cO, .bool em] 25 (0, 0))
  wd : LW V lo4 gW cW Wd
  r : PosQ V lo7 eL eF eA eO P.le P.fo P.fi P.la
  x7 : V.heap[X7]? = some (.cells #[.slice eL P.le.length fL, .slice eF P.fi.length fF, .slice eA P.la.length fA, .slice eO P.fo.length fO, .bool P.em] 25 (0, 0))
  od : w0.heap.size ≤ hi ∧ hi ≤ X3 ∧ X3 < lo4 ∧ gW < lo7 ∧ lo7 ≤ X7
section
variable {w0 V V' : World} {hi X3 lo4 gW cW lo7 X7 b1 b2 b3 gL cL gF cF gA cA gO cO nL nO nF nA : Nat} {sL sO : List Value} {kL kO : List Nat} {em : Bool} {Wd : List Int} {eL eF eA eO : Option Addr} {fL fF fA fO : Nat} {P : Pos}
theorem LawM.past (h : LawM w0 V hi X3 lo4 gW cW lo7 X7 b1 b2 b3 gL cL gF cF gA cA gO cO nL nO nF nA sL sO kL kO em Wd eL eF eA eO fL fF fA fO P) (hb : Below V.heap.size V V') : LawM w0 V' hi X3 lo4 gW cW lo7 X7 b1 b2 b3 gL cL gF cF gA cA gO cO nL nO nF nA sL sO kL kO em Wd eL eF eA eO fL fF fA fO P :=
  ⟨h.bel.trans (hb.mono h.bel.size), h.ln.kept hb.size (fun k _ hk => hb.block k (by have := h.ln.hi'.2; omega)), h.n1, h.n4, (hb.block X3 (Array.getElem?_eq_some_iff.1 h.x3).1).trans h.x3, h.wd.past hb, h.r.past hb, (hb.block X7 (Array.getElem?_eq_some_iff.1 h.x7).1).trans h.x7, h.od⟩
theorem LawM.over (h : LawM w0 V hi X3 lo4 gW cW lo7 X7 b1 b2 b3 gL cL gF cF gA cA gO cO nL nO nF nA sL sO kL kO em Wd eL eF eA eO fL fF fA fO P) (ho : Only V V' (fun b => w0.heap.size ≤ b ∧ b < hi)) (hl : Ln V' w0.heap.size b1 b2 b3 hi gL cL gF cF gA cA gO cO sL sO nF nA kL kO) :
    LawM w0 V' hi X3 lo4 gW cW lo7 X7 b1 b2 b3 gL cL gF cF gA cA gO cO nL nO nF nA sL sO kL kO em Wd eL eF eA eO fL fF fA fO P := by
  obtain ⟨o1, o2, o3, o4, o5⟩ := h.od
  have hg := h.wd.lt
  refine ⟨h.bel.trans (ho.below h.bel.size (fun i hi => hi.1)), hl, h.n1, h.n4, (ho.block X3 (Array.getElem?_eq_some_iff.1 h.x3).1 (by omega)).trans h.x3, own_blk h.wd (fun k hk => ?_), h.r.keep ho.size (fun k h1 h2 => ho.block k h2 (by omega)), (ho.block X7 (Array.getElem?_eq_some_iff.1 h.x7).1 (by omega)).trans h.x7, h.od⟩
  have e : gW = k := by simpa [Value.ownBlock] using hk
  exact ho.block k (by omega) (by omega)
theorem LawM.word (h : LawM w0 V hi X3 lo4 gW cW lo7 X7 b1 b2 b3 gL cL gF cF gA cA gO cO nL nO nF nA sL sO kL kO em Wd eL eF eA eO fL fF fA fO P) (hw : 0 < Wd.length) (z : Int) :
    LawM w0 (V.setCell ⟨gW, 0, none⟩ (.int .i64 z)) hi X3 lo4 gW cW lo7 X7 b1 b2 b3 gL cL gF cF gA cA gO cO nL nO nF nA sL sO kL kO em (Wd.set 0 z) eL eF eA eO fL fF fA fO P := by
  obtain ⟨o1, o2, o3, o4, o5⟩ := h.od
  have hg := h.wd.lt
  have oth : ∀ k, ¬ k = gW → (V.setCell ⟨gW, 0, none⟩ (.int .i64 z)).heap[k]? = V.heap[k]? := fun k hk => Below.heap_setCell V _ _ k hk
  have hsz : (V.setCell ⟨gW, 0, none⟩ (.int .i64 z)).heap.size = V.heap.size := by simp
  exact ⟨h.bel.setCell (p := ⟨gW, 0, none⟩) (by show w0.heap.size ≤ gW; omega) _, h.ln.kept (by rw [hsz]; exact Nat.le_refl _) (fun k _ hk => oth k (by omega)), h.n1, h.n4, (oth X3 (by omega)).trans h.x3, h.wd.put 0 hw z, h.r.keep (by rw [hsz]; exact Nat.le_refl _) (fun k h1 _ => oth k (by omega)), (oth X7 (by omega)).trans h.x7, h.od⟩
theorem LawM.reads (A : Nat → Addr) (sy : Int) (h : LawM w0 V hi X3 lo4 gW cW lo7 X7 b1 b2 b3 gL cL gF cF gA cA gO cO nL nO nF nA sL sO kL kO em Wd eL eF eA eO fL fF fA fO P) (hwl : Wd.length ≤ 4000000) (hWi : ∀ z ∈ Wd, inI z) (hsy : sy ≤ 9223372036854775807) (he : EnvL w0 A) :
    Calls Tryd.prog 22 #[.agg #[.slice (some ⟨gL, 0, none⟩) nL cL, .slice (some ⟨gF, 0, none⟩) nF cF, .slice (some ⟨gA, 0, none⟩) nA cA, .slice (some ⟨gO, 0, none⟩) nO cO, .bool em], .int .i64 sy, .slice (some ⟨gW, 0, none⟩) Wd.length cW] V fun e w' => e = .returned (.bool true) ∧ Below V.heap.size V w' := by
  obtain ⟨Le, Fo, Fi, La, e1, e2, e3, e4, hp⟩ := h.ln.posF
  have hc := reads_any A sy _ _ _ _ _ cL cF cA cO cW Le Fo Fi La Wd em V hp h.wd.ia hwl hWi hsy (he.past h.bel)
  unfold posV at hc
  rw [e1, e2, e3, e4, h.n1, h.n4] at hc
  exact hc
end
end Go.Proofs.YtlkgghbdgjomkaaDoor
namespace Go.Proofs.YtlkgghbdgjomkaaDoor
open Go.RowKit Go.Shelf
theorem row7 {W : World} {X : Nat} {t : TypeId} {a b c d e f g : Value} (h : W.heap[X]? = some (.cells #[a, b, c, d, e, f, g] t (0, 0))) : W.cell? ⟨X, 0, none⟩ = some a ∧ W.cell? ⟨X, 1, none⟩ = some b ∧ W.cell? ⟨X, 2, none⟩ = some c ∧ W.cell? ⟨X, 3, none⟩ = some d ∧ W.cell? ⟨X, 4, none⟩ = some e ∧ W.cell? ⟨X, 5, none⟩ = some f ∧ W.cell? ⟨X, 6, none⟩ = some g :=
  ⟨by rw [cell_of_row _ _ _ _ _ _ h]; rfl, by rw [cell_of_row _ _ _ _ _ _ h]; rfl, by rw [cell_of_row _ _ _ _ _ _ h]; rfl, by rw [cell_of_row _ _ _ _ _ _ h]; rfl, by rw [cell_of_row _ _ _ _ _ _ h]; rfl, by rw [cell_of_row _ _ _ _ _ _ h]; rfl, by rw [cell_of_row _ _ _ _ _ _ h]; rfl⟩
set_option maxRecDepth 10000 in
set_option maxHeartbeats 3200000 in
theorem placesReads_any (A : Nat → Addr) (sy : Int) (aL aF aA aO aW : Option Addr) (cL cF cA cO cW : Nat) (Le Fo : List (List Int)) (Fi La Wd : List Int) (em : Bool) (w : World) (hp : PosA w aL aF aA aO Le Fo Fi La) (hnL : RwN w aL Le) (hnF : aF = none → cF = 0) (hnA : aA = none → cA = 0) (hiL : ∀ r ∈ Le, ∀ z ∈ r, inI z) (hwd : IA w aW Wd) (hwl : Wd.length ≤ 4000000) (hiW : ∀ z ∈ Wd, inI z) (hsy : sy ≤ 9223372036854775807) (he : EnvL w A) :
    Calls Tryd.prog 4 #[.agg #[.slice aL Le.length cL, .slice aF Fi.length cF, .slice aA La.length cA, .slice aO Fo.length cO, .bool em, .int .i64 sy, .slice aW Wd.length cW]] w fun e w' => e = .returned (.bool true) ∧ Below w.heap.size w w' := by
  obtain ⟨w0, hw0⟩ : ∃ w0, w0 = w.alloc (.cells #[.slice aL Le.length cL, .slice aF Fi.length cF, .slice aA La.length cA, .slice aO Fo.length cO, .bool em, .int .i64 sy, .slice aW Wd.length cW] 27) := ⟨_, rfl⟩
  have hr0 : w0.heap[w.heap.size]? = some (.cells #[.slice aL Le.length cL, .slice aF Fi.length cF, .slice aA La.length cA, .slice aO Fo.length cO, .bool em, .int .i64 sy, .slice aW Wd.length cW] 27 (0, 0)) := by rw [hw0]; exact heap_alloc_new w _
  have hb0 : Below w.heap.size w w0 := by rw [hw0]; exact (Below.refl _ _).alloc (Nat.le_refl _) _
  have hs0 : w.heap.size < w0.heap.size := by rw [hw0]; simp
  have HX7 : Hid (∀ V, Below w0.heap.size w0 V → V.cell? ⟨w.heap.size, 0, none⟩ = some (.slice aL Le.length cL) ∧ V.cell? ⟨w.heap.size, 1, none⟩ = some (.slice aF Fi.length cF) ∧ V.cell? ⟨w.heap.size, 2, none⟩ = some (.slice aA La.length cA) ∧ V.cell? ⟨w.heap.size, 3, none⟩ = some (.slice aO Fo.length cO) ∧ V.cell? ⟨w.heap.size, 4, none⟩ = some (.bool em) ∧ V.cell? ⟨w.heap.size, 5, none⟩ = some (.int .i64 sy) ∧ V.cell? ⟨w.heap.size, 6, none⟩ = some (.slice aW Wd.length cW)) := hid0 (fun V hV => row7 ((hV.block _ hs0).trans hr0))
  obtain ⟨x0, x1, x2, x3, x4, x5, x6⟩ := row7 hr0
  have HPx : Hid (∀ V, Below w0.heap.size w0 V → PosA V aL aF aA aO Le Fo Fi La) := hid0 (fun V hV => hp.past (Below.later hb0 hV))
  have HNx : Hid (∀ V, Below w0.heap.size w0 V → RwN V aL Le) := hid0 (fun V hV => hnL.past (Below.later hb0 hV))
  have HIx : Hid (∀ V, Below w0.heap.size w0 V → IA V aW Wd) := hid0 (fun V hV => hwd.past (Below.later hb0 hV))
  have HE : Hid (∀ V, Below w0.heap.size w0 V → EnvL V A) := hid0 (fun V hV => he.past (Below.later hb0 hV))
  have HLe : Hid (∀ V, Below w0.heap.size w0 V → Calls Tryd.prog 13 #[.agg #[.slice aL Le.length cL, .slice aF Fi.length cF, .slice aA La.length cA, .slice aO Fo.length cO, .bool em]] V fun r w' => LentR V Le Fo Fi La em r w') := hid0 (fun V hV => lent_any aL aF aA aO cL cF cA cO Le Fo Fi La em V (HPx.out V hV))
  have HLi := hid0 (fun V hV => list_any Wd aW cW V (by omega) (HIx.out V hV))
  have HSz : Hid (PosS ⟨Le, Fi, La, Fo, false⟩) := hid0 ⟨hp.l1, hp.l2, hp.l3, hp.l4, hp.r1, hp.r4⟩
  have HSm0 := hid0 (rev_small (em := em) hp)
  have HiL := hid0 hiL
  have HiW := hid0 hiW
  have HB0 := hid0 hb0
  have hfold := hw0.symm
  clear hw0 hr0 hb0 hp hnL hiL hiW hwd he
  go_enter Tryd.func4, Tryd.ntmps4
  go_upto_region 7 with (first
    | (go_at_call 13; go_loud ((
        refine (HLe.out w0 (Below.refl _ _)).mono ?_
        rintro e w1 ⟨gL, kL, gF, kF, gA, kA, gO, kO, psL, psO, b1, b2, b3, rfl, hmL, hmO, hk1, hk2, h⟩
        obtain ⟨w2, hal⟩ : ∃ V, V = w1.alloc (.cells #[.slice none 0 0, .slice none 0 0, .slice none 0 0, .slice none 0 0, .bool false] 25) := ⟨_, rfl⟩
        have hba : Below w1.heap.size w1 w2 := by { rw [hal]; exact (Below.refl _ _).alloc (Nat.le_refl _) _ }
        have hza : w2.heap[w1.heap.size]? = some (.cells #[.slice none 0 0, .slice none 0 0, .slice none 0 0, .slice none 0 0, .bool false] 25 (0, 0)) := by { rw [hal]; exact zero5 w1 }
        obtain ⟨w3, hst⟩ : ∃ V, V = set5 w2 w1.heap.size (.slice (some ⟨gL, 0, none⟩) Le.length kL) (.slice (some ⟨gF, 0, none⟩) Fi.length kF) (.slice (some ⟨gA, 0, none⟩) La.length kA) (.slice (some ⟨gO, 0, none⟩) Fo.length kO) (.bool em) := ⟨_, rfl⟩
        have hbs : Below w1.heap.size w1 w3 := by { rw [hst]; exact set5_below hba (Nat.le_refl _) _ _ _ _ _ }
        have hzs : w3.heap[w1.heap.size]? = some (.cells #[.slice (some ⟨gL, 0, none⟩) Le.length kL, .slice (some ⟨gF, 0, none⟩) Fi.length kF, .slice (some ⟨gA, 0, none⟩) La.length kA, .slice (some ⟨gO, 0, none⟩) Fo.length kO, .bool em] 25 (0, 0)) := by { rw [hst]; exact set5_row hza _ _ _ _ _ }
        obtain ⟨y0, y1, y2, y3, y4⟩ := row5 hza
        obtain ⟨z0, z1, z2, z3, z4⟩ := frz5 hza
        unfold set5 at hst
        have hfaw2 := hal.symm
        have hfsw3 := hst.symm
        have HB3 := hid0 (Below.later h hbs)
        have HB1 := hid0 h
        have HB13 := hid0 hbs
        have HX3 := hid0 hzs
        have HmL := hid0 hmL
        have HmO := hid0 hmO
        have HK1 := hid0 hk1
        have HK2 := hid0 hk2
        have hz3 : w1.heap.size < w3.heap.size := (Array.getElem?_eq_some_iff.1 hzs).1
        clear h hal hba hza hst hbs hzs hmL hmO hk1 hk2 x0 x1 x2 x3 x4 x5 x6
        obtain ⟨x0, x1, x2, x3, x4, x5, x6⟩ := HX7.out w3 HB3.out
        obtain ⟨p0, p1, p2, p3, p4⟩ := row5 HX3.out)))
    | (go_at_call 14; go_loud ((
        refine (HLi.out w3 HB3.out).mono ?_
        rintro e w4 ⟨gW, kW, rfl, hw4, h⟩
        have HW4 := hid0 hw4
        have HB4 := hid0 (Below.later HB3.out h)
        have HT4 := hid0 h
        clear h hw4 y0 y1 y2 y3 y4 z0 z1 z2 z3 z4 x0 x1 x2 x3 x4 x5 x6 p0 p1 p2 p3 p4
        obtain ⟨x0, x1, x2, x3, x4, x5, x6⟩ := HX7.out w4 HB4.out
        obtain ⟨p0, p1, p2, p3, p4⟩ := row5 ((HT4.out.block _ hz3).trans HX3.out)
        have HPF : Hid (∀ V, Below w4.heap.size w4 V → PosF V (some ⟨gL, 0, none⟩) (some ⟨gF, 0, none⟩) (some ⟨gA, 0, none⟩) (some ⟨gO, 0, none⟩) kF kA Le Fo Fi La) := hid0 (fun V hV => (lent_pos HmL.out HmO.out HK1.out.1 HK2.out.1.1 HK2.out.2.1.1 HK2.out.2.2 HSz.out HiL.out).past (Below.later HB13.out (Below.later HT4.out hV)))
        have HP3 : Hid (∀ V, Below w4.heap.size w4 V → V.cell? ⟨w1.heap.size, 0, none⟩ = some (.slice (some ⟨gL, 0, none⟩) Le.length kL) ∧ V.cell? ⟨w1.heap.size, 1, none⟩ = some (.slice (some ⟨gF, 0, none⟩) Fi.length kF) ∧ V.cell? ⟨w1.heap.size, 2, none⟩ = some (.slice (some ⟨gA, 0, none⟩) La.length kA) ∧ V.cell? ⟨w1.heap.size, 3, none⟩ = some (.slice (some ⟨gO, 0, none⟩) Fo.length kO) ∧ V.cell? ⟨w1.heap.size, 4, none⟩ = some (.bool em)) := hid0 (fun V hV => row5 ((hV.block _ (Nat.lt_of_lt_of_le hz3 HT4.out.size)).trans ((HT4.out.block _ hz3).trans HX3.out)))
        have HE4 : Hid (∀ V, Below w4.heap.size w4 V → EnvL V A) := hid0 (fun V hV => HE.out V (Below.later HB4.out hV))
        have HWI : Hid (∀ V, Below w4.heap.size w4 V → LW V w3.heap.size gW kW Wd) := hid0 (fun V hV => HW4.out.past hV))))
    | (go_at_call 10; go_loud ((
        refine (check_any A sy _ _ _ _ kL kF kA kO Le Fo Fi La em w4 (HPF.out w4 (Below.refl _ _)).pos hsy (HE4.out w4 (Below.refl _ _)).sen).mono ?_
        rintro e w5 ⟨rfl, h⟩
        have HT5 := hid0 (h)
        clear h x0 x1 x2 x3 x4 x5 x6 p0 p1 p2 p3 p4
        have HB5 := hid0 (Below.later HB4.out HT5.out)
        obtain ⟨x0, x1, x2, x3, x4, x5, x6⟩ := HX7.out w5 HB5.out
        obtain ⟨p0, p1, p2, p3, p4⟩ := HP3.out w5 HT5.out)))
    | (go_at_call 11; go_loud ((
        refine (match_any _ _ _ _ _ kL kF kA kO kW Le Fo Fi La Wd em w5 (HPF.out w5 HT5.out).pos (HWI.out w5 HT5.out).ia hwl (HPF.out w5 HT5.out).bO (HPF.out w5 HT5.out).bF HiL.out HiW.out (HE4.out w5 HT5.out).tab (HE4.out w5 HT5.out).tl).mono ?_
        rintro e w6 ⟨rfl, h⟩
        have HT6 := hid0 (Below.later HT5.out h)
        clear h x0 x1 x2 x3 x4 x5 x6 p0 p1 p2 p3 p4
        have HB6 := hid0 (Below.later HB4.out HT6.out)
        obtain ⟨x0, x1, x2, x3, x4, x5, x6⟩ := HX7.out w6 HB6.out
        obtain ⟨p0, p1, p2, p3, p4⟩ := HP3.out w6 HT6.out)))
    | (go_at_call 7; go_loud ((
        refine (reverse_any _ _ _ _ kL kF kA kO Le Fo Fi La em w6 (HPF.out w6 HT6.out).pos).mono ?_
        rintro e w7 ⟨eL, eF, eA, eO, fL, fF, fA, fO, rfl, hq, h⟩
        unfold posV
        obtain ⟨P, hP⟩ : ∃ P, P = revP Le Fo Fi La em := ⟨_, rfl⟩
        rw [← hP] at hq ⊢
        obtain ⟨w8, hal⟩ : ∃ V, V = w7.alloc (.cells #[.slice none 0 0, .slice none 0 0, .slice none 0 0, .slice none 0 0, .bool false] 25) := ⟨_, rfl⟩
        have hba : Below w7.heap.size w7 w8 := by { rw [hal]; exact (Below.refl _ _).alloc (Nat.le_refl _) _ }
        have hza : w8.heap[w7.heap.size]? = some (.cells #[.slice none 0 0, .slice none 0 0, .slice none 0 0, .slice none 0 0, .bool false] 25 (0, 0)) := by { rw [hal]; exact zero5 w7 }
        obtain ⟨w9, hst⟩ : ∃ V, V = set5 w8 w7.heap.size (.slice eL P.le.length fL) (.slice eF P.fi.length fF) (.slice eA P.la.length fA) (.slice eO P.fo.length fO) (.bool P.em) := ⟨_, rfl⟩
        have hbs : Below w7.heap.size w7 w9 := by { rw [hst]; exact set5_below hba (Nat.le_refl _) _ _ _ _ _ }
        have hzs : w9.heap[w7.heap.size]? = some (.cells #[.slice eL P.le.length fL, .slice eF P.fi.length fF, .slice eA P.la.length fA, .slice eO P.fo.length fO, .bool P.em] 25 (0, 0)) := by { rw [hst]; exact set5_row hza _ _ _ _ _ }
        obtain ⟨y0, y1, y2, y3, y4⟩ := row5 hza
        obtain ⟨z0, z1, z2, z3, z4⟩ := frz5 hza
        unfold set5 at hst
        have hfaw8 := hal.symm
        have hfsw9 := hst.symm
        have h9 := Below.later h hbs
        have HT9 := hid0 (Below.later HT6.out h9)
        have HB9 := hid0 (Below.later HB4.out HT9.out)
        have HQ9 := hid0 (hq.past hbs)
        have HX9 := hid0 hzs
        have hz9 : w7.heap.size < w9.heap.size := (Array.getElem?_eq_some_iff.1 hzs).1
        have HPe := hid0 hP
        have HZ6 := hid0 h.size
        have hsz7 := HT6.out.size
        clear h h9 hal hba hza hst hbs hzs hq hP x0 x1 x2 x3 x4 x5 x6 p0 p1 p2 p3 p4
        obtain ⟨x0, x1, x2, x3, x4, x5, x6⟩ := HX7.out w9 HB9.out
        obtain ⟨p0, p1, p2, p3, p4⟩ := HP3.out w9 HT9.out
        obtain ⟨r0, r1, r2, r3, r4⟩ := row5 HX9.out
        have HR7 : Hid (∀ V, Below w9.heap.size w9 V → V.cell? ⟨w7.heap.size, 0, none⟩ = some (.slice eL P.le.length fL) ∧ V.cell? ⟨w7.heap.size, 1, none⟩ = some (.slice eF P.fi.length fF) ∧ V.cell? ⟨w7.heap.size, 2, none⟩ = some (.slice eA P.la.length fA) ∧ V.cell? ⟨w7.heap.size, 3, none⟩ = some (.slice eO P.fo.length fO) ∧ V.cell? ⟨w7.heap.size, 4, none⟩ = some (.bool P.em)) := hid0 (fun V hV => row5 ((hV.block _ hz9).trans HX9.out)))))
    | (go_at_call 15; go_loud ((
        refine (sameI Wd _ _ kW cW w9 (by omega) (HWI.out w9 HT9.out).ia (HIx.out w9 HB9.out)).mono ?_
        rintro e w10 ⟨rfl, n10, hw10⟩
        have h : Below w9.heap.size w9 w10 := by { rw [hw10]; exact below_drew' (Below.refl _ _) n10 }
        have HU10 := hid0 h
        clear hw10 r0 r1 r2 r3 r4
        have HT10 := hid0 (Below.later HT9.out h)
        clear h x0 x1 x2 x3 x4 x5 x6 p0 p1 p2 p3 p4
        have HB10 := hid0 (Below.later HB4.out HT10.out)
        obtain ⟨x0, x1, x2, x3, x4, x5, x6⟩ := HX7.out w10 HB10.out
        obtain ⟨p0, p1, p2, p3, p4⟩ := HP3.out w10 HT10.out)))
    | fail)
  have HSm : Hid (PosS P) := hid0 (by rw [HPe.out]; exact HSm0.out)
  have HQR : Hid (∀ V, Below w9.heap.size w9 V → PosQ V w6.heap.size eL eF eA eO P.le P.fo P.fi P.la) := hid0 (fun V hV => HQ9.out.past hV)
  have HS7 : Hid (∀ V, Below w9.heap.size w9 V → (V.cell? ⟨w7.heap.size, 0, none⟩ = some (.slice eL P.le.length fL) ∧ V.cell? ⟨w7.heap.size, 1, none⟩ = some (.slice eF P.fi.length fF) ∧ V.cell? ⟨w7.heap.size, 2, none⟩ = some (.slice eA P.la.length fA) ∧ V.cell? ⟨w7.heap.size, 3, none⟩ = some (.slice eO P.fo.length fO) ∧ V.cell? ⟨w7.heap.size, 4, none⟩ = some (.bool P.em)) ∧ (V.cell? ⟨w.heap.size, 0, none⟩ = some (.slice aL Le.length cL) ∧ V.cell? ⟨w.heap.size, 1, none⟩ = some (.slice aF Fi.length cF) ∧ V.cell? ⟨w.heap.size, 2, none⟩ = some (.slice aA La.length cA) ∧ V.cell? ⟨w.heap.size, 3, none⟩ = some (.slice aO Fo.length cO) ∧ V.cell? ⟨w.heap.size, 4, none⟩ = some (.bool em) ∧ V.cell? ⟨w.heap.size, 5, none⟩ = some (.int .i64 sy) ∧ V.cell? ⟨w.heap.size, 6, none⟩ = some (.slice aW Wd.length cW))) := hid0 (fun V hV => ⟨HR7.out V hV, HX7.out V (Below.later HB9.out hV)⟩)
  have n1 : psL.length = Le.length := by rw [← HmL.out, List.length_map]
  have n4 : psO.length = Fo.length := by rw [← HmO.out, List.length_map]
  have HMk : Hid (∀ V, Below w9.heap.size w9 V → Calls Tryd.prog 17 #[.agg #[.slice (some ⟨gL, 0, none⟩) Le.length kL, .slice (some ⟨gF, 0, none⟩) Fi.length kF, .slice (some ⟨gA, 0, none⟩) La.length kA, .slice (some ⟨gO, 0, none⟩) Fo.length kO, .bool em]] V fun e w' => e = .returned (.bool true) ∧ Below V.heap.size V w') := hid0 (fun V hV => by
    have hb := Below.later HB13.out (Below.later HT4.out (Below.later HT9.out hV))
    have k1 := HK1.out
    have k2 := HK2.out
    have q1 := k1.1.lt
    have q2 := k2.1.1.lt
    have q3 := k2.2.1.1.lt
    have s := HSz.out
    have hm := marked_any psL psO w0.heap.size gL kL gO kO gF kF gA kA Fi La em V (by have := s.l1; simp only at this; omega) (fun x hx => by have := s.r1 x.2 (by show x.2 ∈ Le; rw [← HmL.out]; exact List.mem_map_of_mem (f := fun x : Value × List Int => x.2) hx); omega) (by have := s.l4; simp only at this; omega) (fun x hx => by have := s.r4 x.2 (by show x.2 ∈ Fo; rw [← HmO.out]; exact List.mem_map_of_mem (f := fun x : Value × List Int => x.2) hx); omega) (by have := s.l2; simp only at this; omega) (by have := s.l3; simp only at this; omega)
      (k1.1.past hb) ((k2.2.2.past hb).lower (by omega)) (owns_lower (k2.1.1.past hb) (by omega)) (owns_lower (k2.2.1.1.past hb) (by omega))
    rw [n1, n4] at hm
    exact hm)
  have HLM : Hid (∀ V, Below w9.heap.size w9 V → LawM w0 V w1.heap.size w1.heap.size w3.heap.size gW kW w6.heap.size w7.heap.size b1 b2 b3 gL kL gF kF gA kA gO kO Le.length Fo.length Fi.length La.length (psL.map (·.1)) (psO.map (·.1)) (psL.map (fun x => x.2.length)) (psO.map (fun x => x.2.length)) em Wd eL eF eA eO fL fF fA fO P) := hid0 (fun V hV => by
    have h49 := Below.later HT9.out hV
    have h19 := Below.later HB13.out (Below.later HT4.out h49)
    have z1 := HB1.out.size
    have z4 := HT4.out.size
    have z6 := HZ6.out
    have zW := HW4.out.lt
    exact ⟨Below.later HB9.out hV, (lent_ln HmL.out HmO.out HK1.out HK2.out HSz.out HiL.out).kept h19.size (fun k _ hk => h19.block k hk), by rw [List.length_map]; exact n1, by rw [List.length_map]; exact n4, (h49.block _ (by omega)).trans ((HT4.out.block _ hz3).trans HX3.out), HWI.out V h49, HQR.out V hV, (hV.block _ hz9).trans HX9.out, ⟨z1, Nat.le_refl _, hz3, by omega, z6⟩⟩)
  have HE0 := hid0 (HE.out w0 (Below.refl _ _))
  clear x0 x1 x2 x3 x4 x5 x6 p0 p1 p2 p3 p4 y0 y1 y2 y3 y4 z0 z1 z2 z3 z4
  refine wp_region_noPanic ?_
  refine wp_region_held_drew (S := (fun V => (V.cell? ⟨w7.heap.size, 0, none⟩ = some (.slice eL P.le.length fL) ∧ V.cell? ⟨w7.heap.size, 1, none⟩ = some (.slice eF P.fi.length fF) ∧ V.cell? ⟨w7.heap.size, 2, none⟩ = some (.slice eA P.la.length fA) ∧ V.cell? ⟨w7.heap.size, 3, none⟩ = some (.slice eO P.fo.length fO) ∧ V.cell? ⟨w7.heap.size, 4, none⟩ = some (.bool P.em)) ∧ (V.cell? ⟨w.heap.size, 0, none⟩ = some (.slice aL Le.length cL) ∧ V.cell? ⟨w.heap.size, 1, none⟩ = some (.slice aF Fi.length cF) ∧ V.cell? ⟨w.heap.size, 2, none⟩ = some (.slice aA La.length cA) ∧ V.cell? ⟨w.heap.size, 3, none⟩ = some (.slice aO Fo.length cO) ∧ V.cell? ⟨w.heap.size, 4, none⟩ = some (.bool em) ∧ V.cell? ⟨w.heap.size, 5, none⟩ = some (.int .i64 sy) ∧ V.cell? ⟨w.heap.size, 6, none⟩ = some (.slice aW Wd.length cW)))) (by kernel_rfl) ?_ (fun hHeld => ?_)
  · exact HS7.out w10.drew (Below.later HU10.out (drew_below w10))
  refine tkV (i := 0) (d := some 34) (v := ?_) rfl (by kernel_rfl) (by kernel_rfl) (by kernel_rfl) rfl (fun _ _ _ h => h) (by rfl) ?_ (by assumption) ?_
  rotate_left
  · (intro w hSw; (try dsimp only at hSw); (try simp only [List.getElem_toArray, List.getElem_cons_zero]); go_simp; try with_reducible rfl)
  try simp only [Act.put, List.setIfInBounds_toArray, List.set_cons_zero, List.set_cons_succ]
  refine tkV (i := 1) (d := some 35) (v := ?_) rfl (by kernel_rfl) (by kernel_rfl) (by kernel_rfl) rfl (fun _ _ _ h => h) (by rfl) ?_ (by assumption) ?_
  rotate_left
  · (intro w hSw; (try dsimp only at hSw); (try simp only [List.getElem_toArray, List.getElem_cons_zero, List.getElem_cons_succ]); go_simp; try with_reducible rfl)
  try simp only [Act.put, List.setIfInBounds_toArray, List.set_cons_zero, List.set_cons_succ]
  refine tkV (i := 2) (d := some 36) (v := ?_) rfl (by kernel_rfl) (by kernel_rfl) (by kernel_rfl) rfl (fun _ _ _ h => h) (by rfl) ?_ (by assumption) ?_
  rotate_left
  · (intro w hSw; (try dsimp only at hSw); (try simp only [List.getElem_toArray, List.getElem_cons_zero, List.getElem_cons_succ]); go_simp; try with_reducible rfl)
  try simp only [Act.put, List.setIfInBounds_toArray, List.set_cons_zero, List.set_cons_succ]
  refine wpAnyH_ready (rs := [3]) (by kernel_rfl) (by simp) (AllReadyH.cons rfl (fun K hK => ?_) AllReadyH.nil)
  try simp only [List.getElem_toArray, List.getElem_cons_zero, List.getElem_cons_succ]
  go_simp
  refine (refReverse_any aL aF aA aO cL cF cA cO Le Fo Fi La em w10.drew (HPx.out w10.drew (Below.later HB10.out (drew_below w10))) (HNx.out w10.drew (Below.later HB10.out (drew_below w10))) hnF hnA).mono ?_
  rintro e w11 ⟨dL, dF, dA, dO, mL, mF, mA, mO, rfl, hq, h⟩
  unfold posV
  rw [← HPe.out] at hq ⊢
  have HU11 := hid0 (Below.later HU10.out (below_drew h))
  have HQ11 := hid0 hq
  clear h hq
  go_wp2_with fail
  refine hK.out _ _ ?_ (fun hHeld3 => ?_)
  · exact HS7.out w11 HU11.out
  clear hK K
  (try simp only [Act.put]); (try simp only [List.setIfInBounds_toArray]); (try simp only [List.set_cons_succ]); (try simp only [List.set_cons_zero])
  refine wpAnyH_ready (rs := [4]) (by kernel_rfl) (by simp) (AllReadyH.cons rfl (fun K hK => ?_) AllReadyH.nil)
  try simp only [List.getElem_toArray, List.getElem_cons_zero, List.getElem_cons_succ]
  go_simp
  refine (samePos eL eF eA eO dL dF dA dO fL fF fA fO mL mF mA mO P.le P.fo P.fi P.la P.em w11 ((HQR.out w11 HU11.out).posA HSm.out) (HQ11.out.posA HSm.out)).mono ?_
  rintro e w12 ⟨rfl, h⟩
  have HU12 := hid0 (Below.later HU11.out h)
  clear h
  go_wp2_with fail
  refine hK.out _ _ ?_ (fun hHeld4 => ?_)
  · exact HS7.out w12 HU12.out
  clear hK K
  (try simp only [Act.put]); (try simp only [List.setIfInBounds_toArray]); (try simp only [List.set_cons_succ]); (try simp only [List.set_cons_zero])
  refine tkV (i := 5) (d := some 9) (v := ?_) rfl (by kernel_rfl) (by kernel_rfl) (by kernel_rfl) rfl (fun _ _ _ h => h) (by rfl) ?_ (by assumption) ?_
  rotate_left
  · (intro w hSw; (try dsimp only at hSw); (try simp only [List.getElem_toArray, List.getElem_cons_zero, List.getElem_cons_succ]); go_simp; try with_reducible rfl)
  try simp only [Act.put, List.setIfInBounds_toArray, List.set_cons_zero, List.set_cons_succ]
  refine wpAnyH_done (by kernel_rfl) ?_ _
  refine NoPanic.normal ?_
  obtain ⟨x0, x1, x2, x3, x4, x5, x6⟩ := HX7.out w12 (Below.later HB9.out HU12.out)
  obtain ⟨p0, p1, p2, p3, p4⟩ := HP3.out w12 (Below.later HT9.out HU12.out)
  go_upto_region 10 with (first
    | (go_at_call 8; go_loud ((
        refine (samePos _ _ _ _ aL aF aA aO kL kF kA kO cL cF cA cO Le Fo Fi La em w12 (HPF.out w12 (Below.later HT9.out HU12.out)).pos (HPx.out w12 (Below.later HB9.out HU12.out))).mono ?_
        rintro e w13 ⟨rfl, h⟩
        have HU13 := hid0 (Below.later HU12.out h)
        clear h x0 x1 x2 x3 x4 x5 x6 p0 p1 p2 p3 p4
        obtain ⟨p0, p1, p2, p3, p4⟩ := HP3.out w13 (Below.later HT9.out HU13.out))))
    | (go_at_call 17; go_loud ((
        refine (HMk.out w13 HU13.out).mono ?_
        rintro e w14 ⟨rfl, h⟩
        have HU14 := hid0 (Below.later HU13.out h)
        clear h p0 p1 p2 p3 p4)))
    | (go_at_call 18; go_loud ((
        refine (listLeft_any Wd w3.heap.size gW kW w14 (by omega) (HWI.out w14 (Below.later HT9.out HU14.out))).mono ?_
        rintro e w15 ⟨rfl, n15, hw15⟩
        have HU15 : Hid (Below w9.heap.size w9 w15) := hid0 (by { rw [hw15]; exact below_drew' HU14.out n15 })
        clear hw15)))
    | fail)
  refine wp_region_noPanic ?_
  refine wp_region_held_drew (S := (fun V => V.cell? ⟨w.heap.size, 0, none⟩ = some (.slice aL Le.length cL) ∧ V.cell? ⟨w.heap.size, 1, none⟩ = some (.slice aF Fi.length cF) ∧ V.cell? ⟨w.heap.size, 2, none⟩ = some (.slice aA La.length cA) ∧ V.cell? ⟨w.heap.size, 3, none⟩ = some (.slice aO Fo.length cO) ∧ V.cell? ⟨w.heap.size, 4, none⟩ = some (.bool em) ∧ V.cell? ⟨w.heap.size, 5, none⟩ = some (.int .i64 sy) ∧ V.cell? ⟨w.heap.size, 6, none⟩ = some (.slice aW Wd.length cW))) (by kernel_rfl) ?_ (fun hHeld => ?_)
  · exact HX7.out w15.drew (Below.later HB9.out (Below.later HU15.out (drew_below w15)))
  refine tkV (i := 0) (d := some 52) (v := ?_) rfl (by kernel_rfl) (by kernel_rfl) (by kernel_rfl) rfl (fun _ _ _ h => h) (by rfl) ?_ (by assumption) ?_
  rotate_left
  · (intro w hSw; (try dsimp only at hSw); (try simp only [List.getElem_toArray, List.getElem_cons_zero]); go_simp; try with_reducible rfl)
  try simp only [Act.put, List.setIfInBounds_toArray, List.set_cons_zero, List.set_cons_succ]
  refine tkV (i := 2) (d := some 54) (v := ?_) rfl (by kernel_rfl) (by kernel_rfl) (by kernel_rfl) rfl (fun _ _ _ h => h) (by rfl) ?_ (by assumption) ?_
  rotate_left
  · (intro w hSw; (try dsimp only at hSw); (try simp only [List.getElem_toArray, List.getElem_cons_zero, List.getElem_cons_succ]); go_simp; try with_reducible rfl)
  try simp only [Act.put, List.setIfInBounds_toArray, List.set_cons_zero, List.set_cons_succ]
  refine tkV (i := 3) (d := some 55) (v := ?_) rfl (by kernel_rfl) (by kernel_rfl) (by kernel_rfl) rfl (fun _ _ _ h => h) (by rfl) ?_ (by assumption) ?_
  rotate_left
  · (intro w hSw; (try dsimp only at hSw); (try simp only [List.getElem_toArray, List.getElem_cons_zero, List.getElem_cons_succ]); go_simp; try with_reducible rfl)
  try simp only [Act.put, List.setIfInBounds_toArray, List.set_cons_zero, List.set_cons_succ]
  refine tkV (i := 4) (d := some 56) (v := ?_) rfl (by kernel_rfl) (by kernel_rfl) (by kernel_rfl) rfl (fun _ _ _ h => h) (by rfl) ?_ (by assumption) ?_
  rotate_left
  · (intro w hSw; (try dsimp only at hSw); (try simp only [List.getElem_toArray, List.getElem_cons_zero, List.getElem_cons_succ]); go_simp; try with_reducible rfl)
  try simp only [Act.put, List.setIfInBounds_toArray, List.set_cons_zero, List.set_cons_succ]
  refine tkV (i := 5) (d := some 57) (v := ?_) rfl (by kernel_rfl) (by kernel_rfl) (by kernel_rfl) rfl (fun _ _ _ h => h) (by rfl) ?_ (by assumption) ?_
  rotate_left
  · (intro w hSw; (try dsimp only at hSw); (try simp only [List.getElem_toArray, List.getElem_cons_zero, List.getElem_cons_succ]); go_simp; try with_reducible rfl)
  try simp only [Act.put, List.setIfInBounds_toArray, List.set_cons_zero, List.set_cons_succ]
  refine wpAnyH_ready (rs := [1]) (by kernel_rfl) (by simp) (AllReadyH.cons rfl (fun K hK => ?_) AllReadyH.nil)
  try simp only [List.getElem_toArray, List.getElem_cons_zero, List.getElem_cons_succ]
  go_simp
  refine (num_errP A (chkP Le Fo Fi La sy) (fun i hi => chk_lt hi) w15.drew (HE.out w15.drew (Below.later HB9.out (Below.later HU15.out (drew_below w15)))).sen).mono ?_
  rintro e w16 ⟨rfl, hw16⟩
  have hw16' := hw16.symm
  subst hw16'
  clear hw16
  go_wp2_with fail
  refine hK.out _ _ ?_ (fun hHeld1 => ?_)
  · assumption
  clear hK K
  (try simp only [Act.put]); (try simp only [List.setIfInBounds_toArray]); (try simp only [List.set_cons_succ]); (try simp only [List.set_cons_zero])
  refine wpAnyH_ready (rs := [6]) (by kernel_rfl) (by simp) (AllReadyH.cons rfl (fun K hK => ?_) AllReadyH.nil)
  try simp only [List.getElem_toArray, List.getElem_cons_zero, List.getElem_cons_succ]
  go_simp
  refine (refCheck_any sy aL aF aA aO cL cF cA cO Le Fo Fi La em w15.drew (HPx.out w15.drew (Below.later HB9.out (Below.later HU15.out (drew_below w15))))).mono ?_
  rintro e w16 ⟨rfl, h⟩
  have HU16 := hid0 (Below.later HU15.out (below_drew h))
  clear h
  go_wp2_with fail
  refine hK.out _ _ ?_ (fun hHeld6 => ?_)
  · exact HX7.out w16 (Below.later HB9.out HU16.out)
  clear hK K
  (try simp only [Act.put]); (try simp only [List.setIfInBounds_toArray]); (try simp only [List.set_cons_succ]); (try simp only [List.set_cons_zero])
  refine tkV (i := 7) (d := some 59) (v := .bool false) rfl (by kernel_rfl) (by kernel_rfl) (by kernel_rfl) rfl (fun _ _ _ h => h) (by rfl) ?_ (by assumption) ?_
  · (intro w hSw; (try dsimp only at hSw); (try simp only [List.getElem_toArray, List.getElem_cons_zero, List.getElem_cons_succ]); go_simp; try with_reducible rfl)
  try simp only [Act.put, List.setIfInBounds_toArray, List.set_cons_zero, List.set_cons_succ]
  refine tkV (i := 8) (d := some 60) (v := ?_) rfl (by kernel_rfl) (by kernel_rfl) (by kernel_rfl) rfl (fun _ _ _ h => h) (by rfl) ?_ (by assumption) ?_
  rotate_left
  · (intro w hSw; (try dsimp only at hSw); (try simp only [List.getElem_toArray, List.getElem_cons_zero, List.getElem_cons_succ]); go_simp; try with_reducible rfl)
  try simp only [Act.put, List.setIfInBounds_toArray, List.set_cons_zero, List.set_cons_succ]
  refine tkV (i := 9) (d := some 61) (v := ?_) rfl (by kernel_rfl) (by kernel_rfl) (by kernel_rfl) rfl (fun _ _ _ h => h) (by rfl) ?_ (by assumption) ?_
  rotate_left
  · (intro w hSw; (try dsimp only at hSw); (try simp only [List.getElem_toArray, List.getElem_cons_zero, List.getElem_cons_succ]); go_simp; try with_reducible rfl)
  try simp only [Act.put, List.setIfInBounds_toArray, List.set_cons_zero, List.set_cons_succ]
  refine tkV (i := 10) (d := some 62) (v := ?_) rfl (by kernel_rfl) (by kernel_rfl) (by kernel_rfl) rfl (fun _ _ _ h => h) (by rfl) ?_ (by assumption) ?_
  rotate_left
  · (intro w hSw; (try dsimp only at hSw); (try simp only [List.getElem_toArray, List.getElem_cons_zero, List.getElem_cons_succ]); go_simp; try with_reducible rfl)
  try simp only [Act.put, List.setIfInBounds_toArray, List.set_cons_zero, List.set_cons_succ]
  refine tkV (i := 11) (d := some 63) (v := ?_) rfl (by kernel_rfl) (by kernel_rfl) (by kernel_rfl) rfl (fun _ _ _ h => h) (by rfl) ?_ (by assumption) ?_
  rotate_left
  · (intro w hSw; (try dsimp only at hSw); (try simp only [List.getElem_toArray, List.getElem_cons_zero, List.getElem_cons_succ]); go_simp; try with_reducible rfl)
  try simp only [Act.put, List.setIfInBounds_toArray, List.set_cons_zero, List.set_cons_succ]
  refine tkV (i := 12) (d := some 64) (v := ?_) rfl (by kernel_rfl) (by kernel_rfl) (by kernel_rfl) rfl (fun _ _ _ h => h) (by rfl) ?_ (by assumption) ?_
  rotate_left
  · (intro w hSw; (try dsimp only at hSw); (try simp only [List.getElem_toArray, List.getElem_cons_zero, List.getElem_cons_succ]); go_simp; try with_reducible rfl)
  try simp only [Act.put, List.setIfInBounds_toArray, List.set_cons_zero, List.set_cons_succ]
  refine tkV (i := 13) (d := some 65) (v := ?_) rfl (by kernel_rfl) (by kernel_rfl) (by kernel_rfl) rfl (fun _ _ _ h => h) (by rfl) ?_ (by assumption) ?_
  rotate_left
  · (intro w hSw; (try dsimp only at hSw); (try simp only [List.getElem_toArray, List.getElem_cons_zero, List.getElem_cons_succ]); go_simp; try with_reducible rfl)
  try simp only [Act.put, List.setIfInBounds_toArray, List.set_cons_zero, List.set_cons_succ]
  refine wpAnyH_ready (rs := [14]) (by kernel_rfl) (by simp) (AllReadyH.cons rfl (fun K hK => ?_) AllReadyH.nil)
  try simp only [List.getElem_toArray, List.getElem_cons_zero, List.getElem_cons_succ]
  go_simp
  refine (refMatch_any aL aF aA aO aW cL cF cA cO cW Le Fo Fi La Wd em w16 (HPx.out w16 (Below.later HB9.out HU16.out)) (HIx.out w16 (Below.later HB9.out HU16.out)) hwl).mono ?_
  rintro e w17 ⟨rfl, h⟩
  have HU17 := hid0 (Below.later HU16.out h)
  clear h
  go_wp2_with fail
  refine hK.out _ _ ?_ (fun hHeld14 => ?_)
  · exact HX7.out w17 (Below.later HB9.out HU17.out)
  clear hK K
  (try simp only [Act.put]); (try simp only [List.setIfInBounds_toArray]); (try simp only [List.set_cons_succ]); (try simp only [List.set_cons_zero])
  refine tkV (i := 15) (d := some 67) (v := .bool false) rfl (by kernel_rfl) (by kernel_rfl) (by kernel_rfl) rfl (fun _ _ _ h => h) (by rfl) ?_ (by assumption) ?_
  · (intro w hSw; (try dsimp only at hSw); (try simp only [List.getElem_toArray, List.getElem_cons_zero, List.getElem_cons_succ]); go_simp; try with_reducible rfl)
  try simp only [Act.put, List.setIfInBounds_toArray, List.set_cons_zero, List.set_cons_succ]
  refine tkV (i := 16) (d := some 68) (v := ?_) rfl (by kernel_rfl) (by kernel_rfl) (by kernel_rfl) rfl (fun _ _ _ h => h) (by rfl) ?_ (by assumption) ?_
  rotate_left
  · (intro w hSw; (try dsimp only at hSw); (try simp only [List.getElem_toArray, List.getElem_cons_zero, List.getElem_cons_succ]); go_simp; try with_reducible rfl)
  try simp only [Act.put, List.setIfInBounds_toArray, List.set_cons_zero, List.set_cons_succ]
  refine tkV (i := 17) (d := some 69) (v := ?_) rfl (by kernel_rfl) (by kernel_rfl) (by kernel_rfl) rfl (fun _ _ _ h => h) (by rfl) ?_ (by assumption) ?_
  rotate_left
  · (intro w hSw; (try dsimp only at hSw); (try simp only [List.getElem_toArray, List.getElem_cons_zero, List.getElem_cons_succ]); go_simp; try with_reducible rfl)
  try simp only [Act.put, List.setIfInBounds_toArray, List.set_cons_zero, List.set_cons_succ]
  refine tkV (i := 18) (d := some 70) (v := ?_) rfl (by kernel_rfl) (by kernel_rfl) (by kernel_rfl) rfl (fun _ _ _ h => h) (by rfl) ?_ (by assumption) ?_
  rotate_left
  · (intro w hSw; (try dsimp only at hSw); (try simp only [List.getElem_toArray, List.getElem_cons_zero, List.getElem_cons_succ]); go_simp; try with_reducible rfl)
  try simp only [Act.put, List.setIfInBounds_toArray, List.set_cons_zero, List.set_cons_succ]
  refine tkV (i := 19) (d := some 71) (v := ?_) rfl (by kernel_rfl) (by kernel_rfl) (by kernel_rfl) rfl (fun _ _ _ h => h) (by rfl) ?_ (by assumption) ?_
  rotate_left
  · (intro w hSw; (try dsimp only at hSw); (try simp only [List.getElem_toArray, List.getElem_cons_zero, List.getElem_cons_succ]); go_simp; try with_reducible rfl)
  try simp only [Act.put, List.setIfInBounds_toArray, List.set_cons_zero, List.set_cons_succ]
  refine tkV (i := 20) (d := some 72) (v := ?_) rfl (by kernel_rfl) (by kernel_rfl) (by kernel_rfl) rfl (fun _ _ _ h => h) (by rfl) ?_ (by assumption) ?_
  rotate_left
  · (intro w hSw; (try dsimp only at hSw); (try simp only [List.getElem_toArray, List.getElem_cons_zero, List.getElem_cons_succ]); go_simp; try with_reducible rfl)
  try simp only [Act.put, List.setIfInBounds_toArray, List.set_cons_zero, List.set_cons_succ]
  refine tkV (i := 21) (d := some 73) (v := ?_) rfl (by kernel_rfl) (by kernel_rfl) (by kernel_rfl) rfl (fun _ _ _ h => h) (by rfl) ?_ (by assumption) ?_
  rotate_left
  · (intro w hSw; (try dsimp only at hSw); (try simp only [List.getElem_toArray, List.getElem_cons_zero, List.getElem_cons_succ]); go_simp; try with_reducible rfl)
  try simp only [Act.put, List.setIfInBounds_toArray, List.set_cons_zero, List.set_cons_succ]
  refine tkV (i := 22) (d := some 74) (v := ?_) rfl (by kernel_rfl) (by kernel_rfl) (by kernel_rfl) rfl (fun _ _ _ h => h) (by rfl) ?_ (by assumption) ?_
  rotate_left
  · (intro w hSw; (try dsimp only at hSw); (try simp only [List.getElem_toArray, List.getElem_cons_zero, List.getElem_cons_succ]); go_simp; try with_reducible rfl)
  try simp only [Act.put, List.setIfInBounds_toArray, List.set_cons_zero, List.set_cons_succ]
  refine tkV (i := 23) (d := some 75) (v := ?_) rfl (by kernel_rfl) (by kernel_rfl) (by kernel_rfl) rfl (fun _ _ _ h => h) (by rfl) ?_ (by assumption) ?_
  rotate_left
  · (intro w hSw; (try dsimp only at hSw); (try simp only [List.getElem_toArray, List.getElem_cons_zero, List.getElem_cons_succ]); go_simp; try with_reducible rfl)
  try simp only [Act.put, List.setIfInBounds_toArray, List.set_cons_zero, List.set_cons_succ]
  refine tkV (i := 24) (d := some 76) (v := ?_) rfl (by kernel_rfl) (by kernel_rfl) (by kernel_rfl) rfl (fun _ _ _ h => h) (by rfl) ?_ (by assumption) ?_
  rotate_left
  · (intro w hSw; (try dsimp only at hSw); (try simp only [List.getElem_toArray, List.getElem_cons_zero, List.getElem_cons_succ]); go_simp; try with_reducible rfl)
  try simp only [Act.put, List.setIfInBounds_toArray, List.set_cons_zero, List.set_cons_succ]
  refine tkV (i := 25) (d := some 77) (v := ?_) rfl (by kernel_rfl) (by kernel_rfl) (by kernel_rfl) rfl (fun _ _ _ h => h) (by rfl) ?_ (by assumption) ?_
  rotate_left
  · (intro w hSw; (try dsimp only at hSw); (try simp only [List.getElem_toArray, List.getElem_cons_zero, List.getElem_cons_succ]); go_simp; try with_reducible rfl)
  try simp only [Act.put, List.setIfInBounds_toArray, List.set_cons_zero, List.set_cons_succ]
  refine tkV (i := 26) (d := some 78) (v := ?_) rfl (by kernel_rfl) (by kernel_rfl) (by kernel_rfl) rfl (fun _ _ _ h => h) (by rfl) ?_ (by assumption) ?_
  rotate_left
  · (intro w hSw; (try dsimp only at hSw); (try simp only [List.getElem_toArray, List.getElem_cons_zero, List.getElem_cons_succ]); go_simp; try with_reducible rfl)
  try simp only [Act.put, List.setIfInBounds_toArray, List.set_cons_zero, List.set_cons_succ]
  refine tkV (i := 27) (d := some 79) (v := ?_) rfl (by kernel_rfl) (by kernel_rfl) (by kernel_rfl) rfl (fun _ _ _ h => h) (by rfl) ?_ (by assumption) ?_
  rotate_left
  · (intro w hSw; (try dsimp only at hSw); (try simp only [List.getElem_toArray, List.getElem_cons_zero, List.getElem_cons_succ]); go_simp; try with_reducible rfl)
  try simp only [Act.put, List.setIfInBounds_toArray, List.set_cons_zero, List.set_cons_succ]
  refine tkV (i := 28) (d := some 80) (v := ?_) rfl (by kernel_rfl) (by kernel_rfl) (by kernel_rfl) rfl (fun _ _ _ h => h) (by rfl) ?_ (by assumption) ?_
  rotate_left
  · (intro w hSw; (try dsimp only at hSw); (try simp only [List.getElem_toArray, List.getElem_cons_zero, List.getElem_cons_succ]); go_simp; try with_reducible rfl)
  try simp only [Act.put, List.setIfInBounds_toArray, List.set_cons_zero, List.set_cons_succ]
  refine wpAnyH_done (by kernel_rfl) ?_ _
  refine NoPanic.normal ?_
  have HM17 := hid0 (HLM.out w17 HU17.out)
  obtain ⟨x0, x1, x2, x3, x4, x5, x6⟩ := HX7.out w17 HM17.out.bel
  obtain ⟨p0, p1, p2, p3, p4⟩ := row5 HM17.out.x3
  by_cases hW0 : Wd.length = 0
  · have hWI : ¬ (0 : Int) < (Wd.length : Int) := by omega
    have HM := HM17
    have HRd := hid0 (HM17.out.reads A sy hwl HiW.out hsy HE0.out)
    clear hW0
    go_upto_region 17 with (first
      | (go_at_call 22; go_loud ((first
          | (refine HRd.out.mono ?_; rintro e w18 ⟨rfl, h⟩; have HM18 := hid0 (HM.out.past h); have HOv := hid0 (over_any w18 _ _ _ _ _ _ _ _ _ _ _ _ _ _ _ _ _ _ _ em HM18.out.ln); rw [HM18.out.n1, HM18.out.n4] at HOv; clear h HRd x0 x1 x2 x3 x4 x5 x6 p0 p1 p2 p3 p4; obtain ⟨x0, x1, x2, x3, x4, x5, x6⟩ := HX7.out w18 HM18.out.bel; obtain ⟨p0, p1, p2, p3, p4⟩ := row5 HM18.out.x3)
          | (refine HRd2.out.mono ?_; rintro e w20 ⟨rfl, h⟩; have HM20 := hid0 (HM19.out.past h); clear h x0 x1 x2 x3 x4 x5 x6 p0 p1 p2 p3 p4))))
      | (go_at_call 23; go_loud ((
          refine HOv.out.mono ?_
          rintro e w19 ⟨rfl, hl19, ho19⟩
          have HM19 := hid0 (HM18.out.over ho19 hl19)
          have HRd2 := hid0 (HM19.out.reads A sy (by omega) (HiW.out) hsy HE0.out)
          clear hl19 ho19 HOv x0 x1 x2 x3 x4 x5 x6 p0 p1 p2 p3 p4
          obtain ⟨x0, x1, x2, x3, x4, x5, x6⟩ := HX7.out w19 HM19.out.bel
          obtain ⟨p0, p1, p2, p3, p4⟩ := row5 HM19.out.x3)))
      | fail)
    have HS17 : Hid (∀ V, LawM w0 V w1.heap.size w1.heap.size w3.heap.size gW kW w6.heap.size w7.heap.size b1 b2 b3 gL kL gF kF gA kA gO kO Le.length Fo.length Fi.length La.length (psL.map (·.1)) (psO.map (·.1)) (psL.map (fun x => x.2.length)) (psO.map (fun x => x.2.length)) em Wd eL eF eA eO fL fF fA fO P → (V.cell? ⟨w7.heap.size, 0, none⟩ = some (.slice eL P.le.length fL) ∧ V.cell? ⟨w7.heap.size, 1, none⟩ = some (.slice eF P.fi.length fF) ∧ V.cell? ⟨w7.heap.size, 2, none⟩ = some (.slice eA P.la.length fA) ∧ V.cell? ⟨w7.heap.size, 3, none⟩ = some (.slice eO P.fo.length fO) ∧ V.cell? ⟨w7.heap.size, 4, none⟩ = some (.bool P.em)) ∧ (V.cell? ⟨w.heap.size, 0, none⟩ = some (.slice aL Le.length cL) ∧ V.cell? ⟨w.heap.size, 1, none⟩ = some (.slice aF Fi.length cF) ∧ V.cell? ⟨w.heap.size, 2, none⟩ = some (.slice aA La.length cA) ∧ V.cell? ⟨w.heap.size, 3, none⟩ = some (.slice aO Fo.length cO) ∧ V.cell? ⟨w.heap.size, 4, none⟩ = some (.bool em) ∧ V.cell? ⟨w.heap.size, 5, none⟩ = some (.int .i64 sy) ∧ V.cell? ⟨w.heap.size, 6, none⟩ = some (.slice aW Wd.length cW))) := hid0 (fun V hV => ⟨row5 hV.x7, HX7.out V hV.bel⟩)
    refine wp_region_noPanic ?_
    refine wp_region_held_drew (S := (fun V => (V.cell? ⟨w7.heap.size, 0, none⟩ = some (.slice eL P.le.length fL) ∧ V.cell? ⟨w7.heap.size, 1, none⟩ = some (.slice eF P.fi.length fF) ∧ V.cell? ⟨w7.heap.size, 2, none⟩ = some (.slice eA P.la.length fA) ∧ V.cell? ⟨w7.heap.size, 3, none⟩ = some (.slice eO P.fo.length fO) ∧ V.cell? ⟨w7.heap.size, 4, none⟩ = some (.bool P.em)) ∧ (V.cell? ⟨w.heap.size, 0, none⟩ = some (.slice aL Le.length cL) ∧ V.cell? ⟨w.heap.size, 1, none⟩ = some (.slice aF Fi.length cF) ∧ V.cell? ⟨w.heap.size, 2, none⟩ = some (.slice aA La.length cA) ∧ V.cell? ⟨w.heap.size, 3, none⟩ = some (.slice aO Fo.length cO) ∧ V.cell? ⟨w.heap.size, 4, none⟩ = some (.bool em) ∧ V.cell? ⟨w.heap.size, 5, none⟩ = some (.int .i64 sy) ∧ V.cell? ⟨w.heap.size, 6, none⟩ = some (.slice aW Wd.length cW)))) (by kernel_rfl) ?_ (fun hHeld => ?_)
    · exact HS17.out _ (HM20.out.past (drew_below w20))
    refine tkV (i := 0) (d := some 103) (v := ?_) rfl (by kernel_rfl) (by kernel_rfl) (by kernel_rfl) rfl (fun _ _ _ h => h) (by rfl) ?_ (by assumption) ?_
    rotate_left
    · (intro w hSw; (try dsimp only at hSw); (try simp only [List.getElem_toArray, List.getElem_cons_zero]); go_simp; try with_reducible rfl)
    try simp only [Act.put, List.setIfInBounds_toArray, List.set_cons_zero, List.set_cons_succ]
    refine tkV (i := 1) (d := some 104) (v := ?_) rfl (by kernel_rfl) (by kernel_rfl) (by kernel_rfl) rfl (fun _ _ _ h => h) (by rfl) ?_ (by assumption) ?_
    rotate_left
    · (intro w hSw; (try dsimp only at hSw); (try simp only [List.getElem_toArray, List.getElem_cons_zero, List.getElem_cons_succ]); go_simp; try with_reducible rfl)
    try simp only [Act.put, List.setIfInBounds_toArray, List.set_cons_zero, List.set_cons_succ]
    refine tkV (i := 2) (d := some 105) (v := ?_) rfl (by kernel_rfl) (by kernel_rfl) (by kernel_rfl) rfl (fun _ _ _ h => h) (by rfl) ?_ (by assumption) ?_
    rotate_left
    · (intro w hSw; (try dsimp only at hSw); (try simp only [List.getElem_toArray, List.getElem_cons_zero, List.getElem_cons_succ]); go_simp; try with_reducible rfl)
    try simp only [Act.put, List.setIfInBounds_toArray, List.set_cons_zero, List.set_cons_succ]
    refine wpAnyH_ready (rs := [3]) (by kernel_rfl) (by simp) (AllReadyH.cons rfl (fun K hK => ?_) AllReadyH.nil)
    try simp only [List.getElem_toArray, List.getElem_cons_zero, List.getElem_cons_succ]
    go_simp
    refine (refReverse_any aL aF aA aO cL cF cA cO Le Fo Fi La em w20.drew (HPx.out w20.drew (HM20.out.past (drew_below w20)).bel) (HNx.out w20.drew (HM20.out.past (drew_below w20)).bel) hnF hnA).mono ?_
    rintro e w21 ⟨dL, dF, dA, dO, mL, mF, mA, mO, rfl, hq, h⟩
    unfold posV
    rw [← HPe.out] at hq ⊢
    have HM21 := hid0 (HM20.out.past (below_drew h))
    have HQ21 := hid0 hq
    clear h hq
    go_wp2_with fail
    refine hK.out _ _ ?_ (fun hHeld3 => ?_)
    · exact HS17.out w21 HM21.out
    clear hK K
    (try simp only [Act.put]); (try simp only [List.setIfInBounds_toArray]); (try simp only [List.set_cons_succ]); (try simp only [List.set_cons_zero])
    refine wpAnyH_ready (rs := [4]) (by kernel_rfl) (by simp) (AllReadyH.cons rfl (fun K hK => ?_) AllReadyH.nil)
    try simp only [List.getElem_toArray, List.getElem_cons_zero, List.getElem_cons_succ]
    go_simp
    refine (samePos eL eF eA eO dL dF dA dO fL fF fA fO mL mF mA mO P.le P.fo P.fi P.la P.em w21 (HM21.out.r.posA HSm.out) (HQ21.out.posA HSm.out)).mono ?_
    rintro e w22 ⟨rfl, h⟩
    have HM22 := hid0 (HM21.out.past h)
    clear h
    go_wp2_with fail
    refine hK.out _ _ ?_ (fun hHeld4 => ?_)
    · exact HS17.out w22 HM22.out
    clear hK K
    (try simp only [Act.put]); (try simp only [List.setIfInBounds_toArray]); (try simp only [List.set_cons_succ]); (try simp only [List.set_cons_zero])
    refine tkV (i := 5) (d := some 14) (v := ?_) rfl (by kernel_rfl) (by kernel_rfl) (by kernel_rfl) rfl (fun _ _ _ h => h) (by rfl) ?_ (by assumption) ?_
    rotate_left
    · (intro w hSw; (try dsimp only at hSw); (try simp only [List.getElem_toArray, List.getElem_cons_zero, List.getElem_cons_succ]); go_simp; try with_reducible rfl)
    try simp only [Act.put, List.setIfInBounds_toArray, List.set_cons_zero, List.set_cons_succ]
    refine wpAnyH_done (by kernel_rfl) ?_ _
    refine NoPanic.normal ?_
    go_wp2
    go_ret
    exact ⟨rfl, Below.later HB0.out HM22.out.bel⟩
  · have hWI : (0 : Int) < (Wd.length : Int) := by omega
    have hWp : 0 < Wd.length := by omega
    obtain ⟨z, hz⟩ := HM17.out.wd.first hWp
    have hfr := HM17.out.wd.frozen 0
    have hpk := pickN_lt z 2 (by omega)
    have hpI : (pickN z 2 : Int) < 2 := by omega
    have hpI0 : (0 : Int) ≤ (pickN z 2 : Int) := by omega
    have HPk := hid0 (pick_at z 2 (by omega) (by omega) w17)
    have hin : inI (1 - (pickN z 2 : Int)) := by simp [inI, Lit.wf, IntKind.min, IntKind.max, IntKind.bits, IntKind.signed]; omega
    have HiW2 : Hid (∀ y ∈ Wd.set 0 (1 - (pickN z 2 : Int)), inI y) := hid0 (fun y hy => by
      rcases List.mem_or_eq_of_mem_set hy with hy | rfl
      · exact HiW.out y hy
      · exact hin)
    have hm := HM17.out.word hWp (1 - (pickN z 2 : Int))
    obtain ⟨wS, hwS⟩ : ∃ wS, wS = w17.setCell ⟨gW, 0, none⟩ (.int .i64 (1 - (pickN z 2 : Int))) := ⟨_, rfl⟩
    rw [← hwS] at hm
    have HM := hid0 hm
    have HRd := hid0 (HM.out.reads A sy (by rw [List.length_set]; omega) HiW2.out hsy HE0.out)
    rw [List.length_set] at HRd
    have hfS := hwS.symm
    obtain ⟨u0, u1, u2, u3, u4, u5, u6⟩ := HX7.out wS HM.out.bel
    obtain ⟨v0, v1, v2, v3, v4⟩ := row5 HM.out.x3
    clear hW0 hm hwS hin hpk
    go_upto_region 14 with (go_at_call 6; refine HPk.out.mono ?_; rintro e wk ⟨rfl, hwk⟩; have hwk' := hwk.symm; subst hwk'; clear hwk)
    clear x0 x1 x2 x3 x4 x5 x6 p0 p1 p2 p3 p4
    obtain ⟨x0, x1, x2, x3, x4, x5, x6⟩ := HX7.out wS HM.out.bel
    obtain ⟨p0, p1, p2, p3, p4⟩ := row5 HM.out.x3
    clear u0 u1 u2 u3 u4 u5 u6 v0 v1 v2 v3 v4
    go_upto_region 17 with (first
      | (go_at_call 22; go_loud ((first
          | (refine HRd.out.mono ?_; rintro e w18 ⟨rfl, h⟩; have HM18 := hid0 (HM.out.past h); have HOv := hid0 (over_any w18 _ _ _ _ _ _ _ _ _ _ _ _ _ _ _ _ _ _ _ em HM18.out.ln); rw [HM18.out.n1, HM18.out.n4] at HOv; clear h HRd x0 x1 x2 x3 x4 x5 x6 p0 p1 p2 p3 p4; obtain ⟨x0, x1, x2, x3, x4, x5, x6⟩ := HX7.out w18 HM18.out.bel; obtain ⟨p0, p1, p2, p3, p4⟩ := row5 HM18.out.x3)
          | (refine HRd2.out.mono ?_; rintro e w20 ⟨rfl, h⟩; have HM20 := hid0 (HM19.out.past h); clear h x0 x1 x2 x3 x4 x5 x6 p0 p1 p2 p3 p4))))
      | (go_at_call 23; go_loud ((
          refine HOv.out.mono ?_
          rintro e w19 ⟨rfl, hl19, ho19⟩
          have HM19 := hid0 (HM18.out.over ho19 hl19)
          have HRd2 := hid0 (HM19.out.reads A sy (by rw [List.length_set]; omega) (HiW2.out) hsy HE0.out)
          rw [List.length_set] at HRd2
          clear hl19 ho19 HOv x0 x1 x2 x3 x4 x5 x6 p0 p1 p2 p3 p4
          obtain ⟨x0, x1, x2, x3, x4, x5, x6⟩ := HX7.out w19 HM19.out.bel
          obtain ⟨p0, p1, p2, p3, p4⟩ := row5 HM19.out.x3)))
      | fail)
    have HS17 : Hid (∀ V, LawM w0 V w1.heap.size w1.heap.size w3.heap.size gW kW w6.heap.size w7.heap.size b1 b2 b3 gL kL gF kF gA kA gO kO Le.length Fo.length Fi.length La.length (psL.map (·.1)) (psO.map (·.1)) (psL.map (fun x => x.2.length)) (psO.map (fun x => x.2.length)) em (Wd.set 0 (1 - (pickN z 2 : Int))) eL eF eA eO fL fF fA fO P → (V.cell? ⟨w7.heap.size, 0, none⟩ = some (.slice eL P.le.length fL) ∧ V.cell? ⟨w7.heap.size, 1, none⟩ = some (.slice eF P.fi.length fF) ∧ V.cell? ⟨w7.heap.size, 2, none⟩ = some (.slice eA P.la.length fA) ∧ V.cell? ⟨w7.heap.size, 3, none⟩ = some (.slice eO P.fo.length fO) ∧ V.cell? ⟨w7.heap.size, 4, none⟩ = some (.bool P.em)) ∧ (V.cell? ⟨w.heap.size, 0, none⟩ = some (.slice aL Le.length cL) ∧ V.cell? ⟨w.heap.size, 1, none⟩ = some (.slice aF Fi.length cF) ∧ V.cell? ⟨w.heap.size, 2, none⟩ = some (.slice aA La.length cA) ∧ V.cell? ⟨w.heap.size, 3, none⟩ = some (.slice aO Fo.length cO) ∧ V.cell? ⟨w.heap.size, 4, none⟩ = some (.bool em) ∧ V.cell? ⟨w.heap.size, 5, none⟩ = some (.int .i64 sy) ∧ V.cell? ⟨w.heap.size, 6, none⟩ = some (.slice aW Wd.length cW))) := hid0 (fun V hV => ⟨row5 hV.x7, HX7.out V hV.bel⟩)
    refine wp_region_noPanic ?_
    refine wp_region_held_drew (S := (fun V => (V.cell? ⟨w7.heap.size, 0, none⟩ = some (.slice eL P.le.length fL) ∧ V.cell? ⟨w7.heap.size, 1, none⟩ = some (.slice eF P.fi.length fF) ∧ V.cell? ⟨w7.heap.size, 2, none⟩ = some (.slice eA P.la.length fA) ∧ V.cell? ⟨w7.heap.size, 3, none⟩ = some (.slice eO P.fo.length fO) ∧ V.cell? ⟨w7.heap.size, 4, none⟩ = some (.bool P.em)) ∧ (V.cell? ⟨w.heap.size, 0, none⟩ = some (.slice aL Le.length cL) ∧ V.cell? ⟨w.heap.size, 1, none⟩ = some (.slice aF Fi.length cF) ∧ V.cell? ⟨w.heap.size, 2, none⟩ = some (.slice aA La.length cA) ∧ V.cell? ⟨w.heap.size, 3, none⟩ = some (.slice aO Fo.length cO) ∧ V.cell? ⟨w.heap.size, 4, none⟩ = some (.bool em) ∧ V.cell? ⟨w.heap.size, 5, none⟩ = some (.int .i64 sy) ∧ V.cell? ⟨w.heap.size, 6, none⟩ = some (.slice aW Wd.length cW)))) (by kernel_rfl) ?_ (fun hHeld => ?_)
    · exact HS17.out _ (HM20.out.past (drew_below w20))
    refine tkV (i := 0) (d := some 103) (v := ?_) rfl (by kernel_rfl) (by kernel_rfl) (by kernel_rfl) rfl (fun _ _ _ h => h) (by rfl) ?_ (by assumption) ?_
    rotate_left
    · (intro w hSw; (try dsimp only at hSw); (try simp only [List.getElem_toArray, List.getElem_cons_zero]); go_simp; try with_reducible rfl)
    try simp only [Act.put, List.setIfInBounds_toArray, List.set_cons_zero, List.set_cons_succ]
    refine tkV (i := 1) (d := some 104) (v := ?_) rfl (by kernel_rfl) (by kernel_rfl) (by kernel_rfl) rfl (fun _ _ _ h => h) (by rfl) ?_ (by assumption) ?_
    rotate_left
    · (intro w hSw; (try dsimp only at hSw); (try simp only [List.getElem_toArray, List.getElem_cons_zero, List.getElem_cons_succ]); go_simp; try with_reducible rfl)
    try simp only [Act.put, List.setIfInBounds_toArray, List.set_cons_zero, List.set_cons_succ]
    refine tkV (i := 2) (d := some 105) (v := ?_) rfl (by kernel_rfl) (by kernel_rfl) (by kernel_rfl) rfl (fun _ _ _ h => h) (by rfl) ?_ (by assumption) ?_
    rotate_left
    · (intro w hSw; (try dsimp only at hSw); (try simp only [List.getElem_toArray, List.getElem_cons_zero, List.getElem_cons_succ]); go_simp; try with_reducible rfl)
    try simp only [Act.put, List.setIfInBounds_toArray, List.set_cons_zero, List.set_cons_succ]
    refine wpAnyH_ready (rs := [3]) (by kernel_rfl) (by simp) (AllReadyH.cons rfl (fun K hK => ?_) AllReadyH.nil)
    try simp only [List.getElem_toArray, List.getElem_cons_zero, List.getElem_cons_succ]
    go_simp
    refine (refReverse_any aL aF aA aO cL cF cA cO Le Fo Fi La em w20.drew (HPx.out w20.drew (HM20.out.past (drew_below w20)).bel) (HNx.out w20.drew (HM20.out.past (drew_below w20)).bel) hnF hnA).mono ?_
    rintro e w21 ⟨dL, dF, dA, dO, mL, mF, mA, mO, rfl, hq, h⟩
    unfold posV
    rw [← HPe.out] at hq ⊢
    have HM21 := hid0 (HM20.out.past (below_drew h))
    have HQ21 := hid0 hq
    clear h hq
    go_wp2_with fail
    refine hK.out _ _ ?_ (fun hHeld3 => ?_)
    · exact HS17.out w21 HM21.out
    clear hK K
    (try simp only [Act.put]); (try simp only [List.setIfInBounds_toArray]); (try simp only [List.set_cons_succ]); (try simp only [List.set_cons_zero])
    refine wpAnyH_ready (rs := [4]) (by kernel_rfl) (by simp) (AllReadyH.cons rfl (fun K hK => ?_) AllReadyH.nil)
    try simp only [List.getElem_toArray, List.getElem_cons_zero, List.getElem_cons_succ]
    go_simp
    refine (samePos eL eF eA eO dL dF dA dO fL fF fA fO mL mF mA mO P.le P.fo P.fi P.la P.em w21 (HM21.out.r.posA HSm.out) (HQ21.out.posA HSm.out)).mono ?_
    rintro e w22 ⟨rfl, h⟩
    have HM22 := hid0 (HM21.out.past h)
    clear h
    go_wp2_with fail
    refine hK.out _ _ ?_ (fun hHeld4 => ?_)
    · exact HS17.out w22 HM22.out
    clear hK K
    (try simp only [Act.put]); (try simp only [List.setIfInBounds_toArray]); (try simp only [List.set_cons_succ]); (try simp only [List.set_cons_zero])
    refine tkV (i := 5) (d := some 14) (v := ?_) rfl (by kernel_rfl) (by kernel_rfl) (by kernel_rfl) rfl (fun _ _ _ h => h) (by rfl) ?_ (by assumption) ?_
    rotate_left
    · (intro w hSw; (try dsimp only at hSw); (try simp only [List.getElem_toArray, List.getElem_cons_zero, List.getElem_cons_succ]); go_simp; try with_reducible rfl)
    try simp only [Act.put, List.setIfInBounds_toArray, List.set_cons_zero, List.set_cons_succ]
    refine wpAnyH_done (by kernel_rfl) ?_ _
    refine NoPanic.normal ?_
    go_wp2
    go_ret
    exact ⟨rfl, Below.later HB0.out HM22.out.bel⟩
end Go.Proofs.YtlkgghbdgjomkaaDoor
