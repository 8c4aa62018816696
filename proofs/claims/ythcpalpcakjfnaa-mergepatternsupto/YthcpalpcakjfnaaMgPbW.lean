/-
  merge.rulesFrom, merge.cutsOf, and ranges over what they answer.
-/
import Derived.Test.YthcpalpcakjfnaaMgPaM
namespace Go.Proofs.Ythcpalpcakjfnaa
open Go.RowKit Go.Shelf Go.Lib Go.Maps
attribute [local go_sem] Oper.semAt_some
theorem Only.putObj (w : World) (l : Nat) (o : Obj) (S : Nat → Prop) (hl : S l) : Only w (w.putObj l o) S :=
  ⟨rfl, rfl, rfl, by simp, fun k _ hs => World.putObj_heap_other (fun e => hs (e ▸ hl))⟩
theorem Only.ofNew {w w' : World} (h : Below w.heap.size w w') (S : Nat → Prop) : Only w w' S := Only.ofBelow h S (fun i h1 h2 => by omega)
abbrev markD (d : Nat) : Deferred := { target := .collected d, args := #[] }
/-- A function that goes through a list. -/
def SeqC (n gf : Nat) (lb : Array Value) (X : List P3) (I : World → Prop) : Prop := ∀ (l : Nat) (J : Nat → World → Prop) (W : World), (∀ k A, J k A → I A) → (∀ k (h : k < X.length) A, J k A → YieldAt Fence.wide (n - 1) Try.prog l #[val3 X[k]] A fun e A' => e = .returned (.bool true) ∧ J (k + 1) A') → J 0 W →
  CallsIn Fence.wide n Try.prog gf (#[.func (.yield l) #[] #[]] ++ lb) W fun e W' => (∃ v, e = .returned v) ∧ J X.length W'
set_option maxRecDepth 100000 in
set_option maxHeartbeats 1000000 in
theorem rulesFrom_in (n : Nat) (lo hi : Int) (w : World) :
    CallsIn Fence.wide n Try.prog 24 #[.int .i64 lo, .int .i64 hi] w fun e w' => e = .returned (.func (.func 29) #[] #[.pointer (some ⟨w.heap.size, 0, none⟩), .pointer (some ⟨w.heap.size + 1, 0, none⟩)]) ∧ w' = (w.alloc (.cells #[.int .i64 lo] 3)).alloc (.cells #[.int .i64 hi] 3) := by
  refine callsIn_of_wp Try.func24 rfl trivial ?_ rfl
  simp only [Try.ntmps24, List.size_toArray, List.length_cons, List.length_nil, Nat.reduceAdd, Nat.reduceSub, Array.replicate_succ, Array.replicate_zero, List.push_toArray, List.append_toArray, List.nil_append, List.cons_append]
  gi_wp2
  go_ret
  exact ⟨rfl, rfl⟩
set_option maxRecDepth 100000 in
set_option maxHeartbeats 1000000 in
theorem cutsOf_in (n : Nat) (a : Option Addr) (m c : Nat) (w : World) :
    CallsIn Fence.wide n Try.prog 25 #[.slice a m c] w fun e w' => e = .returned (.func (.func 30) #[] #[.pointer (some ⟨w.heap.size, 0, none⟩)]) ∧ w' = w.alloc (.cells #[.slice a m c] 32) := by
  refine callsIn_of_wp Try.func25 rfl trivial ?_ rfl
  simp only [Try.ntmps25, List.size_toArray, List.length_cons, List.length_nil, Nat.reduceAdd, Nat.reduceSub, Array.replicate_succ, Array.replicate_zero, List.push_toArray, List.append_toArray, List.nil_append, List.cons_append]
  gi_wp2
  go_ret
  exact ⟨rfl, rfl⟩
set_option maxRecDepth 100000 in
set_option maxHeartbeats 1000000 in
theorem rulesFrom1_in (n : Nat) (_hn : 1 ≤ n) (b1 b2 lo m : Nat) (hm : lo + m ≤ 100000000) :
    SeqC n 29 #[.pointer (some ⟨b1, 0, none⟩), .pointer (some ⟨b2, 0, none⟩)] (ruX lo m) (fun A => A.cell? ⟨b1, 0, none⟩ = some (.int .i64 (lo : Int)) ∧ A.cell? ⟨b2, 0, none⟩ = some (.int .i64 ((lo + m : Nat) : Int))) := by
  intro l J W hI hY h0
  obtain ⟨c1, c2⟩ := hI 0 W h0
  have HI := hid0 hI
  have HY := hid0 hY
  have HJ := hid0 h0
  clear hI hY h0
  simp only [List.append_toArray, List.cons_append, List.nil_append]
  refine callsIn_of_wp Try.func29 rfl trivial ?_ rfl
  simp only [Try.ntmps29, List.size_toArray, List.length_cons, List.length_nil, Nat.reduceAdd, Nat.reduceSub, Array.replicate_succ, Array.replicate_zero, List.push_toArray, List.append_toArray, List.nil_append, List.cons_append]
  gi_wp2
  clear c1
  gi_loopw [4] (fun i wr => ∃ k : Nat, k ≤ m ∧ i = .int .i64 ((lo : Int) + (k : Int)) ∧ Hid (J k wr)) (fun i _ => lo + m - (intOf i).toNat)
  case atStart => exact ⟨0, Nat.zero_le _, by simp, HJ⟩
  case round =>
    clear c2
    obtain ⟨k, hk, rfl, HJk⟩ := hrel
    obtain ⟨c1, c2⟩ := HI.out k wr HJk.out
    by_cases hlt : k < m
    · have hki : (lo : Int) + (k : Int) < ((lo + m : Nat) : Int) := by omega
      have hkl : k < (ruX lo m).length := by rw [ruX_len]; exact hlt
      have hY := HY.out k hkl wr HJk.out
      rw [ruX_at] at hY
      obtain ⟨fn, tmps, assign, body, hy, hR⟩ := hY
      unfold val3 at hy
      simp only [] at hy
      have hwk : IntKind.i64.wrap ((lo : Int) + (k : Int) + 1) = (lo : Int) + (k : Int) + 1 := by simp [IntKind.wrap, IntKind.bits, IntKind.signed]; omega
      have HRd := hid0 hR
      clear hR HY hkl
      gi_wp2
      refine HRd.out.mono ?_
      rintro e W3 ⟨rfl, hj3⟩
      have HJ3 := hid0 hj3
      clear hj3 hy HRd
      gi_wp2
      go_roundw
      case rel => exact ⟨k + 1, by omega, by congr 1, HJ3⟩
      case measure => simp [intOf]; omega
    · have hki : ¬ (lo : Int) + (k : Int) < ((lo + m : Nat) : Int) := by omega
      have hkm : k = m := by omega
      subst hkm
      gi_wp2
      go_end0
      exact ⟨⟨_, rfl⟩, by rw [ruX_len]; exact HJk.out⟩

theorem wpIn_rangeRu {gop : Operand} {ps : Array Tmp} {assign body : Code} {Q : Exit → Act → World → Prop} {a : Act} {w : World} (n : Nat) (hn : 2 ≤ n) (b1 b2 : Nat) (X : List P3) (I : World → Prop) (hS : SeqC (n - 1) 29 #[.pointer (some ⟨b1, 0, none⟩), .pointer (some ⟨b2, 0, none⟩)] X I)
    (hg : a.eval gop = .func (.func 29) #[] #[.pointer (some ⟨b1, 0, none⟩), .pointer (some ⟨b2, 0, none⟩)]) (hps : ps.size = 1)
    (J : Nat → World → Prop) (hJk : ∀ k A B, J k A → Only A B (fun b => b = w.heap.size ∨ b = w.heap.size + 1) → J k B) (hJs : ∀ k A, J k A → I A) (h0 : J 0 w) (act : P3 → Nat → Act)
    (hassign : ∀ (l : Nat) (x : P3) (W : World) (K : Act → World → Prop), K (act x W.heap.size) (W.alloc (.cells #[.int .i64 x.1, .int .i64 x.2.1, .int .i64 x.2.2] 54)) → assign.wpIn (Fence.wide.inRound l) (n - 1 - 1) Try.prog (Exit.then K (fun _ _ _ => False)) { tmps := (ps.zip #[val3 x]).foldl (fun t (p, v) => t.setIfInBounds p v) a.tmps, defers := [] } W)
    (hbody : ∀ (l k : Nat) (hk : k < X.length) (Bx : Nat) (W : World), J k W → W.heap[Bx]? = some (.cells #[.int .i64 X[k].1, .int .i64 X[k].2.1, .int .i64 X[k].2.2] 54 (0, 0)) → (W.heap[w.heap.size]? = some (.deferred (some [])) ∧ ∃ rc, W.heap[w.heap.size + 1]? = some (.loop rc)) → body.wpIn (Fence.wide.inRound l) (n - 1 - 1) Try.prog (fun e _ W' => e = .normal ∧ J (k + 1) W' ∧ Only W W' (fun k => k ≠ w.heap.size ∧ k ≠ w.heap.size + 1)) (act X[k] Bx) W)
    (hdone : ∀ W, J X.length W → W.heap[w.heap.size]? = some (.deferred (some [])) → Q .normal { a with defers := markD w.heap.size :: a.defers } W) :
    (Code.rangeFunc gop ps assign body).wpIn Fence.wide n Try.prog Q a w := by
  refine wpIn_rangeFunc ?_
  intro fn hfn
  obtain ⟨rec, hrec⟩ : ∃ rec : LoopState → Loop, rec = fun st => { state := st, pending := none, fn, tmps := a.tmps, params := ps, assign, body, defers := w.heap.size } := ⟨_, rfl⟩
  obtain ⟨W1, hW1⟩ : ∃ W1, (w.alloc (.deferred (some []))).alloc (.loop (rec .ready)) = W1 := ⟨_, rfl⟩
  have hs1 : W1.heap.size = w.heap.size + 2 := by rw [← hW1]; simp
  have hL1 : W1.heap[w.heap.size + 1]? = some (.loop (rec .ready)) := by
    rw [← hW1]; have := World.alloc_heap_new (w.alloc (.deferred (some []))) (.loop (rec .ready)); rwa [World.size_alloc] at this
  have hD1 : W1.heap[w.heap.size]? = some (.deferred (some [])) := by
    rw [← hW1]; exact (Below.heap_alloc _ _ _ (by simp)).trans (World.alloc_heap_new w _)
  have hb1 : Below w.heap.size w W1 := by rw [← hW1]; exact ((Below.refl _ w).alloc (Nat.le_refl _) _).alloc (by simp) _
  have hJ1 : J 0 W1 := hJk _ _ _ h0 (Only.ofNew hb1 _)
  refine ⟨w.heap.size + 1, [{ target := .collected w.heap.size, args := #[] }], W1, { target := .fn (.func 29) #[.pointer (some ⟨b1, 0, none⟩), .pointer (some ⟨b2, 0, none⟩)], args := #[.func (.yield (w.heap.size + 1)) #[] #[]] }, W1, 29,
    #[.func (.yield (w.heap.size + 1)) #[] #[], .pointer (some ⟨b1, 0, none⟩), .pointer (some ⟨b2, 0, none⟩)], W1, ?_, ?_, ?_, ?_, fun _ => by omega, ?_⟩
  · rw [← hW1, hrec]; exact run_enterLoop_outer _ _ _ _ _
  · simp only [resolve, hg]
    simp [go_sem]
  · intro f' hf'; simp [Target.leads] at hf'; subst hf'; trivial
  · simp [invoke, go_sem]
  · refine (hS (w.heap.size + 1) (fun k W => J k W ∧ W.heap[w.heap.size + 1]? = some (.loop (rec .ready)) ∧ W.heap[w.heap.size]? = some (.deferred (some []))) W1 (fun k A h => hJs k A h.1) ?_ ⟨hJ1, hL1, hD1⟩).mono ?_
    · rintro k hk W ⟨hi, hl, hd⟩
      have hy := run_yield (P := Try.prog) (args := #[val3 X[k]]) hl (by rw [hrec]; simp [hps])
      rw [hrec] at hy
      refine ⟨fn, _, assign, body, hy, roundIn_of_wpIn hfn (hassign _ X[k] W _ ?_)⟩
      have hba : Below W.heap.size W (W.alloc (.cells #[.int .i64 X[k].1, .int .i64 X[k].2.1, .int .i64 X[k].2.2] 54)) := (Below.refl _ W).alloc (Nat.le_refl _) _
      have hx := World.alloc_heap_new W (.cells #[.int .i64 X[k].1, .int .i64 X[k].2.1, .int .i64 X[k].2.2] 54)
      have hi := hJk _ _ _ hi (Only.ofNew hba _)
      have hl := (hba.block _ (Array.getElem?_eq_some_iff.1 hl).1).trans hl
      have hd := (hba.block _ (Array.getElem?_eq_some_iff.1 hd).1).trans hd
      have hBx : w.heap.size + 1 < W.heap.size := by
        rcases Nat.lt_or_ge (w.heap.size + 1) W.heap.size with q | q
        · exact q
        · exfalso
          rename_i hl0 _
          have := (Array.getElem?_eq_some_iff.1 hl0).1
          omega
      generalize W.alloc (.cells #[.int .i64 X[k].1, .int .i64 X[k].2.1, .int .i64 X[k].2.2] 54) = V at *
      have hlt : w.heap.size + 1 < V.heap.size := (Array.getElem?_eq_some_iff.1 hl).1
      refine ⟨_, run_beginRound hl (by rw [hrec]), ?_⟩
      have hl2 : (V.putObj (w.heap.size + 1) (.loop { rec .ready with state := .busy })).heap[w.heap.size + 1]? = some (.loop { rec .ready with state := .busy }) := World.putObj_heap_same hlt
      have hk2 : (V.putObj (w.heap.size + 1) (.loop { rec .ready with state := .busy })).heap[w.heap.size]? = some (.deferred (some [])) := (World.putObj_heap_other (by omega)).trans hd
      have hx2 : (V.putObj (w.heap.size + 1) (.loop { rec .ready with state := .busy })).heap[W.heap.size]? = some (.cells #[.int .i64 X[k].1, .int .i64 X[k].2.1, .int .i64 X[k].2.2] 54 (0, 0)) := (World.putObj_heap_other (by omega)).trans hx
      refine wpIn_mono (hbody _ k hk W.heap.size _ (hJk _ _ _ hi (Only.putObj _ _ _ _ (.inr rfl))) hx2 ⟨hk2, _, hl2⟩) ?_
      rintro e a3 W3 ⟨rfl, hj3, ho3⟩
      have hl3 := (ho3.block (w.heap.size + 1) (Array.getElem?_eq_some_iff.1 hl2).1 (fun q => q.2 rfl)).trans hl2
      have hk3 := (ho3.block w.heap.size (Array.getElem?_eq_some_iff.1 hk2).1 (fun q => q.1 rfl)).trans hk2
      have hr := run_endRound (P := Try.prog) none hl3
      rw [hrec] at hr
      refine ⟨_, _, hr, rfl, hJk _ _ _ hj3 (Only.putObj _ _ _ _ (.inr rfl)), ?_, (World.putObj_heap_other (by omega)).trans hk3⟩
      rw [hrec]
      exact World.putObj_heap_same (Array.getElem?_eq_some_iff.1 hl3).1
    · rintro e W2 ⟨⟨v, rfl⟩, hj, hl, hk⟩
      have hr := run_endLoop (P := Try.prog) hl (by rw [hrec]; simp)
      rw [hrec] at hr
      exact ⟨none, _, hr, hdone _ (hJk _ _ _ hj (Only.putObj _ _ _ _ (.inr rfl))) ((World.putObj_heap_other (by omega)).trans hk)⟩

theorem wpIn_rangeCut {gop : Operand} {ps : Array Tmp} {assign body : Code} {Q : Exit → Act → World → Prop} {a : Act} {w : World} (n : Nat) (hn : 2 ≤ n) (b1 : Nat) (X : List P3) (I : World → Prop) (hS : SeqC (n - 1) 30 #[.pointer (some ⟨b1, 0, none⟩)] X I)
    (hg : a.eval gop = .func (.func 30) #[] #[.pointer (some ⟨b1, 0, none⟩)]) (hps : ps.size = 1)
    (J : Nat → World → Prop) (hJk : ∀ k A B, J k A → Only A B (fun b => b = w.heap.size ∨ b = w.heap.size + 1) → J k B) (hJs : ∀ k A, J k A → I A) (h0 : J 0 w) (act : P3 → Nat → Act)
    (hassign : ∀ (l : Nat) (x : P3) (W : World) (K : Act → World → Prop), K (act x W.heap.size) (W.alloc (.cells #[.int .i64 x.1, .int .i64 x.2.1, .int .i64 x.2.2] 54)) → assign.wpIn (Fence.wide.inRound l) (n - 1 - 1) Try.prog (Exit.then K (fun _ _ _ => False)) { tmps := (ps.zip #[val3 x]).foldl (fun t (p, v) => t.setIfInBounds p v) a.tmps, defers := [] } W)
    (hbody : ∀ (l k : Nat) (hk : k < X.length) (Bx : Nat) (W : World), J k W → W.heap[Bx]? = some (.cells #[.int .i64 X[k].1, .int .i64 X[k].2.1, .int .i64 X[k].2.2] 54 (0, 0)) → (W.heap[w.heap.size]? = some (.deferred (some [])) ∧ ∃ rc, W.heap[w.heap.size + 1]? = some (.loop rc)) → body.wpIn (Fence.wide.inRound l) (n - 1 - 1) Try.prog (fun e _ W' => e = .normal ∧ J (k + 1) W' ∧ Only W W' (fun k => k ≠ w.heap.size ∧ k ≠ w.heap.size + 1)) (act X[k] Bx) W)
    (hdone : ∀ W, J X.length W → W.heap[w.heap.size]? = some (.deferred (some [])) → Q .normal { a with defers := markD w.heap.size :: a.defers } W) :
    (Code.rangeFunc gop ps assign body).wpIn Fence.wide n Try.prog Q a w := by
  refine wpIn_rangeFunc ?_
  intro fn hfn
  obtain ⟨rec, hrec⟩ : ∃ rec : LoopState → Loop, rec = fun st => { state := st, pending := none, fn, tmps := a.tmps, params := ps, assign, body, defers := w.heap.size } := ⟨_, rfl⟩
  obtain ⟨W1, hW1⟩ : ∃ W1, (w.alloc (.deferred (some []))).alloc (.loop (rec .ready)) = W1 := ⟨_, rfl⟩
  have hs1 : W1.heap.size = w.heap.size + 2 := by rw [← hW1]; simp
  have hL1 : W1.heap[w.heap.size + 1]? = some (.loop (rec .ready)) := by
    rw [← hW1]; have := World.alloc_heap_new (w.alloc (.deferred (some []))) (.loop (rec .ready)); rwa [World.size_alloc] at this
  have hD1 : W1.heap[w.heap.size]? = some (.deferred (some [])) := by
    rw [← hW1]; exact (Below.heap_alloc _ _ _ (by simp)).trans (World.alloc_heap_new w _)
  have hb1 : Below w.heap.size w W1 := by rw [← hW1]; exact ((Below.refl _ w).alloc (Nat.le_refl _) _).alloc (by simp) _
  have hJ1 : J 0 W1 := hJk _ _ _ h0 (Only.ofNew hb1 _)
  refine ⟨w.heap.size + 1, [{ target := .collected w.heap.size, args := #[] }], W1, { target := .fn (.func 30) #[.pointer (some ⟨b1, 0, none⟩)], args := #[.func (.yield (w.heap.size + 1)) #[] #[]] }, W1, 30,
    #[.func (.yield (w.heap.size + 1)) #[] #[], .pointer (some ⟨b1, 0, none⟩)], W1, ?_, ?_, ?_, ?_, fun _ => by omega, ?_⟩
  · rw [← hW1, hrec]; exact run_enterLoop_outer _ _ _ _ _
  · simp only [resolve, hg]
    simp [go_sem]
  · intro f' hf'; simp [Target.leads] at hf'; subst hf'; trivial
  · simp [invoke, go_sem]
  · refine (hS (w.heap.size + 1) (fun k W => J k W ∧ W.heap[w.heap.size + 1]? = some (.loop (rec .ready)) ∧ W.heap[w.heap.size]? = some (.deferred (some []))) W1 (fun k A h => hJs k A h.1) ?_ ⟨hJ1, hL1, hD1⟩).mono ?_
    · rintro k hk W ⟨hi, hl, hd⟩
      have hy := run_yield (P := Try.prog) (args := #[val3 X[k]]) hl (by rw [hrec]; simp [hps])
      rw [hrec] at hy
      refine ⟨fn, _, assign, body, hy, roundIn_of_wpIn hfn (hassign _ X[k] W _ ?_)⟩
      have hba : Below W.heap.size W (W.alloc (.cells #[.int .i64 X[k].1, .int .i64 X[k].2.1, .int .i64 X[k].2.2] 54)) := (Below.refl _ W).alloc (Nat.le_refl _) _
      have hx := World.alloc_heap_new W (.cells #[.int .i64 X[k].1, .int .i64 X[k].2.1, .int .i64 X[k].2.2] 54)
      have hi := hJk _ _ _ hi (Only.ofNew hba _)
      have hl := (hba.block _ (Array.getElem?_eq_some_iff.1 hl).1).trans hl
      have hd := (hba.block _ (Array.getElem?_eq_some_iff.1 hd).1).trans hd
      have hBx : w.heap.size + 1 < W.heap.size := by
        rcases Nat.lt_or_ge (w.heap.size + 1) W.heap.size with q | q
        · exact q
        · exfalso
          rename_i hl0 _
          have := (Array.getElem?_eq_some_iff.1 hl0).1
          omega
      generalize W.alloc (.cells #[.int .i64 X[k].1, .int .i64 X[k].2.1, .int .i64 X[k].2.2] 54) = V at *
      have hlt : w.heap.size + 1 < V.heap.size := (Array.getElem?_eq_some_iff.1 hl).1
      refine ⟨_, run_beginRound hl (by rw [hrec]), ?_⟩
      have hl2 : (V.putObj (w.heap.size + 1) (.loop { rec .ready with state := .busy })).heap[w.heap.size + 1]? = some (.loop { rec .ready with state := .busy }) := World.putObj_heap_same hlt
      have hk2 : (V.putObj (w.heap.size + 1) (.loop { rec .ready with state := .busy })).heap[w.heap.size]? = some (.deferred (some [])) := (World.putObj_heap_other (by omega)).trans hd
      have hx2 : (V.putObj (w.heap.size + 1) (.loop { rec .ready with state := .busy })).heap[W.heap.size]? = some (.cells #[.int .i64 X[k].1, .int .i64 X[k].2.1, .int .i64 X[k].2.2] 54 (0, 0)) := (World.putObj_heap_other (by omega)).trans hx
      refine wpIn_mono (hbody _ k hk W.heap.size _ (hJk _ _ _ hi (Only.putObj _ _ _ _ (.inr rfl))) hx2 ⟨hk2, _, hl2⟩) ?_
      rintro e a3 W3 ⟨rfl, hj3, ho3⟩
      have hl3 := (ho3.block (w.heap.size + 1) (Array.getElem?_eq_some_iff.1 hl2).1 (fun q => q.2 rfl)).trans hl2
      have hk3 := (ho3.block w.heap.size (Array.getElem?_eq_some_iff.1 hk2).1 (fun q => q.1 rfl)).trans hk2
      have hr := run_endRound (P := Try.prog) none hl3
      rw [hrec] at hr
      refine ⟨_, _, hr, rfl, hJk _ _ _ hj3 (Only.putObj _ _ _ _ (.inr rfl)), ?_, (World.putObj_heap_other (by omega)).trans hk3⟩
      rw [hrec]
      exact World.putObj_heap_same (Array.getElem?_eq_some_iff.1 hl3).1
    · rintro e W2 ⟨⟨v, rfl⟩, hj, hl, hk⟩
      have hr := run_endLoop (P := Try.prog) hl (by rw [hrec]; simp)
      rw [hrec] at hr
      exact ⟨none, _, hr, hdone _ (hJk _ _ _ hj (Only.putObj _ _ _ _ (.inr rfl))) ((World.putObj_heap_other (by omega)).trans hk)⟩
set_option maxRecDepth 100000 in
set_option maxHeartbeats 1000000 in
theorem cutsOf1_in (n : Nat) (_hn : 1 ≤ n) (b1 : Nat) (a : Option Addr) (Ls : List Nat) (cc : Nat) (hl : Ls.length ≤ 100000000) (hm : ∀ m ∈ Ls, m ≤ 100000000) :
    SeqC n 30 #[.pointer (some ⟨b1, 0, none⟩)] (cutX Ls Ls.length) (fun A => A.cell? ⟨b1, 0, none⟩ = some (.slice a Ls.length cc) ∧ LenA A a Ls) := by
  intro l J W hI hY h0
  obtain ⟨c1, _⟩ := hI 0 W h0
  have HI := hid0 hI
  have HY := hid0 hY
  have HM := hid0 hm
  have HJ : Hid (J (cutX Ls 0).length W) := hid0 h0
  clear hI hY h0 hm
  simp only [List.append_toArray, List.cons_append, List.nil_append]
  refine callsIn_of_wp Try.func30 rfl trivial ?_ rfl
  simp only [Try.ntmps30, List.size_toArray, List.length_cons, List.length_nil, Nat.reduceAdd, Nat.reduceSub, Array.replicate_succ, Array.replicate_zero, List.push_toArray, List.append_toArray, List.nil_append, List.cons_append]
  gi_wp2
  clear c1
  gi_loopw [3, 4, 5, 8] (fun _ _ _ i wr => ∃ k : Nat, k ≤ Ls.length ∧ i = .int .i64 (k : Int) ∧ Hid (J (cutX Ls k).length wr)) (fun _ _ _ i _ => Ls.length - (intOf i).toNat)
  case atStart => exact ⟨0, Nat.zero_le _, rfl, HJ⟩
  case round =>
    clear HJ
    obtain ⟨k, hk, rfl, HJk⟩ := hrel
    by_cases hlt : k < Ls.length
    · have hki : (k : Int) < (Ls.length : Int) := by omega
      have hk0 : (0 : Int) ≤ (k : Int) := by omega
      obtain ⟨b, off, a1, c1, rfl, hc⟩ := (HI.out _ wr HJk.out).2.at' k hlt
      have hml := HM.out _ (List.getElem_mem hlt)
      have HAt := hid0 (fun c hc => cutX_at Ls k c hlt hc)
      have HNx : Hid ((cutX Ls (k + 1)).length = (cutX Ls k).length + Ls[k]) := hid0 (by rw [cutX, List.length_append, cutR_len, List.getD_eq_getElem?_getD, List.getElem?_eq_getElem hlt]; rfl)
      have hwk : IntKind.i64.wrap ((k : Int) + 1) = (k : Int) + 1 := by simp [IntKind.wrap, IntKind.bits, IntKind.signed]; omega
      generalize Ls[k] = m at *
      gi_wp2
      clear hc
      gi_loopw [5] (fun c wq => ∃ j : Nat, j ≤ m ∧ c = .int .i64 ((j : Int) + 1) ∧ Hid (J ((cutX Ls k).length + j) wq)) (fun c _ => m + 1 - (intOf c).toNat)
      case atStart => exact ⟨0, Nat.zero_le _, rfl, HJk⟩
      case round =>
        clear HJk
        obtain ⟨j, hj, rfl, HJj⟩ := hrel
        obtain ⟨wz, hwz⟩ : ∃ wz, wz = wr := ⟨_, rfl⟩
        subst hwz
        by_cases hjl : j < m
        · have hji : (j : Int) + 1 ≤ (m : Int) := by omega
          obtain ⟨hxl, hxe⟩ := HAt.out j hjl
          have hY := HY.out _ hxl wz HJj.out
          rw [hxe] at hY
          obtain ⟨fn, tmps, assign, body, hy, hR⟩ := hY
          unfold val3 at hy
          simp only [] at hy
          have hwj : IntKind.i64.wrap ((j : Int) + 1 + 1) = (j : Int) + 1 + 1 := by simp [IntKind.wrap, IntKind.bits, IntKind.signed]; omega
          have HRd := hid0 hR
          clear hR hxl hxe
          gi_wp2
          refine HRd.out.mono ?_
          rintro e W3 ⟨rfl, hj3⟩
          have HJ3 : Hid (J ((cutX Ls k).length + (j + 1)) W3) := hid0 hj3
          clear hj3 hy HRd
          gi_wp2
          go_roundw
          case rel => exact ⟨j + 1, by omega, by congr 1, HJ3⟩
          case measure => simp [intOf]; omega
        · have hji : ¬ (j : Int) + 1 ≤ (m : Int) := by omega
          have hjm : j = m := by omega
          subst hjm
          gi_wp2
          go_roundw
          case rel => exact ⟨k + 1, by omega, by congr 1, hid0 (by rw [HNx.out]; exact HJj.out)⟩
          case measure => simp [intOf]; omega
    · have hki : ¬ (k : Int) < (Ls.length : Int) := by omega
      have hkm : k = Ls.length := by omega
      subst hkm
      gi_wp2
      go_end0
      exact ⟨⟨_, rfl⟩, HJk.out⟩
end Go.Proofs.Ythcpalpcakjfnaa
