/-
  MbHW, MbIM, RdM.
-/
import Derived.Test.YtbbejfkgopcjoaaDoorNeaf
import Derived.Test.YtbbejfkgopcjoaaDoorProg
import Derived.WalkKit
import Derived.Deep.RegionHeld3
import Derived.RangeFuncNested
import Derived.OwnWalkIn
import Derived.TacticsInMore
namespace Go.Proofs.YtbbejfkgopcjoaaDoor
open Go.RowKit Go.Shelf
/-- As KpT, but for one block. -/
structure KpB (b : Nat) (W W' : World) : Prop where
  size : W.heap.size ≤ W'.heap.size
  keep : ∀ (k : Nat) (o : Obj), k ≠ b → W.heap[k]? = some o → kT o = true → W'.heap[k]? = some o
theorem KpT.b {W W' : World} (h : KpT W W') (b : Nat) : KpB b W W' := ⟨h.size, fun k o _ h1 h2 => h.keep k o h1 h2⟩
theorem KpB.trans {b : Nat} {A B C : World} (h : KpB b A B) (k : KpB b B C) : KpB b A C := ⟨Nat.le_trans h.size k.size, fun i o hi ho hk => k.keep i o hi (h.keep i o hi ho hk) hk⟩
theorem KpB.out {b : Nat} {A B C : World} (h : Below A.heap.size A B) (k : KpB b B C) (hb : A.heap.size ≤ b) : KpT A C := ⟨Nat.le_trans h.size k.size, fun i o ho hk => by
  have hi := (Array.getElem?_eq_some_iff.1 ho).1
  exact k.keep i o (by omega) ((h.block i hi).trans ho) hk⟩
/-- An activation in whose slot p a word is put, in q where it lies. -/
def actV (a : Act) (f : Nat → Bool) (p q bx x : Nat) : Act := { tmps := (a.tmps.setIfInBounds p (.agg #[.int .i64 (x : Int), .int .u64 (wordOf f x : Int)])).setIfInBounds q (.pointer (some ⟨bx, 0, none⟩)), defers := [] }
theorem wpIn_rangeWords {gop : Operand} {p : Tmp} {assign body : Code} {Q : Exit → Act → World → Prop} {a : Act} {w : World} (q n : Nat) (hn : 2 ≤ n) (tb N : Nat) (f : Nat → Bool) (hN : N ≤ 1000000)
    (hg : a.eval gop = .func (.func 88) #[] #[.pointer (some ⟨tb, 0, none⟩)]) (htb : w.heap[tb]? = some (.cells #[.string ⟨(encW f N).toArray⟩] 9 (0, 0)))
    (J : List Nat → World → Prop) (hJk : ∀ pre A B, J pre A → Only A B (fun k => k = tb ∨ (w.heap.size ≤ k ∧ ∃ o, A.heap[k]? = some o ∧ o.isCells = false)) → J pre B) (h0 : J [] w)
    (hassign : ∀ (l x : Nat) (W : World) (K : Act → World → Prop), K (actV a f p q W.heap.size x) (W.alloc (.cells #[.int .i64 (x : Int), .int .u64 (wordOf f x : Int)] 130)) → assign.wpIn (Fence.wide.inRound l) (n - 1 - 1) Tryd.prog (Exit.then K (fun _ _ _ => False)) { tmps := a.tmps.setIfInBounds p (.agg #[.int .i64 (x : Int), .int .u64 (wordOf f x : Int)]), defers := [] } W)
    (hbody : ∀ (l : Nat) (pre : List Nat) (x bx : Nat) (r : Loop) (W : World), J pre W → x < N → wordOf f x ≠ 0 → (∃ rest, wl f N = pre ++ x :: rest) → w.heap.size ≤ l → w.heap.size ≤ bx → W.heap[l]? = some (.loop r) → W.heap[bx]? = some (.cells #[.int .i64 (x : Int), .int .u64 (wordOf f x : Int)] 130 (0, 0)) → body.wpIn (Fence.wide.inRound l) (n - 1 - 1) Tryd.prog (fun e _ W' => e = .normal ∧ J (pre ++ [x]) W' ∧ KpB bx W W') (actV a f p q bx x) W)
    (hdone : ∀ W, J (wl f N) W → W.heap[w.heap.size]? = some (.deferred (some [])) → Q .normal { a with defers := { target := .collected w.heap.size, args := #[] } :: a.defers } W) :
    (Code.rangeFunc gop #[p] assign body).wpIn Fence.wide n Tryd.prog Q a w := by
  refine wpIn_rangeFunc ?_
  intro fn hfn
  obtain ⟨rec, hrec⟩ : ∃ rec : LoopState → Loop, rec = fun st => { state := st, pending := none, fn, tmps := a.tmps, params := #[p], assign, body, defers := w.heap.size } := ⟨_, rfl⟩
  obtain ⟨W1, hW1⟩ : ∃ W1, (w.alloc (.deferred (some []))).alloc (.loop (rec .ready)) = W1 := ⟨_, rfl⟩
  have hs1 : W1.heap.size = w.heap.size + 2 := by rw [← hW1]; simp
  have hL1 : W1.heap[w.heap.size + 1]? = some (.loop (rec .ready)) := by
    rw [← hW1]; have := World.alloc_heap_new (w.alloc (.deferred (some []))) (.loop (rec .ready)); rwa [World.size_alloc] at this
  have hD1 : W1.heap[w.heap.size]? = some (.deferred (some [])) := by
    rw [← hW1]; exact (Below.heap_alloc _ _ _ (by simp)).trans (World.alloc_heap_new w _)
  have hb1 : Below w.heap.size w W1 := by rw [← hW1]; exact ((Below.refl _ w).alloc (Nat.le_refl _) _).alloc (by simp) _
  have hJ1 : J [] W1 := hJk _ _ _ h0 (Only.ofNew hb1 _)
  have htl : tb < w.heap.size := (Array.getElem?_eq_some_iff.1 htb).1
  have hJp : ∀ (pre : List Nat) (A : World) (o o' : Obj), J pre A → A.heap[w.heap.size + 1]? = some o → o.isCells = false → J pre (A.putObj (w.heap.size + 1) o') := fun pre A o o' h ho hc => hJk _ _ _ h (Only.putObj _ _ _ _ (.inr ⟨by omega, o, ho, hc⟩))
  refine ⟨w.heap.size + 1, [{ target := .collected w.heap.size, args := #[] }], W1, { target := .fn (.func 88) #[.pointer (some ⟨tb, 0, none⟩)], args := #[.func (.yield (w.heap.size + 1)) #[] #[]] }, W1, 88,
    #[.func (.yield (w.heap.size + 1)) #[] #[], .pointer (some ⟨tb, 0, none⟩)], W1, ?_, ?_, ?_, ?_, fun _ => by omega, ?_⟩
  · rw [← hW1, hrec]; exact run_enterLoop_outer _ _ _ _ _
  · simp only [resolve, hg]
    simp [go_sem]
  · intro f' hf'; simp [Target.leads] at hf'; subst hf'; trivial
  · simp [invoke, go_sem]
  · refine (words_in (n - 1) (by omega) (w.heap.size + 1) tb N f hN
      (fun pre W => J pre W ∧ W.heap[w.heap.size + 1]? = some (.loop (rec .ready)) ∧ W.heap[w.heap.size]? = some (.deferred (some []))) W1 ?_ ?_ ((hb1.block _ htl).trans htb) ⟨hJ1, hL1, hD1⟩).mono ?_
    · rintro pre A B ⟨h1, h2, h3⟩ hb
      exact ⟨hJk _ _ _ h1 ⟨hb.os, hb.tape, hb.output, hb.size, fun k hk hn => hb.block k hk (fun e => hn (.inl e))⟩, (hb.block _ (Array.getElem?_eq_some_iff.1 h2).1 (by omega)).trans h2, (hb.block _ (Array.getElem?_eq_some_iff.1 h3).1 (by omega)).trans h3⟩
    · rintro pre x W ⟨hj, hl, hk⟩ hx1 hx2 hx3
      have hlt : w.heap.size + 1 < W.heap.size := (Array.getElem?_eq_some_iff.1 hl).1
      have hy := run_yield (P := Tryd.prog) (args := #[Value.agg #[.int .i64 (x : Int), .int .u64 (wordOf f x : Int)]]) hl (by rw [hrec]; rfl)
      rw [hrec] at hy
      refine ⟨fn, _, assign, body, hy, roundIn_of_wpIn trivial ?_⟩
      have ha := hassign (w.heap.size + 1) x W
      simp only [List.zip_toArray, List.zip_cons_cons, List.zip_nil_right, List.foldl_toArray', List.foldl_cons, List.foldl_nil] at ha ⊢
      refine ha _ ?_
      obtain ⟨V, hV⟩ : ∃ V, V = W.alloc (.cells #[.int .i64 (x : Int), .int .u64 (wordOf f x : Int)] 130) := ⟨_, rfl⟩
      rw [← hV]
      have hbV : Below W.heap.size W V := by rw [hV]; exact (Below.refl _ _).alloc (Nat.le_refl _) _
      have hxV : V.heap[W.heap.size]? = some (.cells #[.int .i64 (x : Int), .int .u64 (wordOf f x : Int)] 130 (0, 0)) := by rw [hV]; exact heap_alloc_new W _
      have hlV := (hbV.block _ hlt).trans hl
      have hjV : J pre V := hJk _ _ _ hj (Only.ofNew hbV _)
      have hltV : w.heap.size + 1 < V.heap.size := by have := hbV.size; omega
      refine ⟨_, run_beginRound hlV (by rw [hrec]), ?_⟩
      have hl2 : (V.putObj (w.heap.size + 1) (.loop { rec .ready with state := .busy })).heap[w.heap.size + 1]? = some (.loop { rec .ready with state := .busy }) := World.putObj_heap_same hltV
      refine wpIn_mono (hbody _ pre x W.heap.size _ _ (hJp _ _ _ _ hjV hlV rfl) hx1 hx2 hx3 (by omega) (by omega) hl2 ((World.putObj_heap_other (by omega)).trans hxV)) ?_
      rintro e a3 W3 ⟨rfl, hj3, ho3⟩
      have hl3 := ho3.keep _ _ (by omega) hl2 rfl
      have hr := run_endRound (P := Tryd.prog) none hl3
      rw [hrec] at hr
      have hkk : KpT W (W3.putObj (w.heap.size + 1) (.loop (rec .ready))) := by
        have hs3 : V.heap.size ≤ W3.heap.size := by have := ho3.size; simpa using this
        refine ⟨by simp; have := hbV.size; omega, fun k o ho hko => ?_⟩
        have hki := (Array.getElem?_eq_some_iff.1 ho).1
        by_cases e : k = w.heap.size + 1
        · subst e
          rw [World.putObj_heap_same (by omega), ← hl, ho]
        · rw [World.putObj_heap_other e]
          exact ho3.keep k o (by omega) ((World.putObj_heap_other e).trans ((hbV.block k hki).trans ho)) hko
      refine ⟨_, _, hr, rfl, ⟨?_, ?_, ?_⟩, ?_⟩
      · exact hJp _ _ _ _ hj3 hl3 rfl
      · rw [hrec]; exact World.putObj_heap_same (Array.getElem?_eq_some_iff.1 hl3).1
      · rw [hrec] at hkk; exact hkk.keep _ _ hk rfl
      · rw [hrec] at hkk; exact hkk
    · rintro e W2 ⟨⟨v, rfl⟩, hj, hl, hk⟩
      have hr := run_endLoop (P := Tryd.prog) hl (by rw [hrec]; simp)
      rw [hrec] at hr
      exact ⟨none, _, hr, hdone _ (hJp _ _ _ _ hj hl rfl) ((World.putObj_heap_other (by omega)).trans hk)⟩
set_option maxRecDepth 10000 in
theorem wordsIn_any (s : ByteArray) (w : World) : Calls Tryd.prog 67 #[.string s] w fun e w' => e = .returned (.func (.func 88) #[] #[.pointer (some ⟨w.heap.size, 0, none⟩)]) ∧ w' = w.alloc (.cells #[.string s] 9) := by
  obtain ⟨w0, hw0⟩ : ∃ w0, w0 = w.alloc (.cells #[.string s] 9) := ⟨_, rfl⟩
  rw [← hw0]
  have hfold := hw0.symm
  clear hw0
  go_enter Tryd.func67, Tryd.ntmps67
  go_wp2
  go_ret
  exact ⟨rfl, rfl⟩
end Go.Proofs.YtbbejfkgopcjoaaDoor
namespace Go.Proofs.YtbbejfkgopcjoaaDoor
open Go.RowKit Go.Shelf
/-- The places of a set in the i-th word. -/
def pw (g : Nat → Bool) (i : Nat) : List Nat := (plB g (64 * (i + 1))).drop (plB g (64 * i)).length
theorem plB_more (g : Nat → Bool) (i : Nat) : plB g (64 * i) ++ pw g i = plB g (64 * (i + 1)) := by
  have hp : plB g (64 * i) <+: plB g (64 * (i + 1)) := by
    unfold plB
    rw [show 64 * (i + 1) = 64 * i + 64 by omega, List.range_add, List.filter_append]
    exact List.prefix_append _ _
  obtain ⟨t, ht⟩ := hp
  unfold pw
  rw [← ht, List.drop_left]
theorem pw_wl {f g : Nat → Bool} (h : ∀ q, g q = true → f q = true) : ∀ n, (wl f n).flatMap (pw g) = plB g (64 * n)
  | 0 => rfl
  | n + 1 => by
    rw [wl]
    by_cases h0 : wordOf f n = 0
    · rw [if_pos h0, pw_wl h n, show 64 * (n + 1) = 64 * n + 64 by omega]
      refine (plB_skip g (64 * n) 64 (fun q h1 h2 => ?_)).symm
      have := (wordOf_eq_zero f n).1 h0 (q - 64 * n) (by omega)
      rw [show 64 * n + (q - 64 * n) = q by omega] at this
      cases hg : g q with
      | false => rfl
      | true => rw [h q hg] at this; cases this
    · rw [if_neg h0, List.flatMap_append, pw_wl h n]
      simp only [List.flatMap_cons, List.flatMap_nil, List.append_nil]
      exact plB_more g n
theorem plB_mem {g : Nat → Bool} {n q : Nat} : q ∈ plB g n ↔ q < n ∧ g q = true := by unfold plB; simp
/-- The patterns of places, each once. -/
def endL (g : Nat → Bool) (own : List Nat) (n : Nat) : List Nat := onceC [] ((plB g n).map fun q => own.getD q 0)
theorem onceC_len : ∀ (l acc : List Nat), (onceC acc l).length ≤ acc.length + l.length
  | [], acc => by simp [onceC]
  | x :: l, acc => by
    rw [onceC]
    have h := onceC_len l (if acc.getLast? = some x then acc else acc ++ [x])
    have h2 : (if acc.getLast? = some x then acc else acc ++ [x]).length ≤ acc.length + 1 := by split <;> simp
    rw [List.length_cons]
    omega
theorem plB_len (g : Nat → Bool) (n : Nat) : (plB g n).length ≤ n := by
  unfold plB
  have := List.length_filter_le g (List.range n)
  simpa using this
/-- So many places are looked at, at most. -/
theorem ends_len {f g : Nat → Bool} {N x k0 q : Nat} {pre lst : List Nat} {own : Nat → Nat} (h : ∀ q, g q = true → f q = true) (hp : ∃ rest, wl f N = pre ++ x :: rest) (hl : lst = plB g q) (hN : N ≤ 1000000) (hq : q ≤ 64 * N) : (onceC [] ((pre.flatMap (pw g) ++ lst.drop k0).map own)).length ≤ 200000000 := by
  obtain ⟨rest, hr⟩ := hp
  have h1 := congrArg List.length (pw_wl h N)
  rw [hr, List.flatMap_append, List.length_append] at h1
  have h2 := plB_len g (64 * N)
  have h3 := plB_len g q
  have h4 := onceC_len ((pre.flatMap (pw g) ++ lst.drop k0).map own) []
  rw [List.length_map, List.length_append, List.length_drop, hl] at h4
  rw [hl]
  simp only [List.length_nil] at h4
  omega
theorem word_mask (f g : Nat → Bool) (i : Nat) : wordOf f i &&& wordOf g i = wordOf (fun q => f q && g q) i := by
  apply Nat.eq_of_testBit_eq
  intro k
  rw [Nat.testBit_and, wordOf_bit, wordOf_bit, wordOf_bit]
  cases decide (k < 64) <;> simp
theorem own_typ {w : World} {base : Nat} {t : TypeId} {size n : Nat} {v : Value} {xs : List Value} (h : w.ownsRow base t size v n xs) {g : Nat} (hg : v.ownBlock = some g) : ∃ cs, w.heap[g]? = some (.cells cs t (0, 0)) := by
  rcases h.2 with ⟨e, _⟩ | ⟨g', cap, cur, e, _, hr, _⟩
  · rw [e] at hg; cases hg
  · rw [e] at hg
    obtain rfl : g' = g := by simpa [Value.ownBlock] using hg
    exact ⟨cur, hr⟩
/-- The words of a set. -/
def wdV (f : Nat → Bool) (n : Nat) : List Value := (List.range n).map fun i => .int .u64 (wordOf f i : Int)
theorem wdV_len (f : Nat → Bool) (n : Nat) : (wdV f n).length = n := by unfold wdV; simp
theorem wdV_at (f : Nat → Bool) {n i : Nat} (h : i < n) : (wdV f n)[i]? = some (.int .u64 (wordOf f i : Int)) := by unfold wdV; simp [h]
def OwnU (W : World) (base : Nat) (v : Value) (n : Nat) (f : Nat → Bool) : Prop := W.ownsRow base 105 1 v n (wdV f n)
theorem OwnU.at' {W : World} {base : Nat} {v : Value} {n : Nat} {f : Nat → Bool} (h : OwnU W base v n f) {i : Nat} (hi : i < n) : ∃ g c, v = .slice (some ⟨g, 0, none⟩) n c ∧ base ≤ g ∧ g < W.heap.size ∧ W.cell? ⟨g, i, none⟩ = some (.int .u64 (wordOf f i : Int)) ∧ W.frozen? ⟨g, i, none⟩ = false := by
  obtain ⟨g, c, rfl, h1, h2, _⟩ := own_form h (by omega)
  refine ⟨g, c, rfl, h1, h2, ?_, ?_⟩
  · have := World.ownsRow.cellAt h i (by omega)
    rw [this, wdV_at f hi]
  · obtain ⟨cs, hcs⟩ := own_typ h (show Value.ownBlock _ = some g from rfl)
    simp [World.frozen?, hcs]
theorem OwnU.past {W W' : World} {base : Nat} {v : Value} {n : Nat} {f : Nat → Bool} (h : OwnU W base v n f) (hb : Below W.heap.size W W') : OwnU W' base v n f := own_blk h (fun k hk => hb.block k (World.ownsRow.lt h k hk).2)
/-- The joined patterns: the block. -/
structure Jb (W : World) (J : Nat) (sy : Nat) (vO vF vE vL vM vZ vP vC vS vA : Value) : Prop where
  r : W.heap[J]? = some (.cells #[.int .i64 (sy : Int), vO, vF, vE, vL, vM, vZ, vP, vC, vS, vA] 91 (0, 0))
theorem Jb.past {W W' : World} {J sy : Nat} {vO vF vE vL vM vZ vP vC vS vA : Value} (h : Jb W J sy vO vF vE vL vM vZ vP vC vS vA) (hb : Below W.heap.size W W') : Jb W' J sy vO vF vE vL vM vZ vP vC vS vA := ⟨(hb.block _ (Array.getElem?_eq_some_iff.1 h.r).1).trans h.r⟩
theorem Jb.c {W : World} {J sy : Nat} {vO vF vE vL vM vZ vP vC vS vA : Value} (h : Jb W J sy vO vF vE vL vM vZ vP vC vS vA) :
    W.cell? ⟨J, 0, none⟩ = some (.int .i64 (sy : Int)) ∧ W.cell? ⟨J, 1, none⟩ = some vO ∧ W.cell? ⟨J, 2, none⟩ = some vF ∧ W.cell? ⟨J, 3, none⟩ = some vE ∧ W.cell? ⟨J, 4, none⟩ = some vL ∧ W.cell? ⟨J, 5, none⟩ = some vM ∧ W.cell? ⟨J, 6, none⟩ = some vZ ∧ W.cell? ⟨J, 7, none⟩ = some vP ∧ W.cell? ⟨J, 8, none⟩ = some vC ∧ W.cell? ⟨J, 9, none⟩ = some vS ∧ W.cell? ⟨J, 10, none⟩ = some vA := by
  refine ⟨?_, ?_, ?_, ?_, ?_, ?_, ?_, ?_, ?_, ?_, ?_⟩ <;> (rw [cell_of_row _ _ _ _ _ _ h.r]; rfl)
end Go.Proofs.YtbbejfkgopcjoaaDoor
namespace Go.Proofs.YtbbejfkgopcjoaaDoor
open Go.RowKit
/-- The post Q at an ordinary end, and at no other. -/
def NormO (Q : Exit → Act → World → Prop) : Exit → Act → World → Prop
  | .normal, a, w => Q .normal a w
  | _, _, _ => False
theorem NormO.normal {Q : Exit → Act → World → Prop} {a : Act} {w : World} (h : Q .normal a w) : NormO Q .normal a w := h
theorem NormO.imp {Q : Exit → Act → World → Prop} : ∀ (e : Exit) (a : Act) (w : World), NormO Q e a w → Q e a w := fun e a w h => by
  cases e <;> first | exact h | exact (h : False).elim
theorem NormO.shut {Q : Exit → Act → World → Prop} : ¬ LetsOut (NormO Q) := fun ⟨_, _, h⟩ => h
def noDefer (ops : Array Oper) : Bool := ops.toList.all fun o => match o.op with
  | .defer _ => false
  | _ => true
theorem noDefer_at {ops : Array Oper} (h : noDefer ops = true) {i : Nat} {o : Oper} (ho : ops[i]? = some o) : ∀ c, o.op ≠ .defer c := fun c e => by
  have h1 := List.all_eq_true.1 h o (by rw [← Array.getElem?_toList] at ho; exact List.mem_of_getElem? ho)
  rw [e] at h1
  cases h1
theorem wpOpIn_of {P : Program} {ops : Array Oper} {Q : Exit → Act → World → Prop} {i n l : Nat} {K K' : Act → World → Prop} {a : Act} {w : World} (hno : ¬ LetsOut Q) (hd : noDefer ops = true)
    (hK : ∀ a w, K a w → K' a w) (h : wpOp P ops Q i K a w) : wpOpIn (Fence.wide.inRound l) n P ops Q i K' a w := by
  unfold wpOp at h
  unfold wpOpIn
  cases ho : ops[i]? with
  | none =>
    simp only [ho] at h ⊢
    exact hK _ _ h
  | some o =>
    simp only [ho] at h ⊢
    by_cases hw : Region.wanted o (yielded ops a.tmps) = true
    · simp only [hw, if_true] at h ⊢
      rcases h with h | ⟨_, h⟩
      · refine ⟨fun _ _ => trivial, ?_⟩
        rw [Fence.inRound_round, Oper.semAt_some l _ o (noDefer_at hd ho)]
        unfold Oper.wp at h
        generalize (execOp a.eval o).run P w = r at *
        cases r with
        | ok x w' =>
          cases x <;> simp only [Oper.upon, Oper.uponIn] at h ⊢
          case value => exact hK _ _ h
          case skip => exact hK _ _ h
          case defer => exact hK _ _ h
          case enter f args =>
            refine ⟨fun e => (by cases e), CallsIn.inRound l (callsIn_wide.2 (Calls.mono h fun e w'' he => ?_))⟩
            cases e with
            | returned v => exact hK _ _ he
            | panicked c => exact he
            | outgrown => exact he
          case row row args => exact ⟨fun e => (by cases e), fun c cs _ => let ⟨v, w'', r, s⟩ := h c cs; ⟨v, w'', hK _ _ r, stepsIn_wide.2 s⟩⟩
        | halt x w' => cases x <;> simp only [Oper.upon, Oper.uponIn] at h ⊢ <;> exact h
      · exact (hno h).elim
    · simp only [hw] at h ⊢
      exact ⟨fun _ _ => trivial, hK _ _ h⟩
theorem wpAnyIn_of {P : Program} {ops : Array Oper} {Q : Exit → Act → World → Prop} {S : World → Prop} {n l : Nat} {md : Region.Mode} (hno : ¬ LetsOut Q) (hd : noDefer ops = true) : ∀ (fuel : Nat) (listed : Array Bool) (a : Act) (w : World),
    wpAnyH P md ops Q S fuel listed a w → wpAnyIn (Fence.wide.inRound l) n P md ops Q fuel listed a w
  | 0, _, _, _, h => h
  | fuel + 1, _, _, _, h => ⟨h.1, fun i hi => wpOpIn_of hno hd (fun a' w' h' => wpAnyIn_of hno hd fuel _ a' w' h'.2) (h.2 i hi)⟩
/-- The beginning, inside a round. -/
theorem wpIn_region_round {P : Program} {id : Nat} {ops : Array Oper} {Q : Exit → Act → World → Prop} {S : World → Prop} {n l : Nat} {a : Act} {w : World} (hm : P.follows .mixedOrders = true) (hd : noDefer ops = true) (hS : S w.drew)
    (h : S w.drew → wpAnyH P .any ops (NormO Q) S ops.size (Array.replicate ops.size false) a w.drew) : (Code.region id ops true).wpIn (Fence.wide.inRound l) n P Q a w :=
  wpIn_mono (wpIn_region_any hm (wpAnyIn_of NormO.shut hd _ _ _ _ (h hS))) NormO.imp
end Go.Proofs.YtbbejfkgopcjoaaDoor
