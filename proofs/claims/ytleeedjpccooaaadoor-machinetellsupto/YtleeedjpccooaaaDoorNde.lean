/-
  MbHW, MbIM, RdM, MbIW.
-/
import Derived.Test.YtleeedjpccooaaaDoorNdd
import Derived.Test.YtleeedjpccooaaaDoorProg
import Derived.WalkKit
import Derived.Deep.RegionHeld3
import Derived.RangeFuncNested
import Derived.OwnWalkIn
import Derived.TacticsInMore
import Derived.Test.YtleeedjpccooaaaDoorNda
import Derived.Maps.OwnIn
namespace Go.Proofs.YtleeedjpccooaaaDoor
open Go.RowKit Go.Shelf
/-- As KpT, but for one block. -/
structure KpB (b : Nat) (W W' : World) : Prop where
  size : W.heap.size ≤ W'.heap.size
  keep : ∀ (k : Nat) (o : Obj), k ≠ b → W.heap[k]? = some o → kT o = true → W'.heap[k]? = some o
theorem KpT.b {W W' : World} (h : KpT W W') (b : Nat) : KpB b W W' := ⟨h.size, fun k o _ h1 h2 => h.keep k o h1 h2⟩
theorem KpB.trans {b : Nat} {A B C : World} (h : KpB b A B) (k : KpB b B C) : KpB b A C := ⟨Nat.le_trans h.size k.size, fun i o hi ho hk => k.keep i o hi (h.keep i o hi ho hk) hk⟩
theorem KpB.out {b : Nat} {A B C : World} (h : Below A.heap.size A B) (k : KpB b B C) (hb : A.heap.size ≤ b) : KpT A C := ⟨Nat.le_trans h.size k.size, fun i o ho hk => by
  have hi := (Array.getElem?_eq_some_iff.1 ho).1
  exact k.keep i o (by omega) ((h.block i hi).trans ho) hk⟩
/-- An activation in whose slot p a word is put, in q where it lies. -/
def actV (a : Act) (f : Nat → Bool) (p q bx x : Nat) : Act := { tmps := (a.tmps.setIfInBounds p (.agg #[.int .i64 (x : Int), .int .u64 (wordOf f x : Int)])).setIfInBounds q (.pointer (some ⟨bx, 0, none⟩)), defers := [] }
theorem wpIn_rangeWords {gop : Operand} {p : Tmp} {assign body : Code} {Q : Exit → Act → World → Prop} {a : Act} {w : World} (q n : Nat) (hn : 2 ≤ n) (tb N : Nat) (f : Nat → Bool) (hN : N ≤ 1000000)
    (hg : a.eval gop = .func (.func 88) #[] #[.pointer (some ⟨tb, 0, none⟩)]) (htb : w.heap[tb]? = some (.cells #[.string ⟨(encW f N).toArray⟩] 9 (0, 0)))
    (J : List Nat → World → Prop) (hJk : ∀ pre A B, J pre A → Only A B (fun k => k = tb ∨ (w.heap.size ≤ k ∧ ∃ o, A.heap[k]? = some o ∧ o.isCells = false)) → J pre B) (h0 : J [] w)
    (hassign : ∀ (l x : Nat) (W : World) (K : Act → World → Prop), K (actV a f p q W.heap.size x) (W.alloc (.cells #[.int .i64 (x : Int), .int .u64 (wordOf f x : Int)] 130)) → assign.wpIn (Fence.wide.inRound l) (n - 1 - 1) Tryd.prog (Exit.then K (fun _ _ _ => False)) { tmps := a.tmps.setIfInBounds p (.agg #[.int .i64 (x : Int), .int .u64 (wordOf f x : Int)]), defers := [] } W)
    (hbody : ∀ (l : Nat) (pre : List Nat) (x bx : Nat) (r : Loop) (W : World), J pre W → x < N → wordOf f x ≠ 0 → (∃ rest, wl f N = pre ++ x :: rest) → w.heap.size ≤ l → w.heap.size ≤ bx → W.heap[l]? = some (.loop r) → W.heap[bx]? = some (.cells #[.int .i64 (x : Int), .int .u64 (wordOf f x : Int)] 130 (0, 0)) → body.wpIn (Fence.wide.inRound l) (n - 1 - 1) Tryd.prog (fun e _ W' => e = .normal ∧ J (pre ++ [x]) W' ∧ KpB bx W W') (actV a f p q bx x) W)
    (hdone : ∀ W, J (wl f N) W → W.heap[w.heap.size]? = some (.deferred (some [])) → Q .normal { a with defers := { target := .collected w.heap.size, args := #[] } :: a.defers } W) :
    (Code.rangeFunc gop #[p] assign body).wpIn Fence.wide n Tryd.prog Q a w := by
  refine wpIn_rangeFunc ?_
  intro fn hfn
  obtain ⟨rec, hrec⟩ : ∃ rec : LoopState → Loop, rec = fun st => { state := st, pending := none, fn, tmps := a.tmps, params := #[p], assign, body, defers := w.heap.size } := ⟨_, rfl⟩
  obtain ⟨W1, hW1⟩ : ∃ W1, (w.alloc (.deferred (some []))).alloc (.loop (rec .ready)) = W1 := ⟨_, rfl⟩
  have hs1 : W1.heap.size = w.heap.size + 2 := by rw [← hW1]; simp
  have hL1 : W1.heap[w.heap.size + 1]? = some (.loop (rec .ready)) := by
    rw [← hW1]; have := World.alloc_heap_new (w.alloc (.deferred (some []))) (.loop (rec .ready)); rwa [World.size_alloc] at this
  have hD1 : W1.heap[w.heap.size]? = some (.deferred (some [])) := by
    rw [← hW1]; exact (Below.heap_alloc _ _ _ (by simp)).trans (World.alloc_heap_new w _)
  have hb1 : Below w.heap.size w W1 := by rw [← hW1]; exact ((Below.refl _ w).alloc (Nat.le_refl _) _).alloc (by simp) _
  have hJ1 : J [] W1 := hJk _ _ _ h0 (Only.ofNew hb1 _)
  have htl : tb < w.heap.size := (Array.getElem?_eq_some_iff.1 htb).1
  have hJp : ∀ (pre : List Nat) (A : World) (o o' : Obj), J pre A → A.heap[w.heap.size + 1]? = some o → o.isCells = false → J pre (A.putObj (w.heap.size + 1) o') := fun pre A o o' h ho hc => hJk _ _ _ h (Only.putObj _ _ _ _ (.inr ⟨by omega, o, ho, hc⟩))
  refine ⟨w.heap.size + 1, [{ target := .collected w.heap.size, args := #[] }], W1, { target := .fn (.func 88) #[.pointer (some ⟨tb, 0, none⟩)], args := #[.func (.yield (w.heap.size + 1)) #[] #[]] }, W1, 88,
    #[.func (.yield (w.heap.size + 1)) #[] #[], .pointer (some ⟨tb, 0, none⟩)], W1, ?_, ?_, ?_, ?_, fun _ => by omega, ?_⟩
  · rw [← hW1, hrec]; exact run_enterLoop_outer _ _ _ _ _
  · simp only [resolve, hg]
    simp [go_sem]
  · intro f' hf'; simp [Target.leads] at hf'; subst hf'; trivial
  · simp [invoke, go_sem]
  · refine (words_in (n - 1) (by omega) (w.heap.size + 1) tb N f hN
      (fun pre W => J pre W ∧ W.heap[w.heap.size + 1]? = some (.loop (rec .ready)) ∧ W.heap[w.heap.size]? = some (.deferred (some []))) W1 ?_ ?_ ((hb1.block _ htl).trans htb) ⟨hJ1, hL1, hD1⟩).mono ?_
    · rintro pre A B ⟨h1, h2, h3⟩ hb
      exact ⟨hJk _ _ _ h1 ⟨hb.os, hb.tape, hb.output, hb.size, fun k hk hn => hb.block k hk (fun e => hn (.inl e))⟩, (hb.block _ (Array.getElem?_eq_some_iff.1 h2).1 (by omega)).trans h2, (hb.block _ (Array.getElem?_eq_some_iff.1 h3).1 (by omega)).trans h3⟩
    · rintro pre x W ⟨hj, hl, hk⟩ hx1 hx2 hx3
      have hlt : w.heap.size + 1 < W.heap.size := (Array.getElem?_eq_some_iff.1 hl).1
      have hy := run_yield (P := Tryd.prog) (args := #[Value.agg #[.int .i64 (x : Int), .int .u64 (wordOf f x : Int)]]) hl (by rw [hrec]; rfl)
      rw [hrec] at hy
      refine ⟨fn, _, assign, body, hy, roundIn_of_wpIn trivial ?_⟩
      have ha := hassign (w.heap.size + 1) x W
      simp only [List.zip_toArray, List.zip_cons_cons, List.zip_nil_right, List.foldl_toArray', List.foldl_cons, List.foldl_nil] at ha ⊢
      refine ha _ ?_
      obtain ⟨V, hV⟩ : ∃ V, V = W.alloc (.cells #[.int .i64 (x : Int), .int .u64 (wordOf f x : Int)] 130) := ⟨_, rfl⟩
      rw [← hV]
      have hbV : Below W.heap.size W V := by rw [hV]; exact (Below.refl _ _).alloc (Nat.le_refl _) _
      have hxV : V.heap[W.heap.size]? = some (.cells #[.int .i64 (x : Int), .int .u64 (wordOf f x : Int)] 130 (0, 0)) := by rw [hV]; exact heap_alloc_new W _
      have hlV := (hbV.block _ hlt).trans hl
      have hjV : J pre V := hJk _ _ _ hj (Only.ofNew hbV _)
      have hltV : w.heap.size + 1 < V.heap.size := by have := hbV.size; omega
      refine ⟨_, run_beginRound hlV (by rw [hrec]), ?_⟩
      have hl2 : (V.putObj (w.heap.size + 1) (.loop { rec .ready with state := .busy })).heap[w.heap.size + 1]? = some (.loop { rec .ready with state := .busy }) := World.putObj_heap_same hltV
      refine wpIn_mono (hbody _ pre x W.heap.size _ _ (hJp _ _ _ _ hjV hlV rfl) hx1 hx2 hx3 (by omega) (by omega) hl2 ((World.putObj_heap_other (by omega)).trans hxV)) ?_
      rintro e a3 W3 ⟨rfl, hj3, ho3⟩
      have hl3 := ho3.keep _ _ (by omega) hl2 rfl
      have hr := run_endRound (P := Tryd.prog) none hl3
      rw [hrec] at hr
      have hkk : KpT W (W3.putObj (w.heap.size + 1) (.loop (rec .ready))) := by
        have hs3 : V.heap.size ≤ W3.heap.size := by have := ho3.size; simpa using this
        refine ⟨by simp; have := hbV.size; omega, fun k o ho hko => ?_⟩
        have hki := (Array.getElem?_eq_some_iff.1 ho).1
        by_cases e : k = w.heap.size + 1
        · subst e
          rw [World.putObj_heap_same (by omega), ← hl, ho]
        · rw [World.putObj_heap_other e]
          exact ho3.keep k o (by omega) ((World.putObj_heap_other e).trans ((hbV.block k hki).trans ho)) hko
      refine ⟨_, _, hr, rfl, ⟨?_, ?_, ?_⟩, ?_⟩
      · exact hJp _ _ _ _ hj3 hl3 rfl
      · rw [hrec]; exact World.putObj_heap_same (Array.getElem?_eq_some_iff.1 hl3).1
      · rw [hrec] at hkk; exact hkk.keep _ _ hk rfl
      · rw [hrec] at hkk; exact hkk
    · rintro e W2 ⟨⟨v, rfl⟩, hj, hl, hk⟩
      have hr := run_endLoop (P := Tryd.prog) hl (by rw [hrec]; simp)
      rw [hrec] at hr
      exact ⟨none, _, hr, hdone _ (hJp _ _ _ _ hj hl rfl) ((World.putObj_heap_other (by omega)).trans hk)⟩
set_option maxRecDepth 10000 in
theorem wordsIn_any (s : ByteArray) (w : World) : Calls Tryd.prog 67 #[.string s] w fun e w' => e = .returned (.func (.func 88) #[] #[.pointer (some ⟨w.heap.size, 0, none⟩)]) ∧ w' = w.alloc (.cells #[.string s] 9) := by
  obtain ⟨w0, hw0⟩ : ∃ w0, w0 = w.alloc (.cells #[.string s] 9) := ⟨_, rfl⟩
  rw [← hw0]
  have hfold := hw0.symm
  clear hw0
  go_enter Tryd.func67, Tryd.ntmps67
  go_wp2
  go_ret
  exact ⟨rfl, rfl⟩
end Go.Proofs.YtleeedjpccooaaaDoor
namespace Go.Proofs.YtleeedjpccooaaaDoor
open Go.RowKit Go.Shelf
/-- The places of a set in the i-th word. -/
def pw (g : Nat → Bool) (i : Nat) : List Nat := (plB g (64 * (i + 1))).drop (plB g (64 * i)).length
theorem plB_more (g : Nat → Bool) (i : Nat) : plB g (64 * i) ++ pw g i = plB g (64 * (i + 1)) := by
  have hp : plB g (64 * i) <+: plB g (64 * (i + 1)) := by
    unfold plB
    rw [show 64 * (i + 1) = 64 * i + 64 by omega, List.range_add, List.filter_append]
    exact List.prefix_append _ _
  obtain ⟨t, ht⟩ := hp
  unfold pw
  rw [← ht, List.drop_left]
theorem pw_wl {f g : Nat → Bool} (h : ∀ q, g q = true → f q = true) : ∀ n, (wl f n).flatMap (pw g) = plB g (64 * n)
  | 0 => rfl
  | n + 1 => by
    rw [wl]
    by_cases h0 : wordOf f n = 0
    · rw [if_pos h0, pw_wl h n, show 64 * (n + 1) = 64 * n + 64 by omega]
      refine (plB_skip g (64 * n) 64 (fun q h1 h2 => ?_)).symm
      have := (wordOf_eq_zero f n).1 h0 (q - 64 * n) (by omega)
      rw [show 64 * n + (q - 64 * n) = q by omega] at this
      cases hg : g q with
      | false => rfl
      | true => rw [h q hg] at this; cases this
    · rw [if_neg h0, List.flatMap_append, pw_wl h n]
      simp only [List.flatMap_cons, List.flatMap_nil, List.append_nil]
      exact plB_more g n
theorem plB_mem {g : Nat → Bool} {n q : Nat} : q ∈ plB g n ↔ q < n ∧ g q = true := by unfold plB; simp
theorem pw_mem {g : Nat → Bool} {i q : Nat} (h : q ∈ pw g i) : g q = true := (plB_mem.1 (List.mem_of_mem_drop h)).2
/-- The patterns of places, each once. -/
def endL (g : Nat → Bool) (own : List Nat) (n : Nat) : List Nat := onceC [] ((plB g n).map fun q => own.getD q 0)
theorem onceC_len : ∀ (l acc : List Nat), (onceC acc l).length ≤ acc.length + l.length
  | [], acc => by simp [onceC]
  | x :: l, acc => by
    rw [onceC]
    have h := onceC_len l (if acc.getLast? = some x then acc else acc ++ [x])
    have h2 : (if acc.getLast? = some x then acc else acc ++ [x]).length ≤ acc.length + 1 := by split <;> simp
    rw [List.length_cons]
    omega
theorem plB_len (g : Nat → Bool) (n : Nat) : (plB g n).length ≤ n := by
  unfold plB
  have := List.length_filter_le g (List.range n)
  simpa using this
/-- So many places are looked at, at most. -/
theorem ends_len {f g : Nat → Bool} {N x k0 q : Nat} {pre lst : List Nat} {own : Nat → Nat} (h : ∀ q, g q = true → f q = true) (hp : ∃ rest, wl f N = pre ++ x :: rest) (hl : lst = plB g q) (hN : N ≤ 1000000) (hq : q ≤ 64 * N) : (onceC [] ((pre.flatMap (pw g) ++ lst.drop k0).map own)).length ≤ 200000000 := by
  obtain ⟨rest, hr⟩ := hp
  have h1 := congrArg List.length (pw_wl h N)
  rw [hr, List.flatMap_append, List.length_append] at h1
  have h2 := plB_len g (64 * N)
  have h3 := plB_len g q
  have h4 := onceC_len ((pre.flatMap (pw g) ++ lst.drop k0).map own) []
  rw [List.length_map, List.length_append, List.length_drop, hl] at h4
  rw [hl]
  simp only [List.length_nil] at h4
  omega
theorem word_mask (f g : Nat → Bool) (i : Nat) : wordOf f i &&& wordOf g i = wordOf (fun q => f q && g q) i := by
  apply Nat.eq_of_testBit_eq
  intro k
  rw [Nat.testBit_and, wordOf_bit, wordOf_bit, wordOf_bit]
  cases decide (k < 64) <;> simp
theorem word_both (f g : Nat → Bool) (i : Nat) : wordOf f i ||| wordOf g i = wordOf (fun q => f q || g q) i := by
  apply Nat.eq_of_testBit_eq
  intro k
  rw [Nat.testBit_or, wordOf_bit, wordOf_bit, wordOf_bit]
  cases decide (k < 64) <;> simp
theorem own_typ {w : World} {base : Nat} {t : TypeId} {size n : Nat} {v : Value} {xs : List Value} (h : w.ownsRow base t size v n xs) {g : Nat} (hg : v.ownBlock = some g) : ∃ cs, w.heap[g]? = some (.cells cs t (0, 0)) := by
  rcases h.2 with ⟨e, _⟩ | ⟨g', cap, cur, e, _, hr, _⟩
  · rw [e] at hg; cases hg
  · rw [e] at hg
    obtain rfl : g' = g := by simpa [Value.ownBlock] using hg
    exact ⟨cur, hr⟩
/-- The words of a set. -/
def wdV (f : Nat → Bool) (n : Nat) : List Value := (List.range n).map fun i => .int .u64 (wordOf f i : Int)
theorem wdV_len (f : Nat → Bool) (n : Nat) : (wdV f n).length = n := by unfold wdV; simp
theorem wdV_at (f : Nat → Bool) {n i : Nat} (h : i < n) : (wdV f n)[i]? = some (.int .u64 (wordOf f i : Int)) := by unfold wdV; simp [h]
def OwnU (W : World) (base : Nat) (v : Value) (n : Nat) (f : Nat → Bool) : Prop := W.ownsRow base 105 1 v n (wdV f n)
theorem OwnU.at' {W : World} {base : Nat} {v : Value} {n : Nat} {f : Nat → Bool} (h : OwnU W base v n f) {i : Nat} (hi : i < n) : ∃ g c, v = .slice (some ⟨g, 0, none⟩) n c ∧ base ≤ g ∧ g < W.heap.size ∧ W.cell? ⟨g, i, none⟩ = some (.int .u64 (wordOf f i : Int)) ∧ W.frozen? ⟨g, i, none⟩ = false := by
  obtain ⟨g, c, rfl, h1, h2, _⟩ := own_form h (by omega)
  refine ⟨g, c, rfl, h1, h2, ?_, ?_⟩
  · have := World.ownsRow.cellAt h i (by omega)
    rw [this, wdV_at f hi]
  · obtain ⟨cs, hcs⟩ := own_typ h (show Value.ownBlock _ = some g from rfl)
    simp [World.frozen?, hcs]
theorem OwnU.past {W W' : World} {base : Nat} {v : Value} {n : Nat} {f : Nat → Bool} (h : OwnU W base v n f) (hb : Below W.heap.size W W') : OwnU W' base v n f := own_blk h (fun k hk => hb.block k (World.ownsRow.lt h k hk).2)
/-- The joined patterns: the block. -/
structure Jb (W : World) (J : Nat) (sy : Nat) (vO vF vE vL vM vZ vP vC vS vA : Value) : Prop where
  r : W.heap[J]? = some (.cells #[.int .i64 (sy : Int), vO, vF, vE, vL, vM, vZ, vP, vC, vS, vA] 91 (0, 0))
theorem Jb.past {W W' : World} {J sy : Nat} {vO vF vE vL vM vZ vP vC vS vA : Value} (h : Jb W J sy vO vF vE vL vM vZ vP vC vS vA) (hb : Below W.heap.size W W') : Jb W' J sy vO vF vE vL vM vZ vP vC vS vA := ⟨(hb.block _ (Array.getElem?_eq_some_iff.1 h.r).1).trans h.r⟩
theorem Jb.c {W : World} {J sy : Nat} {vO vF vE vL vM vZ vP vC vS vA : Value} (h : Jb W J sy vO vF vE vL vM vZ vP vC vS vA) :
    W.cell? ⟨J, 0, none⟩ = some (.int .i64 (sy : Int)) ∧ W.cell? ⟨J, 1, none⟩ = some vO ∧ W.cell? ⟨J, 2, none⟩ = some vF ∧ W.cell? ⟨J, 3, none⟩ = some vE ∧ W.cell? ⟨J, 4, none⟩ = some vL ∧ W.cell? ⟨J, 5, none⟩ = some vM ∧ W.cell? ⟨J, 6, none⟩ = some vZ ∧ W.cell? ⟨J, 7, none⟩ = some vP ∧ W.cell? ⟨J, 8, none⟩ = some vC ∧ W.cell? ⟨J, 9, none⟩ = some vS ∧ W.cell? ⟨J, 10, none⟩ = some vA := by
  refine ⟨?_, ?_, ?_, ?_, ?_, ?_, ?_, ?_, ?_, ?_, ?_⟩ <;> (rw [cell_of_row _ _ _ _ _ _ h.r]; rfl)
end Go.Proofs.YtleeedjpccooaaaDoor
namespace Go.Proofs.YtleeedjpccooaaaDoor
open Go.RowKit
/-- The post Q at an ordinary end, and at no other. -/
def NormO (Q : Exit → Act → World → Prop) : Exit → Act → World → Prop
  | .normal, a, w => Q .normal a w
  | _, _, _ => False
theorem NormO.normal {Q : Exit → Act → World → Prop} {a : Act} {w : World} (h : Q .normal a w) : NormO Q .normal a w := h
theorem NormO.imp {Q : Exit → Act → World → Prop} : ∀ (e : Exit) (a : Act) (w : World), NormO Q e a w → Q e a w := fun e a w h => by
  cases e <;> first | exact h | exact (h : False).elim
theorem NormO.shut {Q : Exit → Act → World → Prop} : ¬ LetsOut (NormO Q) := fun ⟨_, _, h⟩ => h
def noDefer (ops : Array Oper) : Bool := ops.toList.all fun o => match o.op with
  | .defer _ => false
  | _ => true
theorem noDefer_at {ops : Array Oper} (h : noDefer ops = true) {i : Nat} {o : Oper} (ho : ops[i]? = some o) : ∀ c, o.op ≠ .defer c := fun c e => by
  have h1 := List.all_eq_true.1 h o (by rw [← Array.getElem?_toList] at ho; exact List.mem_of_getElem? ho)
  rw [e] at h1
  cases h1
theorem wpOpIn_of {P : Program} {ops : Array Oper} {Q : Exit → Act → World → Prop} {i n l : Nat} {K K' : Act → World → Prop} {a : Act} {w : World} (hno : ¬ LetsOut Q) (hd : noDefer ops = true)
    (hK : ∀ a w, K a w → K' a w) (h : wpOp P ops Q i K a w) : wpOpIn (Fence.wide.inRound l) n P ops Q i K' a w := by
  unfold wpOp at h
  unfold wpOpIn
  cases ho : ops[i]? with
  | none =>
    simp only [ho] at h ⊢
    exact hK _ _ h
  | some o =>
    simp only [ho] at h ⊢
    by_cases hw : Region.wanted o (yielded ops a.tmps) = true
    · simp only [hw, if_true] at h ⊢
      rcases h with h | ⟨_, h⟩
      · refine ⟨fun _ _ => trivial, ?_⟩
        rw [Fence.inRound_round, Oper.semAt_some l _ o (noDefer_at hd ho)]
        unfold Oper.wp at h
        generalize (execOp a.eval o).run P w = r at *
        cases r with
        | ok x w' =>
          cases x <;> simp only [Oper.upon, Oper.uponIn] at h ⊢
          case value => exact hK _ _ h
          case skip => exact hK _ _ h
          case defer => exact hK _ _ h
          case enter f args =>
            refine ⟨fun e => (by cases e), CallsIn.inRound l (callsIn_wide.2 (Calls.mono h fun e w'' he => ?_))⟩
            cases e with
            | returned v => exact hK _ _ he
            | panicked c => exact he
            | outgrown => exact he
          case row row args => exact ⟨fun e => (by cases e), fun c cs _ => let ⟨v, w'', r, s⟩ := h c cs; ⟨v, w'', hK _ _ r, stepsIn_wide.2 s⟩⟩
        | halt x w' => cases x <;> simp only [Oper.upon, Oper.uponIn] at h ⊢ <;> exact h
      · exact (hno h).elim
    · simp only [hw] at h ⊢
      exact ⟨fun _ _ => trivial, hK _ _ h⟩
theorem wpAnyIn_of {P : Program} {ops : Array Oper} {Q : Exit → Act → World → Prop} {S : World → Prop} {n l : Nat} {md : Region.Mode} (hno : ¬ LetsOut Q) (hd : noDefer ops = true) : ∀ (fuel : Nat) (listed : Array Bool) (a : Act) (w : World),
    wpAnyH P md ops Q S fuel listed a w → wpAnyIn (Fence.wide.inRound l) n P md ops Q fuel listed a w
  | 0, _, _, _, h => h
  | fuel + 1, _, _, _, h => ⟨h.1, fun i hi => wpOpIn_of hno hd (fun a' w' h' => wpAnyIn_of hno hd fuel _ a' w' h'.2) (h.2 i hi)⟩
/-- The beginning, inside a round. -/
theorem wpIn_region_round {P : Program} {id : Nat} {ops : Array Oper} {Q : Exit → Act → World → Prop} {S : World → Prop} {n l : Nat} {a : Act} {w : World} (hm : P.follows .mixedOrders = true) (hd : noDefer ops = true) (hS : S w.drew)
    (h : S w.drew → wpAnyH P .any ops (NormO Q) S ops.size (Array.replicate ops.size false) a w.drew) : (Code.region id ops true).wpIn (Fence.wide.inRound l) n P Q a w :=
  wpIn_mono (wpIn_region_any hm (wpAnyIn_of NormO.shut hd _ _ _ _ (h hS))) NormO.imp
end Go.Proofs.YtleeedjpccooaaaDoor
namespace Go.Proofs.YtleeedjpccooaaaDoor
open Go.RowKit Go.Shelf
attribute [local go_sem] Oper.semAt_some
theorem tab_past {W W' : World} {l : List Nat} (h : TabAt 11 l W) (hb : Below W.heap.size W W') : TabAt 11 l W' := fun j hj => by
  have h1 := h j hj
  exact (hb.cell (p := ⟨11, j, none⟩) (World.block_lt_of_cell? W _ h1)).trans h1
/-- What endAt's loops keep: all that was there, the boxes, the list. -/
structure EdI (w : World) (J : Nat) (L : List Nat) (W : World) : Prop where
  bel : Below w.heap.size w W
  sz : w.heap.size + 3 ≤ W.heap.size
  bx : W.heap[w.heap.size]? = some (.cells #[.pointer (some ⟨J, 0, none⟩)] 64 (0, 0))
  ls : ∃ v, W.heap[w.heap.size + 1]? = some (.cells #[v] 34 (0, 0)) ∧ OwnI W (w.heap.size + 3) v (nI L)
theorem EdI.keep {w A B : World} {J : Nat} {L : List Nat} (h : EdI w J L A) (ho : Only A B (fun k => k = w.heap.size + 2 ∨ (w.heap.size + 3 ≤ k ∧ ∃ o, A.heap[k]? = some o ∧ o.isCells = false))) : EdI w J L B := by
  have hs := h.bel.size
  have hb : ∀ (k : Nat) (cs : Array Value) (t : TypeId), A.heap[k]? = some (.cells cs t (0, 0)) → k ≠ w.heap.size + 2 → B.heap[k]? = some (.cells cs t (0, 0)) := fun k cs t hk hn => by
    refine (ho.block k (Array.getElem?_eq_some_iff.1 hk).1 ?_).trans hk
    rintro (e | ⟨_, o, h1, h2⟩)
    · exact hn e
    · rw [hk] at h1
      cases h1
      cases h2
  obtain ⟨v, h1, h2⟩ := h.ls
  refine ⟨⟨ho.os.trans h.bel.os, ho.tape.trans h.bel.tape, ho.output.trans h.bel.output, Nat.le_trans hs ho.size, fun k hk => (ho.block k (by omega) (by omega)).trans (h.bel.block k hk)⟩, Nat.le_trans h.sz ho.size, hb _ _ _ h.bx (by omega), v, hb _ _ _ h1 (by omega), own_blk h2 (fun k hk => ?_)⟩
  obtain ⟨cs, hcs⟩ := own_typ h2 hk
  rw [hcs]
  exact hb _ _ _ hcs (by have := (World.ownsRow.lt h2 k hk).1; omega)
theorem row_lo {W : World} {lo lo' : Nat} {t : TypeId} {s m : Nat} {v : Value} {xs : List Value} (h : W.ownsRow lo t s v m xs) (hl : lo' ≤ lo) : W.ownsRow lo' t s v m xs := ⟨h.1, by
  rcases h.2 with h2 | ⟨g, cap, cur, e, hg, r⟩
  · exact .inl h2
  · exact .inr ⟨g, cap, cur, e, Nat.le_trans hl hg, r⟩⟩
/-- The word that is looked at is written. -/
theorem EdI.word {w A B : World} {J bx : Nat} {L : List Nat} {cs : Array Value} (h : EdI w J L A) (hx : A.heap[bx]? = some (.cells cs 130 (0, 0))) (hbx : w.heap.size + 3 ≤ bx) (ho : Only A B (fun k => k = bx)) : EdI w J L B := by
  have hs := h.sz
  obtain ⟨v, h1, h2⟩ := h.ls
  refine ⟨⟨ho.os.trans h.bel.os, ho.tape.trans h.bel.tape, ho.output.trans h.bel.output, Nat.le_trans h.bel.size ho.size, fun k hk => (ho.block k (by omega) (by omega)).trans (h.bel.block k hk)⟩, Nat.le_trans hs ho.size, (ho.block _ (by omega) (by omega)).trans h.bx, v, (ho.block _ (by omega) (by omega)).trans h1, own_blk h2 (fun k hk => ?_)⟩
  obtain ⟨cs', hcs⟩ := own_typ h2 hk
  refine ho.block k (Array.getElem?_eq_some_iff.1 hcs).1 (fun e => ?_)
  subst e
  rw [hx] at hcs
  cases hcs
/-- One more pattern. -/
theorem EdI.app {w V w1 : World} {J n : Nat} {L : List Nat} {v v' : Value} {o : Obj} (h : EdI w J L V) (hb : V.heap[w.heap.size + 1]? = some (.cells #[v] 34 (0, 0))) (hv : OwnI V (w.heap.size + 3) v (nI L))
    (hown : w1.ownsRow (w.heap.size + 3) 3 1 v' (L.length + 1) ((nI L).map (Value.int .i64) ++ [.int .i64 (n : Int)])) (hg : (V.alloc o).grownBy w1 v.ownBlock) :
    EdI w J (L ++ [n]) (w1.setCell ⟨w.heap.size + 1, 0, none⟩ v') ∧ KpT V (w1.setCell ⟨w.heap.size + 1, 0, none⟩ v') ∧ w1.cell? ⟨w.heap.size + 1, 0, none⟩ = some v ∧ w1.frozen? ⟨w.heap.size + 1, 0, none⟩ = false := by
  have hs := h.sz
  obtain ⟨h1, h2⟩ := ownI_snoc (by rw [nI_len]) hv hown hg (Below.refl _ V) hs
  have hb1 : w1.heap[w.heap.size + 1]? = some (.cells #[v] 34 (0, 0)) := (h2.block _ (by omega)).trans hb
  have hz := h2.size
  have ho := Only.setCell w1 (w.heap.size + 1) 0 v'
  refine ⟨⟨⟨h2.os.trans h.bel.os, h2.tape.trans h.bel.tape, h2.output.trans h.bel.output, by have := h.bel.size; have := ho.size; omega, fun k hk => (ho.block k (by omega) (by omega)).trans ((h2.block k (by omega)).trans (h.bel.block k hk))⟩, by have := ho.size; omega, (ho.block _ (by omega) (by omega)).trans ((h2.block _ (by omega)).trans h.bx), v', heap_setCell_same w1 _ 0 _ _ v' hb1, ?_⟩, ⟨by have := ho.size; omega, fun k o' hk hkt => ?_⟩, by rw [cell_of_row _ _ _ _ _ _ hb1]; rfl, by simp [World.frozen?, hb1]⟩
  · rw [nI_app]
    exact own_blk h1 (fun k hk => ho.block k (World.ownsRow.lt h1 k hk).2 (by have := (World.ownsRow.lt h1 k hk).1; omega))
  · have hki := (Array.getElem?_eq_some_iff.1 hk).1
    have hne1 : k ≠ w.heap.size + 1 := fun e => by subst e; rw [hb] at hk; cases hk; cases hkt
    have hne2 : v.ownBlock ≠ some k := fun e => by
      obtain ⟨cs, hcs⟩ := own_typ hv e
      rw [hk] at hcs
      cases hcs
      cases hkt
    rw [ho.block k (by omega) hne1]
    exact ((Only.ofGrown hg).block k (by simp; omega) (fun e => hne2 e)).trans ((Below.heap_alloc _ _ _ hki).trans hk)
/-- The patterns of so many words; of so many words and places. -/
def EdK (w : World) (J : Nat) (g : Nat → Bool) (own pre : List Nat) (W : World) : Prop := EdI w J (onceC [] ((pre.flatMap (pw g)).map fun q => own.getD q 0)) W
def EdJ (w : World) (J : Nat) (own P0 : List Nat) (k0 : Nat) (lst : List Nat) (W : World) : Prop := EdI w J (onceC [] ((P0 ++ lst.drop k0).map fun q => own.getD q 0)) W ∧ k0 ≤ lst.length
set_option maxRecDepth 100000 in
set_option maxHeartbeats 2000000 in
theorem endAt_any (J N sy lo : Nat) (f la : Nat → Bool) (own : List Nat) (aO : Option Addr) (cO : Nat) (vF vE vL vM vZ vP vC vS vA : Value) (w : World) (hN : N ≤ 1000000) (hj : Jb w J sy (.slice aO own.length cO) vF vE vL vM vZ vP vC vS vA) (hO : IA w aO (nI own)) (hZ : OwnU w lo vZ N la) (hla : ∀ q, la q = true → q < own.length) (_hol : own.length ≤ 100000000) (htab : TabAt 11 Lib.deBruijn64tab w) :
    Calls Tryd.prog 49 #[.pointer (some ⟨J, 0, none⟩), .string ⟨(encW f N).toArray⟩] w fun e w' => ∃ v, e = .returned v ∧ OwnI w' w.heap.size v (nI (endL (fun q => f q && la q) own (64 * N))) ∧ Below w.heap.size w w' := by
  obtain ⟨g, hg⟩ : ∃ g : Nat → Bool, g = fun q => f q && la q := ⟨_, rfl⟩
  obtain ⟨w1, hw1⟩ : ∃ w1, w1 = (w.alloc (.cells #[.pointer (some ⟨J, 0, none⟩)] 64)).alloc (.cells #[.slice none 0 0] 34) := ⟨_, rfl⟩
  obtain ⟨w2, hw2⟩ : ∃ w2, w2 = w1.alloc (.cells #[.string ⟨(encW f N).toArray⟩] 9) := ⟨_, rfl⟩
  have hs1 : w1.heap.size = w.heap.size + 2 := by rw [hw1]; simp
  have hs2 : w2.heap.size = w.heap.size + 3 := by rw [hw2]; simp [hs1]
  have hb2 : Below w.heap.size w w2 := by rw [hw2, hw1]; exact (((Below.refl _ w).alloc (Nat.le_refl _) _).alloc (by simp) _).alloc (by simp; omega) _
  have hE0 : EdI w J [] w2 := by
    refine ⟨hb2, by omega, ?_, .slice none 0 0, ?_, World.ownsRow_nil _ _ _ _⟩
    · rw [hw2, hw1, Below.heap_alloc _ _ _ (by simp; omega), Below.heap_alloc _ _ _ (by simp)]; exact heap_alloc_new w _
    · rw [hw2, Below.heap_alloc _ _ _ (by rw [hs1]; omega), hw1]
      have := heap_alloc_new (w.alloc (.cells #[.pointer (some ⟨J, 0, none⟩)] 64)) (.cells #[.slice none 0 0] 34)
      simpa using this
  have HTx : Hid (w2.heap[w.heap.size + 2]? = some (.cells #[.string ⟨(encW f N).toArray⟩] 9 (0, 0))) := hid0 (by rw [hw2, ← hs1]; exact heap_alloc_new w1 _)
  have HE0 := hid0 hE0
  have HWd : Hid (Calls Tryd.prog 67 #[.string ⟨(encW f N).toArray⟩] w1 fun e w' => e = .returned (.func (.func 88) #[] #[.pointer (some ⟨w.heap.size + 2, 0, none⟩)]) ∧ w' = w2) := hid0 (by rw [hw2, ← hs1]; exact wordsIn_any _ w1)
  have HJb := hid0 hj
  have HIO := hid0 hO
  have HOZ := hid0 hZ
  have HLa := hid0 hla
  have HTab := hid0 htab
  have HG := hid0 hg
  have HS2 := hid0 hs2
  generalize htx : (⟨(encW f N).toArray⟩ : ByteArray) = txt at *
  have HTe := hid0 htx
  clear htx
  have hfold := hw1.symm
  clear hj hO hZ hla htab hE0 hb2 hw1 hw2 hs1 hs2 hg
  refine (callsIn_wide (n := 8)).1 (callsIn_of_wp_marks Tryd.func49 rfl trivial ?_ rfl)
  simp only [Tryd.ntmps49, List.size_toArray, List.length_cons, List.length_nil, Nat.reduceAdd, Nat.reduceSub, Array.replicate_succ, Array.replicate_zero, List.push_toArray, List.append_toArray, List.nil_append, List.cons_append]
  gi_wp2_with (refine ⟨trivial, ?_⟩; gi_at_call 67; refine (callsIn_wide.2 HWd.out).mono ?_; rintro e w3 ⟨rfl, hw3⟩; have HW3 := hid0 hw3; clear hw3)
  have HJk : Hid (∀ (L : List Nat) (A B : World), EdI w J L A → Only A B (fun k => k = w.heap.size + 2 ∨ (w3.heap.size ≤ k ∧ ∃ o, A.heap[k]? = some o ∧ o.isCells = false)) → EdI w J L B) := hid0 (fun L A B h ho => h.keep (by rw [HW3.out, HS2.out] at ho; exact ho))
  have HEd : Hid (∀ (L : List Nat) (W : World), EdI w J L W → W.cell? ⟨w.heap.size, 0, none⟩ = some (.pointer (some ⟨J, 0, none⟩)) ∧ W.cell? ⟨J, 1, none⟩ = some (.slice aO own.length cO) ∧ W.cell? ⟨J, 6, none⟩ = some vZ ∧ IA W aO (nI own) ∧ OwnU W lo vZ N la ∧ TabAt 11 Lib.deBruijn64tab W) := hid0 (fun L W h => by
    obtain ⟨_, c1, _, _, _, _, c6, _⟩ := (HJb.out.past h.bel).c
    exact ⟨by rw [cell_of_row _ _ _ _ _ _ h.bx]; rfl, c1, c6, HIO.out.past h.bel, HOZ.out.past h.bel, tab_past HTab.out h.bel⟩)
  have HS3 : Hid (w3.heap.size = w.heap.size + 3) := hid0 (by rw [HW3.out]; exact HS2.out)
  refine wpIn_rangeWords 6 8 (by omega) (w.heap.size + 2) N f hN rfl (by rw [HW3.out, HTe.out]; exact HTx.out) (EdK w J g own) (fun pre A B h ho => HJk.out _ A B h ho) (by rw [HW3.out]; exact HE0.out) ?assign ?body ?done
  case assign =>
    intro l x W K hK
    simp only [actV, List.setIfInBounds_toArray, List.set_cons_succ, List.set_cons_zero] at hK ⊢
    gi_wp2
    exact hK
  case body =>
    intro l pre x bx r W hJ hx hw0 hpre hl hbx hlr hbxr
    have HPre := hid0 hpre
    clear hpre
    simp only [actV, List.setIfInBounds_toArray, List.set_cons_succ, List.set_cons_zero]
    unfold EdK at hJ
    obtain ⟨d0, d1, d6, hia, hou, htb⟩ := HEd.out _ W hJ
    obtain ⟨gz, cz, ez, _, hgz, dz, _⟩ := hou.at' hx
    subst ez
    have e0 : W.cell? ⟨bx, 0, none⟩ = some (.int .i64 (x : Int)) := by rw [cell_of_row _ _ _ _ _ _ hbxr]; rfl
    have e1 : W.cell? ⟨bx, 1, none⟩ = some (.int .u64 (wordOf f x : Int)) := by rw [cell_of_row _ _ _ _ _ _ hbxr]; rfl
    have ef : W.frozen? ⟨bx, 1, none⟩ = false := by simp [World.frozen?, hbxr]
    have hand : bits .and .u64 (wordOf f x : Int) (wordOf la x : Int) = (wordOf g x : Int) := by rw [bits_and_u64_nat _ _ (by have := wordOf_lt f x; omega) (by have := wordOf_lt la x; omega), word_mask, HG.out]
    have hxI : (x : Int) < (N : Int) := by omega
    have hxI0 : (0 : Int) ≤ (x : Int) := by omega
    have hmx : Tryd.prog.follows .mixedOrders = true := by kernel_rfl
    have hbl : bx ≠ w.heap.size ∧ bx ≠ J ∧ bx ≠ gz := by
      have h1 := hbx
      have h2 := HS3.out
      have h3 := (Array.getElem?_eq_some_iff.1 HJb.out.r).1
      have h4 := World.ownsRow.lt HOZ.out gz rfl
      omega
    have HS4 : Hid ((W.drew.setCell ⟨bx, 1, none⟩ (.int .u64 (wordOf g x : Int))).cell? ⟨w.heap.size, 0, none⟩ = some (.pointer (some ⟨J, 0, none⟩)) ∧ (W.drew.setCell ⟨bx, 1, none⟩ (.int .u64 (wordOf g x : Int))).cell? ⟨J, 6, none⟩ = some (.slice (some ⟨gz, 0, none⟩) N cz) ∧ (W.drew.setCell ⟨bx, 1, none⟩ (.int .u64 (wordOf g x : Int))).cell? ⟨bx, 0, none⟩ = some (.int .i64 (x : Int)) ∧ (W.drew.setCell ⟨bx, 1, none⟩ (.int .u64 (wordOf g x : Int))).cell? ⟨gz, x, none⟩ = some (.int .u64 (wordOf la x : Int))) := hid0 (by
      have ho := Only.setCell W.drew bx 1 (.int .u64 (wordOf g x : Int))
      refine ⟨(ho.cell (p := ⟨w.heap.size, 0, none⟩) (World.block_lt_of_cell? W _ d0) (fun e => hbl.1 e.symm)).trans d0, (ho.cell (p := ⟨J, 6, none⟩) (World.block_lt_of_cell? W _ d6) (fun e => hbl.2.1 e.symm)).trans d6, ?_, (ho.cell (p := ⟨gz, x, none⟩) (World.block_lt_of_cell? W _ dz) (fun e => hbl.2.2 e.symm)).trans dz⟩
      rw [cell_of_row _ _ _ _ _ _ (heap_setCell_same W.drew bx 1 _ _ (.int .u64 (wordOf g x : Int)) hbxr)]; rfl)
    have HJ := hid0 hJ
    have HBx := hid0 hbxr
    have HLr := hid0 hlr
    clear hia hou htb hJ hbxr hlr
    gi_wp2
    refine wpIn_region_round (S := (fun V => V.cell? ⟨w.heap.size, 0, none⟩ = some (.pointer (some ⟨J, 0, none⟩)) ∧ V.cell? ⟨J, 6, none⟩ = some (.slice (some ⟨gz, 0, none⟩) N cz) ∧ V.cell? ⟨bx, 0, none⟩ = some (.int .i64 (x : Int)) ∧ V.cell? ⟨gz, x, none⟩ = some (.int .u64 (wordOf la x : Int)))) (by kernel_rfl) (by kernel_rfl) ?_ (fun hHeld => ?_)
    · exact ⟨d0, d6, e0, dz⟩
    refine tkV (i := 0) (d := some 12) (v := ?_) rfl (by kernel_rfl) (by kernel_rfl) (by kernel_rfl) rfl (fun _ _ _ h => h) (by rfl) ?_ (by assumption) ?_
    rotate_left
    · (intro w hSw; (try dsimp only at hSw); (try simp only [List.getElem_toArray, List.getElem_cons_zero]); go_simp; try with_reducible rfl)
    try simp only [Act.put, List.setIfInBounds_toArray, List.set_cons_zero, List.set_cons_succ]
    refine tkV (i := 2) (d := some 14) (v := ?_) rfl (by kernel_rfl) (by kernel_rfl) (by kernel_rfl) rfl (fun _ _ _ h => h) (by rfl) ?_ (by assumption) ?_
    rotate_left
    · (intro w hSw; (try dsimp only at hSw); (try simp only [List.getElem_toArray, List.getElem_cons_zero, List.getElem_cons_succ]); go_simp; try with_reducible rfl)
    try simp only [Act.put, List.setIfInBounds_toArray, List.set_cons_zero, List.set_cons_succ]
    refine tkV (i := 3) (d := some 15) (v := ?_) rfl (by kernel_rfl) (by kernel_rfl) (by kernel_rfl) rfl (fun _ _ _ h => h) (by rfl) ?_ (by assumption) ?_
    rotate_left
    · (intro w hSw; (try dsimp only at hSw); (try simp only [List.getElem_toArray, List.getElem_cons_zero, List.getElem_cons_succ]); go_simp; try with_reducible rfl)
    try simp only [Act.put, List.setIfInBounds_toArray, List.set_cons_zero, List.set_cons_succ]
    refine tkV (i := 4) (d := some 16) (v := ?_) rfl (by kernel_rfl) (by kernel_rfl) (by kernel_rfl) rfl (fun _ _ _ h => h) (by rfl) ?_ (by assumption) ?_
    rotate_left
    · (intro w hSw; (try dsimp only at hSw); (try simp only [List.getElem_toArray, List.getElem_cons_zero, List.getElem_cons_succ]); go_simp; try with_reducible rfl)
    try simp only [Act.put, List.setIfInBounds_toArray, List.set_cons_zero, List.set_cons_succ]
    refine tkV (i := 5) (d := some 17) (v := ?_) rfl (by kernel_rfl) (by kernel_rfl) (by kernel_rfl) rfl (fun _ _ _ h => h) (by rfl) ?_ (by assumption) ?_
    rotate_left
    · (intro w hSw; (try dsimp only at hSw); (try simp only [List.getElem_toArray, List.getElem_cons_zero, List.getElem_cons_succ]); go_simp; try with_reducible rfl)
    try simp only [Act.put, List.setIfInBounds_toArray, List.set_cons_zero, List.set_cons_succ]
    refine tkV (i := 6) (d := some 18) (v := ?_) rfl (by kernel_rfl) (by kernel_rfl) (by kernel_rfl) rfl (fun _ _ _ h => h) (by rfl) ?_ (by assumption) ?_
    rotate_left
    · (intro w hSw; (try dsimp only at hSw); (try simp only [List.getElem_toArray, List.getElem_cons_zero, List.getElem_cons_succ]); go_simp; try with_reducible rfl)
    try simp only [Act.put, List.setIfInBounds_toArray, List.set_cons_zero, List.set_cons_succ]
    refine tkV (i := 7) (d := some 19) (v := ?_) rfl (by kernel_rfl) (by kernel_rfl) (by kernel_rfl) rfl (fun _ _ _ h => h) (by rfl) ?_ (by assumption) ?_
    rotate_left
    · (intro w hSw; (try dsimp only at hSw); (try simp only [List.getElem_toArray, List.getElem_cons_zero, List.getElem_cons_succ]); go_simp; try with_reducible rfl)
    try simp only [Act.put, List.setIfInBounds_toArray, List.set_cons_zero, List.set_cons_succ]
    refine tkV (i := 8) (d := some 20) (v := ?_) rfl (by kernel_rfl) (by kernel_rfl) (by kernel_rfl) rfl (fun _ _ _ h => h) (by rfl) ?_ (by assumption) ?_
    rotate_left
    · (intro w hSw; (try dsimp only at hSw); (try simp only [List.getElem_toArray, List.getElem_cons_zero, List.getElem_cons_succ]); go_simp; try with_reducible rfl)
    try simp only [Act.put, List.setIfInBounds_toArray, List.set_cons_zero, List.set_cons_succ]
    refine tkV (i := 9) (d := some 21) (v := ?_) rfl (by kernel_rfl) (by kernel_rfl) (by kernel_rfl) rfl (fun _ _ _ h => h) (by rfl) ?_ (by assumption) ?_
    rotate_left
    · (intro w hSw; (try dsimp only at hSw); (try simp only [List.getElem_toArray, List.getElem_cons_zero, List.getElem_cons_succ]); go_simp; try with_reducible rfl)
    try simp only [Act.put, List.setIfInBounds_toArray, List.set_cons_zero, List.set_cons_succ]
    refine wpAnyH_ready (rs := [1]) (by kernel_rfl) (by simp) (AllReadyH.cons rfl (fun K hK => ?_) AllReadyH.nil)
    try simp only [List.getElem_toArray, List.getElem_cons_zero, List.getElem_cons_succ]
    go_simp
    refine hK.out _ _ ?_ (fun hHeld1 => ?_)
    · exact ⟨d0, d6, e0, dz⟩
    clear hK K
    (try simp only [Act.put]); (try simp only [List.setIfInBounds_toArray]); (try simp only [List.set_cons_succ]); (try simp only [List.set_cons_zero])
    refine tkV (i := 10) (d := some 22) (v := ?_) rfl (by kernel_rfl) (by kernel_rfl) (by kernel_rfl) rfl (fun _ _ _ h => h) (by rfl) ?_ (by assumption) ?_
    rotate_left
    · (intro w hSw; (try dsimp only at hSw); (try simp only [List.getElem_toArray, List.getElem_cons_zero, List.getElem_cons_succ]); go_simp; try with_reducible rfl)
    try simp only [Act.put, List.setIfInBounds_toArray, List.set_cons_zero, List.set_cons_succ]
    refine tkV (i := 11) (d := some 23) (v := ?_) rfl (by kernel_rfl) (by kernel_rfl) (by kernel_rfl) rfl (fun _ _ _ h => h) (by rfl) ?_ (by assumption) ?_
    rotate_left
    · (intro w hSw; (try dsimp only at hSw); (try simp only [List.getElem_toArray, List.getElem_cons_zero, List.getElem_cons_succ]); go_simp; try with_reducible rfl)
    try simp only [Act.put, List.setIfInBounds_toArray, List.set_cons_zero, List.set_cons_succ]
    refine wpAnyH_ready (rs := [12]) (by kernel_rfl) (by simp) (AllReadyH.cons rfl (fun K hK => ?_) AllReadyH.nil)
    try simp only [List.getElem_toArray, List.getElem_cons_zero, List.getElem_cons_succ]
    go_simp
    refine hK.out _ _ ?_ (fun hHeld12 => ?_)
    · exact HS4.out
    clear hK K
    (try simp only [Act.put]); (try simp only [List.setIfInBounds_toArray]); (try simp only [List.set_cons_succ]); (try simp only [List.set_cons_zero])
    refine wpAnyH_done (by kernel_rfl) ?_ _
    refine NormO.normal ?_
    obtain ⟨V4, hV4⟩ : ∃ V4, V4 = (W.setCell ⟨bx, 1, none⟩ (.int .u64 (wordOf g x : Int))).drew := ⟨_, rfl⟩
    rw [← hV4]
    have hx4 : V4.heap[bx]? = some (.cells #[.int .i64 (x : Int), .int .u64 (wordOf g x : Int)] 130 (0, 0)) := by rw [hV4]; exact heap_setCell_same W _ 1 _ _ (.int .u64 (wordOf g x : Int)) HBx.out
    have ho4 : Only W V4 (fun k => k = bx) := by
      have h := Only.setCell W bx 1 (.int .u64 (wordOf g x : Int))
      rw [hV4]
      exact ⟨h.os, h.tape, h.output, h.size, h.block⟩
    have hE4 := HJ.out.word HBx.out (by have := HS3.out; omega) ho4
    have hl4 : V4.heap[l]? = some (.loop r) := (ho4.block l (Array.getElem?_eq_some_iff.1 HLr.out).1 (fun e => by have h1 := HLr.out; rw [e, HBx.out] at h1; cases h1)).trans HLr.out
    have HK4 : Hid (KpB bx W V4) := hid0 ⟨ho4.size, fun k o hk h1 _ => (ho4.block k (Array.getElem?_eq_some_iff.1 h1).1 hk).trans h1⟩
    have f0 : V4.cell? ⟨bx, 0, none⟩ = some (.int .i64 (x : Int)) := by rw [cell_of_row _ _ _ _ _ _ hx4]; rfl
    have f1 : V4.cell? ⟨bx, 1, none⟩ = some (.int .u64 (wordOf g x : Int)) := by rw [cell_of_row _ _ _ _ _ _ hx4]; rfl
    have HE4 := hid0 hE4
    have HL4 := hid0 hl4
    obtain ⟨k0, hk0⟩ : ∃ k0, k0 = (plB g (64 * x)).length := ⟨_, rfl⟩
    obtain ⟨P0, hP0⟩ : ∃ P0, P0 = pre.flatMap (pw g) := ⟨_, rfl⟩
    have HK0 := hid0 (And.intro hk0 hP0)
    have hxN : x < 1000000 := by omega
    clear d0 d1 d6 dz e0 e1 ef hand hgz hV4 hx4 ho4 hE4 hl4 hbl HS4 hk0 hP0
    gi_wp2
    refine wpIn_rangeW 7 6 (by omega) HL4.out x g (by omega) rfl (EdJ w J own P0 k0) ?keepI (fun lst A h => (HEd.out _ A h.1).2.2.2.2.2) ?startI ?assignI ?bodyI ?doneI
    case keepI =>
      rintro lst A B ⟨h1, h2⟩ ho
      refine ⟨h1.keep ⟨ho.os, ho.tape, ho.output, ho.size, fun k hk hn => ho.block k hk (fun ⟨q1, q2⟩ => hn (.inr ⟨by have := HE4.out.sz; omega, q2⟩))⟩, h2⟩
    case startI =>
      refine ⟨?_, by rw [HK0.out.1]; exact Nat.le_refl _⟩
      rw [List.drop_of_length_le (by rw [HK0.out.1]; exact Nat.le_refl _), List.append_nil, HK0.out.2]
      exact HE4.out
    case assignI =>
      intro l x W K hK
      simp only [actE, List.setIfInBounds_toArray, List.set_cons_succ, List.set_cons_zero] at hK ⊢
      gi_wp2
      exact hK
    case bodyI =>
      intro l2 lst q V hJq h1 h2 hgq hlq
      simp only [actE, List.setIfInBounds_toArray, List.set_cons_succ, List.set_cons_zero]
      obtain ⟨hEq, hkl⟩ := hJq
      obtain ⟨d0, d1, _, hia, _, _⟩ := HEd.out _ V hEq
      have hqo : q < own.length := HLa.out q (by have := hgq; rw [HG.out] at this; simp only [Bool.and_eq_true] at this; exact this.2)
      obtain ⟨bo, oo, eo, _, dq⟩ := hia.at' q (by rw [nI_len]; exact hqo)
      subst eo
      obtain ⟨m, hm⟩ : ∃ m : Nat, m = own.getD q 0 := ⟨_, rfl⟩
      replace dq : V.cell? ⟨bo, oo + q, none⟩ = some (.int .i64 (m : Int)) := by rw [dq, hm]; simp [nI, hqo]
      obtain ⟨LL, hLL⟩ : ∃ LL, LL = onceC [] ((P0 ++ lst.drop k0).map fun q => own.getD q 0) := ⟨_, rfl⟩
      have HNx : Hid (onceC [] ((P0 ++ (lst ++ [q]).drop k0).map fun q => own.getD q 0) = if LL.getLast? = some m then LL else LL ++ [m]) := hid0 (by
        rw [List.drop_append_of_le_length hkl, ← List.append_assoc, List.map_append, List.map_cons, List.map_nil, onceC_snoc, ← hLL, ← hm])
      rw [← hLL] at hEq
      obtain ⟨v, hv1, hv2⟩ := hEq.ls
      have d5 : V.cell? ⟨w.heap.size + 1, 0, none⟩ = some v := by rw [cell_of_row _ _ _ _ _ _ hv1]; rfl
      obtain ⟨av, cv, ev, hiv⟩ := hv2.ia
      rw [nI_len] at ev
      have HEq := hid0 hEq
      have HV1 := hid0 hv1
      have HV2 := hid0 hv2
      have HIv := hid0 hiv
      have HKl := hid0 hkl
      have hqI : (q : Int) < (own.length : Int) := by omega
      have hqI0 : (0 : Int) ≤ (q : Int) := by omega
      have hlb : LL.length ≤ 200000000 := by
        rw [hLL, HK0.out.2]
        exact ends_len (fun q hq => by rw [HG.out] at hq; simp only [Bool.and_eq_true] at hq; exact hq.1) HPre.out hlq hN (by omega)
      have hlbI : (LL.length : Int) ≤ 200000000 := by omega
      have hsV : w.heap.size + 3 ≤ V.heap.size := hEq.sz
      obtain ⟨i0, hi, hz0, hz1, hz2⟩ := info_parts infoInt
      clear hia hEq hv1 hv2 hiv hkl hLL hm hgq h1 h2 f0 f1 hlq
      subst ev
      by_cases h0 : LL.length = 0
      · have hLe : LL = [] := List.length_eq_zero_iff.1 h0
        have HLs : Hid (¬ LL.getLast? = some m) := hid0 (by rw [hLe]; simp)
        have hb0 : ((LL.length : Int) == 0) = true := by rw [h0]; rfl
        clear h0 hLe
        gi_wp2_with (gi_at_builtin; go_loud ((refine wpListIn_append_own_at _ rfl _ _ 34 rfl (w.heap.size + 3) 3 i0 (.int .i64 0) 1 8 Tryd.underlying34 hi hz0 hz1 hz2 rfl (by decide) (.slice av LL.length cv) LL.length ((nI LL).map (Value.int .i64)) rfl (World.ownsRow.alloc (own_n HV2.out (nI_len LL)) _) ⟨V.heap.size, 0, none⟩ 1 1 [.int .i64 (m : Int)] rfl rfl (cell_one_new _ _ _) (by simp [Value.oneCell']) (by unfold maxLen; omega) (by omega) (by simp; omega) ?_; intro v' w4 hown4 hgrow4 _ _; obtain ⟨g4, e4, ev4, _⟩ := own_form hown4 (by omega); subst ev4; have R := HEq.out.app HV1.out HV2.out hown4 hgrow4; have HR := hid0 (And.intro R.1 R.2.1); have c4 := R.2.2.1; have f4 := R.2.2.2; clear R hown4 hgrow4)))
        exact ⟨⟨by rw [HNx.out, if_neg HLs.out]; exact HR.out.1, by rw [List.length_append]; have := HKl.out; omega⟩, HR.out.2⟩
      · have hb0 : ((LL.length : Int) == 0) = false := by rw [beq_eq_false_iff_ne]; omega
        have hpos : 0 < LL.length := by omega
        obtain ⟨bv, ov, eav, _, dl⟩ := HIv.out.at' (LL.length - 1) (by rw [nI_len]; omega)
        subst eav
        obtain ⟨y, hy⟩ : ∃ y : Nat, y = LL[LL.length - 1]'(by omega) := ⟨_, rfl⟩
        replace dl : V.cell? ⟨bv, ov + (LL.length - 1), none⟩ = some (.int .i64 (y : Int)) := by rw [dl, hy]; simp [nI]
        have hly : LL.getLast? = some y := by rw [List.getLast?_eq_getElem?, List.getElem?_eq_getElem (by omega), hy]
        have hposI : (1 : Int) ≤ (LL.length : Int) := by omega
        have hcut : ((LL.length : Int) - 1).toNat = LL.length - 1 := by omega
        clear h0 hy
        by_cases hym : y = m
        · subst hym
          have HLs : Hid (LL.getLast? = some y) := hid0 hly
          have hneq : ((y : Int) != (y : Int)) = false := by simp
          clear hly
          gi_wp2
          exact ⟨⟨by rw [HNx.out, if_pos HLs.out]; exact HEq.out, by rw [List.length_append]; have := HKl.out; omega⟩, KpT.refl V⟩
        · have HLs : Hid (¬ LL.getLast? = some m) := hid0 (by rw [hly]; intro e; injection e with e; exact hym e)
          have hneq : ((y : Int) != (m : Int)) = true := by rw [bne_iff_ne]; omega
          have hneq2 : ¬ (y : Int) = (m : Int) := by omega
          clear hly hym
          gi_wp2_with (gi_at_builtin; go_loud ((refine wpListIn_append_own_at _ rfl _ _ 34 rfl (w.heap.size + 3) 3 i0 (.int .i64 0) 1 8 Tryd.underlying34 hi hz0 hz1 hz2 rfl (by decide) (.slice (some ⟨bv, ov, none⟩) LL.length cv) LL.length ((nI LL).map (Value.int .i64)) rfl (World.ownsRow.alloc (own_n HV2.out (nI_len LL)) _) ⟨V.heap.size, 0, none⟩ 1 1 [.int .i64 (m : Int)] rfl rfl (cell_one_new _ _ _) (by simp [Value.oneCell']) (by unfold maxLen; omega) (by omega) (by simp; omega) ?_; intro v' w4 hown4 hgrow4 _ _; obtain ⟨g4, e4, ev4, _⟩ := own_form hown4 (by omega); subst ev4; have R := HEq.out.app HV1.out HV2.out hown4 hgrow4; have HR := hid0 (And.intro R.1 R.2.1); have c4 := R.2.2.1; have f4 := R.2.2.2; clear R hown4 hgrow4)))
          exact ⟨⟨by rw [HNx.out, if_neg HLs.out]; exact HR.out.1, by rw [List.length_append]; have := HKl.out; omega⟩, HR.out.2⟩
    case doneI =>
      intro V hJ hKV
      have HD : Hid (EdK w J g own (pre ++ [x]) V) := hid0 (by
        have h := hJ.1
        unfold EdK
        rw [HK0.out.1, HK0.out.2] at h
        rw [List.flatMap_append]
        simp only [List.flatMap_cons, List.flatMap_nil, List.append_nil]
        exact h)
      have HKB := hid0 (HK4.out.trans (hKV.b bx))
      clear hJ hKV
      gi_wp2
      exact ⟨HD.out, HKB.out⟩
  case done =>
    intro W hJ hK
    have hJ : EdI w J (endL (fun q => f q && la q) own (64 * N)) W := by
      have h : EdK w J g own (wl f N) W := hJ
      unfold EdK at h
      rw [pw_wl (fun q hq => by rw [HG.out] at hq; simp only [Bool.and_eq_true] at hq; exact hq.1) N, HG.out] at h
      exact h
    generalize hLF : endL (fun q => f q && la q) own (64 * N) = LF at *
    have HLF := hid0 hLF
    clear hLF
    obtain ⟨v, hv1, hv2⟩ := hJ.ls
    have d5 : W.cell? ⟨w.heap.size + 1, 0, none⟩ = some v := by rw [cell_of_row _ _ _ _ _ _ hv1]; rfl
    obtain ⟨av, cv, ev, _⟩ := hv2.ia
    subst ev
    have hF : OwnI (W.putObj w3.heap.size (.deferred none)) w.heap.size (.slice av (nI LF).length cv) (nI LF) ∧ Below w.heap.size w (W.putObj w3.heap.size (.deferred none)) := by
      have h3 := HS3.out
      refine ⟨own_blk (row_lo hv2 (by omega)) (fun k hk => World.putObj_heap_other (fun e => ?_)), ⟨hJ.bel.os, hJ.bel.tape, hJ.bel.output, by simp; exact hJ.bel.size, fun k hk => (World.putObj_heap_other (by omega)).trans (hJ.bel.block k hk)⟩⟩
      obtain ⟨cs, hcs⟩ := own_typ hv2 hk
      rw [e, hK] at hcs
      cases hcs
    have HK := hid0 hK
    have HF := hid0 hF
    clear hv1 hv2 hJ hK hF
    generalize (nI LF).length = n5 at *
    gi_wp2
    refine ⟨by simp, .inl ⟨_, _, rfl, run_takeDeferred HK.out, ?_⟩⟩
    exact ⟨_, results_tmp (t := 4) rfl _ _ _, .slice av n5 cv, rfl, by rw [HLF.out]; exact HF.out.1, HF.out.2⟩
end Go.Proofs.YtleeedjpccooaaaDoor
