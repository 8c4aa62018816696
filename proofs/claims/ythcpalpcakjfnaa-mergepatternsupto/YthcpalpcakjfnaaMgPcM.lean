/-
  The list that Patterns makes.
-/
import Derived.Test.YthcpalpcakjfnaaMgPbW
namespace Go.Proofs.Ythcpalpcakjfnaa
open Go.RowKit Go.Shelf Go.Lib Go.Maps
/-- A frame that leaves with marks of loops: their blocks are shut. -/
theorem leaves_marks {n : Nat} {fn : Func} {tmps : Array Value} {R : Ending → World → Prop} (B : Nat) : ∀ (ds : List Nat) (w : World), (∀ d ∈ ds, B ≤ d ∧ w.heap[d]? = some (.deferred (some []))) → ds.Nodup →
    (∀ W, Only w W (fun k => k ∈ ds) → LeavesInM Fence.wide n Try.prog fn tmps R [] .returning W) → LeavesInM Fence.wide n Try.prog fn tmps R (ds.map markD) .returning w
  | [], w, _, _, h => h w (Only.refl _ _)
  | d :: ds, w, hd, hn, h => by
    obtain ⟨hdn, hn'⟩ := List.nodup_cons.1 hn
    refine ⟨by simp, .inl ⟨d, _, rfl, run_takeDeferred (hd d (.head _)).2, ?_⟩⟩
    refine leaves_marks B ds _ (fun x hx => ⟨(hd x (.tail _ hx)).1, (World.putObj_heap_other (fun e => hdn (by rw [← e]; exact hx))).trans (hd x (.tail _ hx)).2⟩) hn' (fun W hW => h W ?_)
    exact (Only.putObj w d _ (fun k => k ∈ d :: ds) (.head _)).trans hW (fun i hi => .inl (.tail _ hi))
structure PJ (w W : World) (F : Nat) (v : Value) (L : List P3) (ds : List Nat) : Prop where
  box : W.heap[F]? = some (.cells #[v] 52 (0, 0))
  own : Own3 W w.heap.size v L
  bel : Below w.heap.size w W
  lo : w.heap.size ≤ F
  ds : ∀ d ∈ ds, w.heap.size ≤ d ∧ W.heap[d]? = some (.deferred (some []))
section
variable {w W W' : World} {F : Nat} {v : Value} {L : List P3} {ds : List Nat}
theorem PJ.lt (h : PJ w W F v L ds) : F < W.heap.size := (Array.getElem?_eq_some_iff.1 h.box).1
theorem PJ.only (h : PJ w W F v L ds) {S : Nat → Prop} (ho : Only W W' S) (hs : ∀ k, S k → w.heap.size ≤ k) (hF : ¬ S F) (hv : ∀ g, v.ownBlock = some g → ¬ S g) (hd : ∀ d ∈ ds, ¬ S d) : PJ w W' F v L ds where
  box := (ho.block _ h.lt hF).trans h.box
  own := own_blk h.own (fun k e => ho.block k (World.ownsRow.lt h.own k e).2 (hv k e))
  bel := h.bel.trans (ho.below h.bel.size hs)
  lo := h.lo
  ds := fun d hm => ⟨(h.ds d hm).1, (ho.block d (Array.getElem?_eq_some_iff.1 (h.ds d hm).2).1 (hd d hm)).trans (h.ds d hm).2⟩
theorem PJ.past (h : PJ w W F v L ds) (hb : Below W.heap.size W W') : PJ w W' F v L ds := h.only (S := fun _ => False) ⟨hb.os, hb.tape, hb.output, hb.size, fun k hk _ => hb.block k hk⟩ (fun _ q => nomatch q) (fun q => q) (fun _ _ q => q) (fun _ _ q => q)
theorem PJ.row (h : PJ w W F v L ds) {g : Nat} (hg : v.ownBlock = some g) : ∃ cur fr, W.heap[g]? = some (.cells cur 54 fr) := by
  rcases h.own.2 with ⟨rfl, _⟩ | ⟨g', cap, cur, rfl, _, hr, _⟩
  · cases hg
  · cases hg
    exact ⟨_, _, hr⟩
theorem PJ.off (h : PJ w W F v L ds) : v.ownBlock ≠ some F := fun e => by
  obtain ⟨cur, fr, hr⟩ := h.row e
  rw [h.box] at hr
  cases hr
theorem PJ.offD (h : PJ w W F v L ds) {d : Nat} (hd : d ∈ ds) : v.ownBlock ≠ some d ∧ d ≠ F := by
  refine ⟨fun e => ?_, fun e => ?_⟩
  · obtain ⟨cur, fr, hr⟩ := h.row e
    rw [(h.ds d hd).2] at hr
    cases hr
  · have h1 := (h.ds d hd).2
    rw [e, h.box] at h1
    cases h1
theorem PJ.less (h : PJ w W F v L ds) : PJ w W F v L [] := ⟨h.box, h.own, h.bel, h.lo, fun _ hx => nomatch hx⟩
/-- A mark more. -/
theorem PJ.mark (h : PJ w W F v L ds) {d : Nat} (hd : w.heap.size ≤ d) (hr : W.heap[d]? = some (.deferred (some []))) : PJ w W F v L (d :: ds) := ⟨h.box, h.own, h.bel, h.lo, fun x hx => by
  rcases List.mem_cons.1 hx with rfl | hx
  · exact ⟨hd, hr⟩
  · exact h.ds x hx⟩
/-- One pattern more. -/
theorem PJ.step {w4 : World} {v4 : Value} {x : P3} {o : Obj} (h : PJ w W F v L ds) (hg : (W.alloc o).grownBy w4 v.ownBlock) (hat : v4.ownBlock = v.ownBlock ∨ v4.ownBlock = some (W.alloc o).heap.size) (ho : w4.ownsRow w.heap.size 54 3 v4 (L.length + 1) (cells3 L ++ c3 x)) :
    PJ w (w4.setCell ⟨F, 0, none⟩ v4) F v4 (L ++ [x]) ds ∧ Only W (w4.setCell ⟨F, 0, none⟩ v4) (fun k => k = F ∨ v.ownBlock = some k) ∧ w4.heap[F]? = some (.cells #[v] 52 (0, 0)) := by
  have hF := h.lt
  have ho4 : Only W w4 (fun k => k = F ∨ v.ownBlock = some k) := (Only.alloc W o _).trans ⟨hg.os, hg.tape, hg.output, hg.size, fun k hk hn => hg.block k hk (fun e => hn (.inr e.symm))⟩ (fun i hi => .inl hi)
  have hon : Only W (w4.setCell ⟨F, 0, none⟩ v4) (fun k => k = F ∨ v.ownBlock = some k) := ho4.trans (Only.setCell w4 F 0 v4) (fun i hi => .inl (.inl hi))
  have off4 : v4.ownBlock ≠ some F := fun e4 => by
    rcases hat with q | q
    · rw [q] at e4; exact h.off e4
    · rw [q] at e4; simp at e4; omega
  have hb4 : w4.heap[F]? = some (.cells #[v] 52 (0, 0)) := (hg.block F (by simp; omega) (fun e => h.off e.symm)).trans ((Below.heap_alloc W o F hF).trans h.box)
  refine ⟨⟨heap_setCell_same w4 F 0 _ _ v4 hb4, ?_, ?_, h.lo, fun d hd => ⟨(h.ds d hd).1, (hon.block d (Array.getElem?_eq_some_iff.1 (h.ds d hd).2).1 ?_).trans (h.ds d hd).2⟩⟩, hon, hb4⟩
  · unfold Own3
    rw [List.length_append, List.length_singleton, cells3_snoc]
    exact own_blk ho (fun g hg' => Below.heap_setCell w4 _ v4 g (fun e => off4 (by rw [← show g = F from e]; exact hg')))
  · refine h.bel.trans (hon.below h.bel.size (fun i hi => ?_))
    rcases hi with rfl | hi
    · exact h.lo
    · exact (World.ownsRow.lt h.own i hi).1
  · rintro (e | e)
    · exact (h.offD hd).2 e
    · exact (h.offD hd).1 e
end
def actB (a : Act) (s q : Nat) (x : P3) (b : Nat) : Act := { tmps := (a.tmps.setIfInBounds s (val3 x)).setIfInBounds q (.pointer (some ⟨b, 0, none⟩)), defers := [] }
theorem wpIn_rangeRu' {gop : Operand} {s : Tmp} {assign body : Code} {Q : Exit → Act → World → Prop} {a : Act} {w : World} (q n : Nat) (hn : 2 ≤ n) (b1 b2 : Nat) (X : List P3) (I : World → Prop) (hS : SeqC (n - 1) 29 #[.pointer (some ⟨b1, 0, none⟩), .pointer (some ⟨b2, 0, none⟩)] X I)
    (hg : a.eval gop = .func (.func 29) #[] #[.pointer (some ⟨b1, 0, none⟩), .pointer (some ⟨b2, 0, none⟩)])
    (J : Nat → World → Prop) (hJk : ∀ k A B, J k A → Only A B (fun b => b = w.heap.size ∨ b = w.heap.size + 1) → J k B) (hJs : ∀ k A, J k A → I A) (h0 : J 0 w)
    (hassign : ∀ (l : Nat) (x : P3) (W : World) (K : Act → World → Prop), K (actB a s q x W.heap.size) (W.alloc (.cells #[.int .i64 x.1, .int .i64 x.2.1, .int .i64 x.2.2] 54)) → assign.wpIn (Fence.wide.inRound l) (n - 1 - 1) Try.prog (Exit.then K (fun _ _ _ => False)) { tmps := a.tmps.setIfInBounds s (val3 x), defers := [] } W)
    (hbody : ∀ (l k : Nat) (hk : k < X.length) (Bx : Nat) (W : World), J k W → W.heap[Bx]? = some (.cells #[.int .i64 X[k].1, .int .i64 X[k].2.1, .int .i64 X[k].2.2] 54 (0, 0)) → (W.heap[w.heap.size]? = some (.deferred (some [])) ∧ ∃ rc, W.heap[w.heap.size + 1]? = some (.loop rc)) → body.wpIn (Fence.wide.inRound l) (n - 1 - 1) Try.prog (fun e _ W' => e = .normal ∧ J (k + 1) W' ∧ Only W W' (fun k => k ≠ w.heap.size ∧ k ≠ w.heap.size + 1)) (actB a s q X[k] Bx) W)
    (hdone : ∀ W, J X.length W → W.heap[w.heap.size]? = some (.deferred (some [])) → Q .normal { a with defers := markD w.heap.size :: a.defers } W) :
    (Code.rangeFunc gop #[s] assign body).wpIn Fence.wide n Try.prog Q a w :=
  wpIn_rangeRu n hn b1 b2 X I hS hg rfl J hJk hJs h0 (actB a s q) (fun l x W K hK => by simpa using hassign l x W K hK) hbody hdone
theorem wpIn_rangeCut' {gop : Operand} {s : Tmp} {assign body : Code} {Q : Exit → Act → World → Prop} {a : Act} {w : World} (q n : Nat) (hn : 2 ≤ n) (b1 : Nat) (X : List P3) (I : World → Prop) (hS : SeqC (n - 1) 30 #[.pointer (some ⟨b1, 0, none⟩)] X I)
    (hg : a.eval gop = .func (.func 30) #[] #[.pointer (some ⟨b1, 0, none⟩)])
    (J : Nat → World → Prop) (hJk : ∀ k A B, J k A → Only A B (fun b => b = w.heap.size ∨ b = w.heap.size + 1) → J k B) (hJs : ∀ k A, J k A → I A) (h0 : J 0 w)
    (hassign : ∀ (l : Nat) (x : P3) (W : World) (K : Act → World → Prop), K (actB a s q x W.heap.size) (W.alloc (.cells #[.int .i64 x.1, .int .i64 x.2.1, .int .i64 x.2.2] 54)) → assign.wpIn (Fence.wide.inRound l) (n - 1 - 1) Try.prog (Exit.then K (fun _ _ _ => False)) { tmps := a.tmps.setIfInBounds s (val3 x), defers := [] } W)
    (hbody : ∀ (l k : Nat) (hk : k < X.length) (Bx : Nat) (W : World), J k W → W.heap[Bx]? = some (.cells #[.int .i64 X[k].1, .int .i64 X[k].2.1, .int .i64 X[k].2.2] 54 (0, 0)) → (W.heap[w.heap.size]? = some (.deferred (some [])) ∧ ∃ rc, W.heap[w.heap.size + 1]? = some (.loop rc)) → body.wpIn (Fence.wide.inRound l) (n - 1 - 1) Try.prog (fun e _ W' => e = .normal ∧ J (k + 1) W' ∧ Only W W' (fun k => k ≠ w.heap.size ∧ k ≠ w.heap.size + 1)) (actB a s q X[k] Bx) W)
    (hdone : ∀ W, J X.length W → W.heap[w.heap.size]? = some (.deferred (some [])) → Q .normal { a with defers := markD w.heap.size :: a.defers } W) :
    (Code.rangeFunc gop #[s] assign body).wpIn Fence.wide n Try.prog Q a w :=
  wpIn_rangeCut n hn b1 X I hS hg rfl J hJk hJs h0 (actB a s q) (fun l x W K hK => by simpa using hassign l x W K hK) hbody hdone
/-- What Patterns answers. -/
def PatR (w : World) (L : List P3) (r : Ending) (w' : World) : Prop := ∃ v, r = .returned v ∧ Own3 w' w.heap.size v L ∧ Below w.heap.size w w'
end Go.Proofs.Ythcpalpcakjfnaa
