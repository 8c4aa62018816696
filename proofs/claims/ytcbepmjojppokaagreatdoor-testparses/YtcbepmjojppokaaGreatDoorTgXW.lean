/-
  A range over the lines of a text (stage 23).
-/
import Derived.Test.YtcbepmjojppokaaGreatDoorTgWW
namespace Go.Proofs.YtcbepmjojppokaaGreatDoor
open Go.RowKit Go.Shelf Go.Lib Go.Maps
attribute [local go_sem] Oper.semAt_some
theorem Only.putObj (w : World) (l : Nat) (o : Obj) (S : Nat → Prop) (hl : S l) : Only w (w.putObj l o) S :=
  ⟨rfl, rfl, rfl, by simp, fun k _ hs => World.putObj_heap_other (fun e => hs (e ▸ hl))⟩
theorem Only.ofNew {w w' : World} (h : Below w.heap.size w w') (S : Nat → Prop) : Only w w' S := Only.ofBelow h S (fun i h1 h2 => by omega)
abbrev markD (d : Nat) : Deferred := { target := .collected d, args := #[] }
/-- All cells stay. -/
structure Kc0 (w w' : World) : Prop where
  size : w.heap.size ≤ w'.heap.size
  keep : ∀ (i : Nat) (c : Array Value) (t : TypeId) (z : Nat × Nat), w.heap[i]? = some (Obj.cells c t z) → w'.heap[i]? = some (Obj.cells c t z)
theorem Kc0.below {w w' : World} (h : Below w.heap.size w w') : Kc0 w w' := ⟨h.size, fun i _ _ _ hi => (h.block i (Array.getElem?_eq_some_iff.1 hi).1).trans hi⟩
theorem Kc0.put {w : World} {l : Nat} {o : Obj} (o' : Obj) (h : w.heap[l]? = some o) (ho : ∀ c t z, o ≠ Obj.cells c t z) : Kc0 w (w.putObj l o') :=
  ⟨by simp, fun i c t z hi => by
    by_cases e : i = l
    · subst e; rw [h] at hi; injection hi with hi; exact absurd hi (ho c t z)
    · exact (World.putObj_heap_other e).trans hi⟩
/-- A frame that leaves with marks of loops: their blocks are shut. -/
theorem leaves_marks {n : Nat} {fn : Func} {tmps : Array Value} {R : Ending → World → Prop} (B : Nat) : ∀ (ds : List Nat) (w : World), (∀ d ∈ ds, B ≤ d ∧ w.heap[d]? = some (.deferred (some []))) → ds.Nodup →
    (∀ W, Only w W (fun k => k ∈ ds) → LeavesInM Fence.wide n Tryz.prog fn tmps R [] .returning W) → LeavesInM Fence.wide n Tryz.prog fn tmps R (ds.map markD) .returning w
  | [], w, _, _, h => h w (Only.refl _ _)
  | d :: ds, w, hd, hn, h => by
    obtain ⟨hdn, hn'⟩ := List.nodup_cons.1 hn
    refine ⟨by simp, .inl ⟨d, _, rfl, run_takeDeferred (hd d (.head _)).2, ?_⟩⟩
    refine leaves_marks B ds _ (fun x hx => ⟨(hd x (.tail _ hx)).1, (World.putObj_heap_other (fun e => hdn (by rw [← e]; exact hx))).trans (hd x (.tail _ hx)).2⟩) hn' (fun W hW => h W ?_)
    exact (Only.putObj w d _ (fun k => k ∈ d :: ds) (.head _)).trans hW (fun i hi => .inl (.tail _ hi))
theorem wpIn_rangeLines {gop : Operand} {ps : Array Tmp} {assign body : Code} {Q : Exit → Act → World → Prop} {a : Act} {w : World} (n : Nat) (hn : 2 ≤ n) (g : Nat) (s : By) (hs : s.length ≤ 1048576) (ok : List By → Bool) (hok : ok [] = true)
    (hg : a.eval gop = .func (.func 43) #[] #[.pointer (some ⟨g, 0, none⟩)]) (hps : ps.size = 1)
    (J : List By → World → Prop)
    (hJk : ∀ pre A B, J pre A → Only A B (fun k => k = w.heap.size ∨ k = w.heap.size + 1) → Kc0 A B → J pre B)
    (hJg : ∀ pre A v, J pre A → J pre (A.setCell ⟨g, 0, none⟩ v)) (hgl : g < w.heap.size)
    (h0 : J [] w) (hbox : LBox g s w) (act : By → Act)
    (hassign : ∀ (lp : Nat) (x : By) (W : World) (K : Act → World → Prop), K (act x) W → assign.wpIn (Fence.wide.inRound lp) (n - 1 - 1) Tryz.prog (Exit.then K (fun _ _ _ => False)) { tmps := (ps.zip #[Value.string (rd x)]).foldl (fun t (p, v) => t.setIfInBounds p v) a.tmps, defers := [] } W)
    (hbody : ∀ (lp : Nat) (pre : List By) (x : By) (v : Bool) (W : World), J pre W → ok pre = true → ok (pre ++ [x]) = v → (∃ r, pre ++ x :: r = rawL s) → (W.heap[w.heap.size]? = some (.deferred (some [])) ∧ ∃ rc, W.heap[w.heap.size + 1]? = some (.loop rc)) →
      body.wpIn (Fence.wide.inRound lp) (n - 1 - 1) Tryz.prog (fun e _ W' => e = (if v then .normal else .ret) ∧ J (pre ++ [x]) W' ∧ W'.heap[w.heap.size]? = W.heap[w.heap.size]? ∧ W'.heap[w.heap.size + 1]? = W.heap[w.heap.size + 1]? ∧ W'.heap[g]? = W.heap[g]?) (act x) W)
    (hdone : ∀ W, J (rawL s) W → ok (rawL s) = true → W.heap[w.heap.size]? = some (.deferred (some [])) → Q .normal { a with defers := markD w.heap.size :: a.defers } W)
    (hret : ∀ pre W, J pre W → ok pre = false → (∃ r, pre ++ r = rawL s) → W.heap[w.heap.size]? = some (.deferred (some [])) → Q .ret { a with defers := markD w.heap.size :: a.defers } W) :
    (Code.rangeFunc gop ps assign body).wpIn Fence.wide n Tryz.prog Q a w := by
  refine wpIn_rangeFunc ?_
  intro fn hfn
  obtain ⟨rec, hrec⟩ : ∃ rec : LoopState → Loop, rec = fun st => { state := st, pending := none, fn, tmps := a.tmps, params := ps, assign, body, defers := w.heap.size } := ⟨_, rfl⟩
  obtain ⟨W1, hW1⟩ : ∃ W1, (w.alloc (.deferred (some []))).alloc (.loop (rec .ready)) = W1 := ⟨_, rfl⟩
  have hs1 : W1.heap.size = w.heap.size + 2 := by rw [← hW1]; simp
  have hL1 : W1.heap[w.heap.size + 1]? = some (.loop (rec .ready)) := by
    rw [← hW1]; have := World.alloc_heap_new (w.alloc (.deferred (some []))) (.loop (rec .ready)); rwa [World.size_alloc] at this
  have hD1 : W1.heap[w.heap.size]? = some (.deferred (some [])) := by
    rw [← hW1]; exact (Below.heap_alloc _ _ _ (by simp)).trans (World.alloc_heap_new w _)
  have hb1 : Below w.heap.size w W1 := by rw [← hW1]; exact ((Below.refl _ w).alloc (Nat.le_refl _) _).alloc (by simp) _
  have hJ1 : J [] W1 := hJk _ _ _ h0 (Only.ofNew hb1 _) (Kc0.below hb1)
  have hput : ∀ pre A rc rc', J pre A → A.heap[w.heap.size + 1]? = some (.loop rc) → J pre (A.putObj (w.heap.size + 1) (.loop rc')) := fun pre A rc rc' hA hl => hJk _ _ _ hA (Only.putObj _ _ _ _ (.inr rfl)) (Kc0.put _ hl (fun _ _ _ e => nomatch e))
  refine ⟨w.heap.size + 1, [{ target := .collected w.heap.size, args := #[] }], W1, { target := .fn (.func 43) #[.pointer (some ⟨g, 0, none⟩)], args := #[.func (.yield (w.heap.size + 1)) #[] #[]] }, W1, 43,
    #[.func (.yield (w.heap.size + 1)) #[] #[], .pointer (some ⟨g, 0, none⟩)], W1, ?_, ?_, ?_, ?_, fun _ => by omega, ?_⟩
  · rw [← hW1, hrec]; exact run_enterLoop_outer _ _ _ _ _
  · simp only [resolve, hg]
    simp [go_sem]
  · intro f' hf'; simp [Target.leads] at hf'; subst hf'; trivial
  · simp [invoke, go_sem]
  · refine (lines1_in (n - 1) (by omega) (w.heap.size + 1) g s hs ok
      (fun pre W => J pre W ∧ W.heap[w.heap.size]? = some (.deferred (some [])) ∧ (ok pre = true → W.heap[w.heap.size + 1]? = some (.loop (rec .ready))) ∧ (ok pre = false → ∃ rc, W.heap[w.heap.size + 1]? = some (.loop rc) ∧ rc.state = .done ∧ rc.pending = some .ret))
      W1 ?_ ?_ ?_ ⟨hJ1, hD1, fun _ => hL1, fun h => by rw [hok] at h; cases h⟩ hok ((hb1.block g hgl).trans hbox)).mono ?_
    · rintro pre A B ⟨h1, h2, h3, h4⟩ hb
      refine ⟨hJk _ _ _ h1 (Only.ofNew hb _) (Kc0.below hb), (hb.block _ (Array.getElem?_eq_some_iff.1 h2).1).trans h2, fun h => (hb.block _ (Array.getElem?_eq_some_iff.1 (h3 h)).1).trans (h3 h), fun h => ?_⟩
      obtain ⟨rc, q1, q2⟩ := h4 h
      exact ⟨rc, (hb.block _ (Array.getElem?_eq_some_iff.1 q1).1).trans q1, q2⟩
    · rintro pre A v ⟨h1, h2, h3, h4⟩
      have hne : ∀ k, w.heap.size ≤ k → (A.setCell ⟨g, 0, none⟩ v).heap[k]? = A.heap[k]? := fun k hk => Below.heap_setCell A ⟨g, 0, none⟩ v k (by simp; omega)
      refine ⟨hJg _ _ _ h1, (hne _ (Nat.le_refl _)).trans h2, fun h => (hne _ (by omega)).trans (h3 h), fun h => ?_⟩
      obtain ⟨rc, q1, q2⟩ := h4 h
      exact ⟨rc, (hne _ (by omega)).trans q1, q2⟩
    · rintro pre x A ⟨h1, h2, h3, _⟩ hok1 hx
      have hlo := h3 hok1
      have hlt : w.heap.size + 1 < A.heap.size := (Array.getElem?_eq_some_iff.1 hlo).1
      have hy := run_yield (P := Tryz.prog) (args := #[Value.string (rd x)]) hlo (by rw [hrec]; simp [hps])
      rw [hrec] at hy
      refine ⟨fn, _, assign, body, hy, roundIn_of_wpIn hfn (hassign _ x A _ ?_)⟩
      refine ⟨_, run_beginRound hlo (by rw [hrec]), ?_⟩
      have hl2 : (A.putObj (w.heap.size + 1) (.loop { rec .ready with state := .busy })).heap[w.heap.size + 1]? = some (.loop { rec .ready with state := .busy }) := World.putObj_heap_same hlt
      have hk2 : (A.putObj (w.heap.size + 1) (.loop { rec .ready with state := .busy })).heap[w.heap.size]? = some (.deferred (some [])) := (World.putObj_heap_other (by omega)).trans h2
      have hg2 : (A.putObj (w.heap.size + 1) (.loop { rec .ready with state := .busy })).heap[g]? = A.heap[g]? := World.putObj_heap_other (by omega)
      obtain ⟨v, hv⟩ : ∃ v, ok (pre ++ [x]) = v := ⟨_, rfl⟩
      refine wpIn_mono (hbody _ pre x v _ (hput _ _ _ _ h1 hlo) hok1 hv hx ⟨hk2, _, hl2⟩) ?_
      rintro e a3 W3 ⟨rfl, hj3, hd3, hl3, hg3⟩
      rw [hl2] at hl3
      rw [hk2] at hd3
      rw [hg2] at hg3
      have hlt3 : w.heap.size + 1 < W3.heap.size := (Array.getElem?_eq_some_iff.1 hl3).1
      cases v with
      | true =>
        have hr := run_endRound (P := Tryz.prog) none hl3
        rw [hrec] at hr
        refine ⟨_, _, hr, by rw [hv]; rfl, ⟨hput _ _ _ _ hj3 hl3, (World.putObj_heap_other (by omega)).trans hd3, fun _ => ?_, fun h => by rw [hv] at h; cases h⟩, (World.putObj_heap_other (by omega)).trans hg3⟩
        rw [hrec]
        exact World.putObj_heap_same hlt3
      | false =>
        have hr := run_endRound (P := Tryz.prog) (some .ret) hl3
        refine ⟨_, _, hr, by rw [hv]; rfl, ⟨hput _ _ _ _ hj3 hl3, (World.putObj_heap_other (by omega)).trans hd3, fun h => by rw [hv] at h; (cases h), fun _ => ⟨_, World.putObj_heap_same hlt3, rfl, rfl⟩⟩, (World.putObj_heap_other (by omega)).trans hg3⟩
    · rintro e W2 ⟨⟨v, rfl⟩, pre, ⟨hj, hd, hr1, hr2⟩, hpre, hall⟩
      cases hq : ok pre with
      | true =>
        have e := hall hq
        subst e
        have hlo := hr1 hq
        have hr := run_endLoop (P := Tryz.prog) hlo (by rw [hrec]; simp)
        rw [hrec] at hr
        exact ⟨none, _, hr, hdone _ (hput _ _ _ _ hj hlo) hq ((World.putObj_heap_other (by omega)).trans hd)⟩
      | false =>
        obtain ⟨rc, hlo, hst, hpd⟩ := hr2 hq
        have hr := run_endLoop (P := Tryz.prog) hlo (by rw [hst]; simp)
        rw [hpd] at hr
        exact ⟨some .ret, _, hr, wpIn_ret (hret pre _ (hput _ _ _ _ hj hlo) hq hpre ((World.putObj_heap_other (by omega)).trans hd))⟩
end Go.Proofs.YtcbepmjojppokaaGreatDoor
