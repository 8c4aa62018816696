/-
  The walk of units.Split.
-/
import Derived.Test.YtlmbbohhdgeedaaDoorIterW
import Derived.Maps.OwnIn
namespace Go.Proofs.YtlmbbohhdgeedaaDoor
open Go.RowKit Go.Shelf
attribute [local go_sem] Oper.semAt_some
theorem all_stops (n : Nat) (hn : 1 ≤ n) (Bn bF : Nat) (s : ByteArray) (hs : s.size ≤ 4194400) (w : World)
    (hBn : w.heap[Bn]? = some (.cells #[.string s] 9 (0, 0))) (hT : SeqAt w) (hF : bF < w.heap.size) (hBF : Bn ≠ bF) (hgF : 11 ≠ bF) (hIn : InR bF w) (hr1 : rowIn bF w ≠ some Bn) (hr2 : rowIn bF w ≠ some 11) :
    SeqStopsK Fence.wide n Tryd.prog 44 #[.pointer (some ⟨Bn, 0, none⟩)] (fun x : Int × Nat × Nat => #[unitVal x.1 x.2.1 x.2.2]) (KeepsBut bF) (fun ys => ys = unitsOf s.data.toList) (fun pre => pre <+: unitsOf s.data.toList) (unitsOf s.data.toList).length w := fun l J Jx W hW hJ _ hY h0 => by
  have hrow : rowIn bF W = rowIn bF w := rowIn_same (hW.block bF hF)
  exact all1_in n hn l Bn bF W.heap.size s hs J Jx hJ hY W ((hW.block Bn (Array.getElem?_eq_some_iff.1 hBn).1).trans hBn) (hT.later hW) (Nat.lt_of_lt_of_le hF hW.size) hBF hgF
    (fun g hg => Nat.lt_of_lt_of_le (hIn g (hrow ▸ hg)) hW.size) (by rw [hrow]; exact hr1) (by rw [hrow]; exact hr2) h0
theorem unitsF_len : ∀ (f k : Nat) (l : List UInt8), (unitsF f k l).length ≤ l.length := by
  intro f
  induction f with
  | zero => intro k l; simp [unitsF]
  | succ f ih =>
    intro k l
    cases l with
    | nil => simp [unitsF]
    | cons a l =>
      have h := ih (k + (uniOf (a :: l)).2) ((a :: l).drop (uniOf (a :: l)).2)
      have hs := uni_size a l
      rw [List.length_drop] at h
      rw [unitsF]
      simp only [List.length_cons] at h ⊢
      omega
theorem units_le (s : ByteArray) : (unitsOf s.data.toList).length ≤ s.size := by
  have := unitsF_len (s.data.toList.length - 0) 0 (s.data.toList.drop 0)
  rw [List.drop_zero, bsize] at this
  simpa [unitsOf, unitsAt] using this
theorem rowIn_boxed {bF : Nat} {W : World} {t : TypeId} {v : Value} (h : Boxed W bF t v) : rowIn bF W = v.ownBlock := by
  rw [rowIn, show W.heap[bF]? = _ from h]
  rfl
theorem KeepsBut.alloc {bF : Nat} {W : World} (hF : bF < W.heap.size) (o : Obj) : KeepsBut bF W (W.alloc o) := by
  have hrow : rowIn bF (W.alloc o) = rowIn bF W := rowIn_same (Below.heap_alloc W o bF hF)
  refine ⟨by simp, .inl hrow, fun h g hg => ?_, fun i c t z hi _ _ => ?_⟩
  · have := h g (hrow ▸ hg); simp; omega
  · rw [Below.heap_alloc W o i (Array.getElem?_eq_some_iff.1 hi).1]; exact hi
theorem KeepsBut.appended {bF : Nat} {W w1 : World} {t : TypeId} {v v' : Value} {o : Obj} (hv : Boxed W bF t v) (hv2 : Boxed (w1.setCell ⟨bF, 0, none⟩ v') bF t v') (hgrow : (W.alloc o).grownBy w1 v.ownBlock)
    (hat : v'.ownBlock = v.ownBlock ∨ v'.ownBlock = some (W.alloc o).heap.size) (hlt : ∀ g, v'.ownBlock = some g → g < w1.heap.size) : KeepsBut bF W (w1.setCell ⟨bF, 0, none⟩ v') := by
  have e1 := rowIn_boxed hv
  have e2 := rowIn_boxed hv2
  have hs := hgrow.size
  simp only [World.size_alloc] at hs
  refine ⟨by simp; omega, ?_, fun _ g hg => ?_, fun i c t' z hi hn hr => ?_⟩
  · rw [e1, e2]
    rcases hat with h | h
    · exact .inl h
    · refine .inr (fun g hg => ?_)
      rw [h] at hg
      simp at hg
      omega
  · rw [e2] at hg
    have := hlt g hg
    simpa using this
  · have hl := (Array.getElem?_eq_some_iff.1 hi).1
    rw [heap_setCell_other _ _ _ _ hn, hgrow.block i (by simp; omega) (by rw [← e1]; exact hr), Below.heap_alloc W o i hl]
    exact hi
set_option maxRecDepth 100000 in
set_option maxHeartbeats 2000000 in
theorem split_at (s : ByteArray) (hs : s.size ≤ 4194400) (w : World) (hT : SeqAt w) :
    Calls Tryd.prog 8 #[.string s] w fun e w' => ∃ v, e = .returned v ∧ OwnU w' w.heap.size v (unitsOf s.data.toList) ∧ v ≠ .slice none 0 0 ∧ Below w.heap.size w w' := by
  obtain ⟨i0, hi, hz0, hz1, hz2⟩ := info_parts infoUnit
  have HT := hid hT
  have hpos := hT.pos
  clear hT
  refine (callsIn_wide (n := 8)).1 ?_
  refine callsIn_of_wp_marks Tryd.func8 rfl trivial ?_ rfl
  simp only [Tryd.ntmps8, List.size_toArray, List.length_cons, List.length_nil, Nat.reduceAdd, Nat.reduceSub, Array.replicate_succ, Array.replicate_zero, List.push_toArray, List.append_toArray, List.nil_append, List.cons_append]
  gi_wp2_with (first
    | (refine ⟨trivial, ?_⟩; gi_at_call 23; refine (callsIn_wide.2 (runeCount_any s _ (by omega))).mono ?_; rintro e w1 ⟨c, hc, rfl, hb1⟩)
    | (gi_at_make; refine wpListIn_make_own _ rfl _ _ 25 rfl w.heap.size 28 i0 (.agg #[.int .i64 0, .int .i64 0, .int .i64 0]) 3 Tryd.underlying25 hi hz0 hz1 .i64 .i64 (c : Int) c rfl rfl rfl (by rw [hz2]; omega) (by unfold maxLen; omega) hb1.size ?_; intro w2 hown2 hgrow2)
    | (refine ⟨trivial, ?_⟩; gi_at_call 24; refine (all_in _ s _).mono ?_; rintro e w' ⟨rfl, rfl⟩)
    | fail)
  have hB2 : Below w.heap.size w w2 := hb1.grown hgrow2 hb1.size (fun k hk => by cases hk)
  have hs2 := hB2.size
  have hg2 : w1.heap.size < w2.heap.size := (World.ownsRow.lt hown2 _ rfl).2
  have bF := Boxed.new w2 25 (.slice (some ⟨w1.heap.size, 0, none⟩) 0 c)
  have bN := Boxed.new (w2.alloc (.cells #[.slice (some ⟨w1.heap.size, 0, none⟩) 0 c] 25)) 9 (.string s)
  rw [World.size_alloc] at bN
  have hB0 : Below w.heap.size w ((w2.alloc (.cells #[.slice (some ⟨w1.heap.size, 0, none⟩) 0 c] 25)).alloc (.cells #[.string s] 9)) := (hB2.alloc hs2 _).alloc (by simp; omega) _
  have bF0 := bF.alloc (.cells #[.string s] 9)
  have hrow0 := rowIn_boxed bF0
  have hpos2 : 11 < w2.heap.size := by omega
  have hw1 := hb1.size
  refine wpIn_rangeFunc_ownH rfl (by omega) (gf := 44) (lb := #[.pointer (some ⟨w2.heap.size + 1, 0, none⟩)]) rfl trivial (enters_of Tryd.func44 (by kernel_rfl) rfl)
    (all_stops 7 (by omega) (w2.heap.size + 1) w2.heap.size s hs _ bN (HT.out.later hB0) (by simp; omega) (by omega) (by omega)
      (fun g hg => by rw [hrow0] at hg; simp [Value.ownBlock] at hg; simp; omega) (by rw [hrow0]; simp [Value.ownBlock]; omega) (by rw [hrow0]; simp [Value.ownBlock]; omega))
    KeepsBut.trans (fun W l o o' hl ho hc _ => KeepsBut.putObj (n := w2.heap.size + 1) (by omega) W l o o' (by simp at hl; omega) ho hc) (Below.refl _ _) (fun _ => rfl)
    (fun pre W => (∃ v, Boxed W w2.heap.size 25 v ∧ W.ownsRow w.heap.size 28 3 v pre.length (cellsU pre) ∧ v ≠ .slice none 0 0) ∧ Below w.heap.size w W)
    (fun _ _ _ => False)
    (OwnFrom.and (Own.from (holdsRow_own w.heap.size w2.heap.size 25 28 3 (fun pre => pre.length) (fun pre => cellsU pre) (fun _ v => v ≠ .slice none 0 0)) _) (ownFrom_below (Nat.le_refl _) (by simp; omega)))
    (fun _ _ _ _ _ hs _ _ => hs)
    ⟨⟨_, bF0, (hown2.alloc _).alloc _, by simp⟩, hB0⟩
    (fun x a' W => ∃ Bx, W.heap[Bx]? = some (.cells #[.int .i64 x.1, .int .i64 (x.2.1 : Int), .int .i64 (x.2.2 : Int)] 28 (0, 0)) ∧ a' = { tmps := #[.string s, undef, .slice none 0 0, .pointer (some ⟨w2.heap.size, 0, none⟩), .pointer (some ⟨Bx, 0, none⟩), .string s, .int .i64 (c : Int), .slice (some ⟨w1.heap.size, 0, none⟩) 0 c, .string s, .func (.func 44) #[] #[.pointer (some ⟨w2.heap.size + 1, 0, none⟩)], .agg #[.int .i64 x.1, .int .i64 (x.2.1 : Int), .int .i64 (x.2.2 : Int)], undef, undef, undef, undef, undef], defers := [] })
    ?hAx ?assign ?body ?done ?stop
  case hAx =>
    rintro x a' _ X Y row ⟨Bx, hx, ha⟩ hg hr
    refine ⟨Bx, ?_, ha⟩
    rw [hg.block Bx (Array.getElem?_eq_some_iff.1 hx).1 (fun e => by obtain ⟨_, o, ho, hc⟩ := hr Bx e.symm; rw [hx] at ho; cases ho; simp [Obj.isCells] at hc)]
    exact hx
  case assign =>
    rintro l pre x W K ⟨⟨v, hv, hrow, hnn⟩, hB⟩ hK
    simp only [unitVal]
    gi_wp2
    exact hK _ _ ((KeepsOthers.alloc _ _).from _) (KeepsBut.alloc hv.lt _) ⟨⟨v, hv.alloc _, hrow.alloc _, hnn⟩, hB.alloc hB.size _⟩ ⟨W.heap.size, heap_alloc_new _ _, rfl⟩
  case body =>
    rintro l pre x a' W hl ⟨r, hr⟩ ⟨⟨v, hv, hrow, _⟩, hB⟩ ⟨Bx, hx, rfl⟩ hlt
    have hc := hv.cell
    obtain ⟨⟨x0, x1, x2⟩, _⟩ := row3 hx
    have hN := units_le s
    have hsz := hB.size
    gi_wp2_with (gi_at_builtin; refine wpListIn_append_own_at _ rfl _ _ 25 rfl w.heap.size 28 i0 (.agg #[.int .i64 0, .int .i64 0, .int .i64 0]) 3 24 Tryd.underlying25 hi hz0 hz1 hz2 rfl (by decide) _ _ _ rfl (hrow.alloc _) ⟨W.heap.size, 0, none⟩ 1 1 [.int .i64 x.1, .int .i64 (x.2.1 : Int), .int .i64 (x.2.2 : Int)] rfl rfl (cell3_new _ _ _ _ _) (by simp [Value.oneCell']) (by unfold maxLen; omega) (by omega) (by simp; omega) ?_; intro v' w3 hown' hgrow _ hat; obtain ⟨g', cap', rfl⟩ := ownsRow_succ hown'; obtain ⟨hv1, hv2, hr2, hk2, hb2⟩ := hv.appended (by decide) hrow hB.size (by omega) hown' hgrow; have hc1 := hv1.cell; have hf1 := hv1.frozen)
    have hlen1 : (pre ++ [x]).length = pre.length + 1 := by simp
    have hcu : cellsU (pre ++ [x]) = cellsU pre ++ [.int .i64 x.1, .int .i64 (x.2.1 : Int), .int .i64 (x.2.2 : Int)] := by rw [cellsU_append]; rfl
    exact ⟨hk2.from _, KeepsBut.appended hv hv2 hgrow hat (fun g e => (World.ownsRow.lt hown' g e).2), ⟨_, hv2, by rw [hlen1, hcu]; exact hr2, by simp⟩, hB.trans hb2⟩
  case done =>
    rintro D ys W hD rfl ⟨⟨v, hv, hrow, hnn⟩, hB⟩ hK
    have hc := hv.cell
    gi_wp2
    refine ⟨by simp, .inl ⟨_, _, rfl, run_takeDeferred hK, ?_⟩⟩
    exact ⟨_, results_tmp rfl _ _ _, v, rfl, ownsRow_putObj hrow _ hK rfl, hnn, hB.trans (belowK_b (w := w) (Nat.le_refl _) W D _ _ (by simp at hD; omega) hK rfl rfl)⟩
  case stop =>
    rintro D c pre W _ _ h _
    exact h.elim
theorem split_any (s : ByteArray) (hs : s.size ≤ 4194400) (w : World) (hT : SeqAt w) :
    Calls Tryd.prog 8 #[.string s] w fun e w' => ∃ v, e = .returned v ∧ OwnU w' w.heap.size v (unitsOf s.data.toList) ∧ Below w.heap.size w w' :=
  (split_at s hs w hT).mono fun _ _ ⟨v, h1, h2, _, h3⟩ => ⟨v, h1, h2, h3⟩
/-- The same, the answer's shape written out, of a text whose bytes are told. -/
theorem split_as (s : ByteArray) (l : List UInt8) (hl : s.data.toList = l) (hs : s.size ≤ 4194400) (w : World) (hT : SeqAt w) :
    Calls Tryd.prog 8 #[.string s] w fun e w' => ∃ g cap, e = .returned (.slice (some ⟨g, 0, none⟩) (unitsOf l).length cap) ∧ OwnU w' w.heap.size (.slice (some ⟨g, 0, none⟩) (unitsOf l).length cap) (unitsOf l) ∧ (unitsOf l).length ≤ cap ∧ g < w'.heap.size ∧ w.heap.size ≤ g ∧ Below w.heap.size w w' := by
  subst hl
  refine (split_at s hs w hT).mono ?_
  rintro e w' ⟨v, rfl, h2, h3, h4⟩
  rcases h2.2 with ⟨rfl, _⟩ | ⟨g, cap, cur, rfl, hg, hh, hcap, _⟩
  · exact absurd rfl h3
  · exact ⟨g, cap, rfl, h2, hcap, (Array.getElem?_eq_some_iff.1 hh).1, hg, h4⟩
end Go.Proofs.YtlmbbohhdgeedaaDoor
