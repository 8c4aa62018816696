/-
  USplitW, BwEW, BwVW, BwSW, BwPW, Lc9W, LcAW, LcBW, LcCW.
-/
import Derived.Test.YtpkfcadihgbleaaGreatDoorMpd
import Derived.Maps.OwnIn
import Derived.Test.YtpkfcadihgbleaaGreatDoorMpc
import Derived.Deep.RegionHeld3
namespace Go.Proofs.YtpkfcadihgbleaaGreatDoor
open Go.RowKit Go.Shelf
attribute [local go_sem] Oper.semAt_some
theorem all_stops (n : Nat) (hn : 1 ≤ n) (Bn bF : Nat) (s : ByteArray) (hs : s.size ≤ 4194400) (w : World)
    (hBn : w.heap[Bn]? = some (.cells #[.string s] 9 (0, 0))) (hT : SeqAt w) (hF : bF < w.heap.size) (hBF : Bn ≠ bF) (hgF : 15 ≠ bF) (hIn : InR bF w) (hr1 : rowIn bF w ≠ some Bn) (hr2 : rowIn bF w ≠ some 15) :
    SeqStopsK Fence.wide n Tryz.prog 93 #[.pointer (some ⟨Bn, 0, none⟩)] (fun x : Int × Nat × Nat => #[unitVal x.1 x.2.1 x.2.2]) (KeepsBut bF) (fun ys => ys = unitsOf s.data.toList) (fun pre => pre <+: unitsOf s.data.toList) (unitsOf s.data.toList).length w := fun l J Jx W hW hJ _ hY h0 => by
  have hrow : rowIn bF W = rowIn bF w := rowIn_same (hW.block bF hF)
  exact all1_in n hn l Bn bF W.heap.size s hs J Jx hJ hY W ((hW.block Bn (Array.getElem?_eq_some_iff.1 hBn).1).trans hBn) (hT.later hW) (Nat.lt_of_lt_of_le hF hW.size) hBF hgF
    (fun g hg => Nat.lt_of_lt_of_le (hIn g (hrow ▸ hg)) hW.size) (by rw [hrow]; exact hr1) (by rw [hrow]; exact hr2) h0
theorem unitsF_len : ∀ (f k : Nat) (l : List UInt8), (unitsF f k l).length ≤ l.length := by
  intro f
  induction f with
  | zero => intro k l; simp [unitsF]
  | succ f ih =>
    intro k l
    cases l with
    | nil => simp [unitsF]
    | cons a l =>
      have h := ih (k + (uniOf (a :: l)).2) ((a :: l).drop (uniOf (a :: l)).2)
      have hs := uni_size a l
      rw [List.length_drop] at h
      rw [unitsF]
      simp only [List.length_cons] at h ⊢
      omega
theorem units_le (s : ByteArray) : (unitsOf s.data.toList).length ≤ s.size := by
  have := unitsF_len (s.data.toList.length - 0) 0 (s.data.toList.drop 0)
  rw [List.drop_zero, bsize] at this
  simpa [unitsOf, unitsAt] using this
theorem rowIn_boxed {bF : Nat} {W : World} {t : TypeId} {v : Value} (h : Boxed W bF t v) : rowIn bF W = v.ownBlock := by
  rw [rowIn, show W.heap[bF]? = _ from h]
  rfl
theorem KeepsBut.alloc {bF : Nat} {W : World} (hF : bF < W.heap.size) (o : Obj) : KeepsBut bF W (W.alloc o) := by
  have hrow : rowIn bF (W.alloc o) = rowIn bF W := rowIn_same (Below.heap_alloc W o bF hF)
  refine ⟨by simp, .inl hrow, fun h g hg => ?_, fun i c t z hi _ _ => ?_⟩
  · have := h g (hrow ▸ hg); simp; omega
  · rw [Below.heap_alloc W o i (Array.getElem?_eq_some_iff.1 hi).1]; exact hi
theorem KeepsBut.appended {bF : Nat} {W w1 : World} {t : TypeId} {v v' : Value} {o : Obj} (hv : Boxed W bF t v) (hv2 : Boxed (w1.setCell ⟨bF, 0, none⟩ v') bF t v') (hgrow : (W.alloc o).grownBy w1 v.ownBlock)
    (hat : v'.ownBlock = v.ownBlock ∨ v'.ownBlock = some (W.alloc o).heap.size) (hlt : ∀ g, v'.ownBlock = some g → g < w1.heap.size) : KeepsBut bF W (w1.setCell ⟨bF, 0, none⟩ v') := by
  have e1 := rowIn_boxed hv
  have e2 := rowIn_boxed hv2
  have hs := hgrow.size
  simp only [World.size_alloc] at hs
  refine ⟨by simp; omega, ?_, fun _ g hg => ?_, fun i c t' z hi hn hr => ?_⟩
  · rw [e1, e2]
    rcases hat with h | h
    · exact .inl h
    · refine .inr (fun g hg => ?_)
      rw [h] at hg
      simp at hg
      omega
  · rw [e2] at hg
    have := hlt g hg
    simpa using this
  · have hl := (Array.getElem?_eq_some_iff.1 hi).1
    rw [heap_setCell_other _ _ _ _ hn, hgrow.block i (by simp; omega) (by rw [← e1]; exact hr), Below.heap_alloc W o i hl]
    exact hi
set_option maxRecDepth 100000 in
set_option maxHeartbeats 2000000 in
theorem usplit_at (s : ByteArray) (hs : s.size ≤ 4194400) (w : World) (hT : SeqAt w) :
    Calls Tryz.prog 36 #[.string s] w fun e w' => ∃ v, e = .returned v ∧ OwnU w' w.heap.size v (unitsOf s.data.toList) ∧ v ≠ .slice none 0 0 ∧ Below w.heap.size w w' := by
  obtain ⟨i0, hi, hz0, hz1, hz2⟩ := info_parts infoUnit
  have HT := hid hT
  have hpos := hT.pos
  clear hT
  refine (callsIn_wide (n := 8)).1 ?_
  refine callsIn_of_wp_marks Tryz.func36 rfl trivial ?_ rfl
  simp only [Tryz.ntmps36, List.size_toArray, List.length_cons, List.length_nil, Nat.reduceAdd, Nat.reduceSub, Array.replicate_succ, Array.replicate_zero, List.push_toArray, List.append_toArray, List.nil_append, List.cons_append]
  gi_wp2_with (first
    | (refine ⟨trivial, ?_⟩; gi_at_call 58; refine (callsIn_wide.2 (runeCount_any s _ (by omega))).mono ?_; rintro e w1 ⟨c, hc, rfl, hb1⟩)
    | (gi_at_make; refine wpListIn_make_own _ rfl _ _ 74 rfl w.heap.size 77 i0 (.agg #[.int .i64 0, .int .i64 0, .int .i64 0]) 3 Tryz.underlying74 hi hz0 hz1 .i64 .i64 (c : Int) c rfl rfl rfl (by rw [hz2]; omega) (by unfold maxLen; omega) hb1.size ?_; intro w2 hown2 hgrow2)
    | (refine ⟨trivial, ?_⟩; gi_at_call 59; refine (all_in _ s _).mono ?_; rintro e w' ⟨rfl, rfl⟩)
    | fail)
  have hB2 : Below w.heap.size w w2 := hb1.grown hgrow2 hb1.size (fun k hk => by cases hk)
  have hs2 := hB2.size
  have hg2 : w1.heap.size < w2.heap.size := (World.ownsRow.lt hown2 _ rfl).2
  have bF := Boxed.new w2 74 (.slice (some ⟨w1.heap.size, 0, none⟩) 0 c)
  have bN := Boxed.new (w2.alloc (.cells #[.slice (some ⟨w1.heap.size, 0, none⟩) 0 c] 74)) 9 (.string s)
  rw [World.size_alloc] at bN
  have hB0 : Below w.heap.size w ((w2.alloc (.cells #[.slice (some ⟨w1.heap.size, 0, none⟩) 0 c] 74)).alloc (.cells #[.string s] 9)) := (hB2.alloc hs2 _).alloc (by simp; omega) _
  have bF0 := bF.alloc (.cells #[.string s] 9)
  have hrow0 := rowIn_boxed bF0
  have hpos2 : 15 < w2.heap.size := by omega
  have hw1 := hb1.size
  refine wpIn_rangeFunc_ownH rfl (by omega) (gf := 93) (lb := #[.pointer (some ⟨w2.heap.size + 1, 0, none⟩)]) rfl trivial (enters_of Tryz.func93 (by kernel_rfl) rfl)
    (all_stops 7 (by omega) (w2.heap.size + 1) w2.heap.size s hs _ bN (HT.out.later hB0) (by simp; omega) (by omega) (by omega)
      (fun g hg => by rw [hrow0] at hg; simp [Value.ownBlock] at hg; simp; omega) (by rw [hrow0]; simp [Value.ownBlock]; omega) (by rw [hrow0]; simp [Value.ownBlock]; omega))
    KeepsBut.trans (fun W l o o' hl ho hc _ => KeepsBut.putObj (n := w2.heap.size + 1) (by omega) W l o o' (by simp at hl; omega) ho hc) (Below.refl _ _) (fun _ => rfl)
    (fun pre W => (∃ v, Boxed W w2.heap.size 74 v ∧ W.ownsRow w.heap.size 77 3 v pre.length (cellsU pre) ∧ v ≠ .slice none 0 0) ∧ Below w.heap.size w W)
    (fun _ _ _ => False)
    (OwnFrom.and (Own.from (holdsRow_own w.heap.size w2.heap.size 74 77 3 (fun pre => pre.length) (fun pre => cellsU pre) (fun _ v => v ≠ .slice none 0 0)) _) (ownFrom_below (Nat.le_refl _) (by simp; omega)))
    (fun _ _ _ _ _ hs _ _ => hs)
    ⟨⟨_, bF0, (hown2.alloc _).alloc _, by simp⟩, hB0⟩
    (fun x a' W => ∃ Bx, W.heap[Bx]? = some (.cells #[.int .i64 x.1, .int .i64 (x.2.1 : Int), .int .i64 (x.2.2 : Int)] 77 (0, 0)) ∧ a' = { tmps := #[.string s, undef, .slice none 0 0, .pointer (some ⟨w2.heap.size, 0, none⟩), .pointer (some ⟨Bx, 0, none⟩), .string s, .int .i64 (c : Int), .slice (some ⟨w1.heap.size, 0, none⟩) 0 c, .string s, .func (.func 93) #[] #[.pointer (some ⟨w2.heap.size + 1, 0, none⟩)], .agg #[.int .i64 x.1, .int .i64 (x.2.1 : Int), .int .i64 (x.2.2 : Int)], undef, undef, undef, undef, undef], defers := [] })
    ?hAx ?assign ?body ?done ?stop
  case hAx =>
    rintro x a' _ X Y row ⟨Bx, hx, ha⟩ hg hr
    refine ⟨Bx, ?_, ha⟩
    rw [hg.block Bx (Array.getElem?_eq_some_iff.1 hx).1 (fun e => by obtain ⟨_, o, ho, hc⟩ := hr Bx e.symm; rw [hx] at ho; cases ho; simp [Obj.isCells] at hc)]
    exact hx
  case assign =>
    rintro l pre x W K ⟨⟨v, hv, hrow, hnn⟩, hB⟩ hK
    simp only [unitVal]
    gi_wp2
    exact hK _ _ ((KeepsOthers.alloc _ _).from _) (KeepsBut.alloc hv.lt _) ⟨⟨v, hv.alloc _, hrow.alloc _, hnn⟩, hB.alloc hB.size _⟩ ⟨W.heap.size, heap_alloc_new _ _, rfl⟩
  case body =>
    rintro l pre x a' W hl ⟨r, hr⟩ ⟨⟨v, hv, hrow, _⟩, hB⟩ ⟨Bx, hx, rfl⟩ hlt
    have hc := hv.cell
    obtain ⟨⟨x0, x1, x2⟩, _⟩ := row3 hx
    have hN := units_le s
    have hsz := hB.size
    gi_wp2_with (gi_at_builtin; refine wpListIn_append_own_at _ rfl _ _ 74 rfl w.heap.size 77 i0 (.agg #[.int .i64 0, .int .i64 0, .int .i64 0]) 3 24 Tryz.underlying74 hi hz0 hz1 hz2 rfl (by decide) _ _ _ rfl (hrow.alloc _) ⟨W.heap.size, 0, none⟩ 1 1 [.int .i64 x.1, .int .i64 (x.2.1 : Int), .int .i64 (x.2.2 : Int)] rfl rfl (cell3_new _ _ _ _ _) (by simp [Value.oneCell']) (by unfold maxLen; omega) (by omega) (by simp; omega) ?_; intro v' w3 hown' hgrow _ hat; obtain ⟨g', cap', rfl⟩ := ownsRow_succ hown'; obtain ⟨hv1, hv2, hr2, hk2, hb2⟩ := hv.appended (by decide) hrow hB.size (by omega) hown' hgrow; have hc1 := hv1.cell; have hf1 := hv1.frozen)
    have hlen1 : (pre ++ [x]).length = pre.length + 1 := by simp
    have hcu : cellsU (pre ++ [x]) = cellsU pre ++ [.int .i64 x.1, .int .i64 (x.2.1 : Int), .int .i64 (x.2.2 : Int)] := by rw [cellsU_append]; rfl
    exact ⟨hk2.from _, KeepsBut.appended hv hv2 hgrow hat (fun g e => (World.ownsRow.lt hown' g e).2), ⟨_, hv2, by rw [hlen1, hcu]; exact hr2, by simp⟩, hB.trans hb2⟩
  case done =>
    rintro D ys W hD rfl ⟨⟨v, hv, hrow, hnn⟩, hB⟩ hK
    have hc := hv.cell
    gi_wp2
    refine ⟨by simp, .inl ⟨_, _, rfl, run_takeDeferred hK, ?_⟩⟩
    exact ⟨_, results_tmp rfl _ _ _, v, rfl, ownsRow_putObj hrow _ hK rfl, hnn, hB.trans (belowK_b (w := w) (Nat.le_refl _) W D _ _ (by simp at hD; omega) hK rfl rfl)⟩
  case stop =>
    rintro D c pre W _ _ h _
    exact h.elim
theorem usplit_any (s : ByteArray) (hs : s.size ≤ 4194400) (w : World) (hT : SeqAt w) :
    Calls Tryz.prog 36 #[.string s] w fun e w' => ∃ v, e = .returned v ∧ OwnU w' w.heap.size v (unitsOf s.data.toList) ∧ Below w.heap.size w w' :=
  (usplit_at s hs w hT).mono fun _ _ ⟨v, h1, h2, _, h3⟩ => ⟨v, h1, h2, h3⟩
/-- The same, the answer's shape written out, of a text whose bytes are told. -/
theorem usplit_as (s : ByteArray) (l : List UInt8) (hl : s.data.toList = l) (hs : s.size ≤ 4194400) (w : World) (hT : SeqAt w) :
    Calls Tryz.prog 36 #[.string s] w fun e w' => ∃ g cap, e = .returned (.slice (some ⟨g, 0, none⟩) (unitsOf l).length cap) ∧ OwnU w' w.heap.size (.slice (some ⟨g, 0, none⟩) (unitsOf l).length cap) (unitsOf l) ∧ (unitsOf l).length ≤ cap ∧ g < w'.heap.size ∧ w.heap.size ≤ g ∧ Below w.heap.size w w' := by
  subst hl
  refine (usplit_at s hs w hT).mono ?_
  rintro e w' ⟨v, rfl, h2, h3, h4⟩
  rcases h2.2 with ⟨rfl, _⟩ | ⟨g, cap, cur, rfl, hg, hh, hcap, _⟩
  · exact absurd rfl h3
  · exact ⟨g, cap, rfl, h2, hcap, (Array.getElem?_eq_some_iff.1 hh).1, hg, h4⟩
end Go.Proofs.YtpkfcadihgbleaaGreatDoor
namespace Go.Proofs.YtpkfcadihgbleaaGreatDoor
open Go.RowKit Go.Shelf Go.Lib
theorem ext169 : Builder.Extra Tryz.prog Tryz.lays169_ren where
  sizeBuilder := by kernel_rfl
  liesBuilder := by kernel_rfl
  t5 := Tryz.underlying5
  a5 := Tryz.isAgg5
  z5 := Tryz.sizeOf5
  v5 := Tryz.zeroValue5
  infoByte := by kernel_rfl
  cellsByte := by kernel_rfl
  sizeByte := by kernel_rfl
  neB5 := by decide
theorem bl_later {B b : Nat} {bs : List Value} {w w' : World} (h : Bl B b bs w) (hb : Below w.heap.size w w') : Bl B b bs w' := by
  have bld : ∀ p, Lib.BuilderAt 60 5 B b p bs w → Lib.BuilderAt 60 5 B b p bs w' := fun p ⟨h1, v, h2, h3, h4⟩ => ⟨h1, v, (hb.block b (Array.getElem?_eq_some_iff.1 h2).1).trans h2, World.ownsRow.kept h3 (row := none) ⟨hb.os, hb.tape, hb.output, hb.size, fun k hk _ => hb.block k hk⟩ (by cases hv : v.ownBlock <;> simp), h4⟩
  exact h.elim (fun x => .inl (bld _ x)) (fun x => .inr (bld _ x))
theorem bytes_app (a b : List UInt8) : Lib.byteCells (a ++ b) = Lib.byteCells a ++ Lib.byteCells b := by simp [Lib.byteCells]
theorem strCells_strOf (l : List UInt8) : Lib.strCells (strOf l) = Lib.byteCells l := by simp [Lib.strCells, Lib.byteCells, strOf_data]
theorem strCells_app (a b : ByteArray) : Lib.strCells (a ++ b) = Lib.strCells a ++ Lib.strCells b := by simp [Lib.strCells]
set_option maxRecDepth 10000 in
theorem ctl_any (p : Int) (w : World) : Calls Tryz.prog 71 #[.int .i64 p] w fun e w' => e = .returned (.bool (decide (p < 32) || (p == 127))) ∧ w' = w := by
  by_cases h : p < 32
  · have hd : decide (p < 32) = true := decide_eq_true h
    go_enter Tryz.func71, Tryz.ntmps71
    go_wp2
    go_ret
    exact ⟨by simp [h], rfl⟩
  · have hd : decide (p < 32) = false := decide_eq_false h
    go_enter Tryz.func71, Tryz.ntmps71
    go_wp2
    go_ret
    exact ⟨by simp, rfl⟩
/-- What is written of the first k units. -/
def wrT (l : List UInt8) (k : Nat) : List UInt8 := ((unitsOf l).take k).flatMap (wrU l)
theorem wrT_more (l : List UInt8) (k : Nat) (h : k < (unitsOf l).length) : wrT l (k + 1) = wrT l k ++ wrU l (unitsOf l)[k] := by
  unfold wrT
  rw [List.take_succ_eq_append_getElem h, List.flatMap_append]
  simp only [List.flatMap_cons, List.flatMap_nil, List.append_nil]
theorem wrT_len (l : List UInt8) (k : Nat) : (wrT l k).length ≤ k * 6 := by
  have h1 := flat_len (wrU l) 6 ((unitsOf l).take k) (fun u hu => wrU_len l u (units_in l u (List.mem_of_mem_take hu)).2.1)
  have h2 : ((unitsOf l).take k).length ≤ k := by rw [List.length_take]; omega
  unfold wrT
  have := Nat.mul_le_mul_right 6 h2
  omega
theorem own_heap {w : World} {lo t s g n m cap : Nat} {xs : List Value} (h : w.ownsRow lo t s (.slice (some ⟨g, 0, none⟩) m cap) n xs) : ∃ c, w.heap[g]? = some (.cells c t (0, 0)) := by
  rcases h.2 with ⟨hv, _⟩ | ⟨g', cap', cur, hv, _, hr, _⟩
  · cases hv
  · injection hv with e1 _ _
    cases e1
    exact ⟨_, hr⟩
theorem cellsW_at (us : List (Int × Nat × Nat)) : ∀ (k : Nat) (h : k < us.length), (cellsU us)[k * 3]? = some (.int .i64 us[k].1) ∧ (cellsU us)[k * 3 + 1]? = some (.int .i64 (us[k].2.1 : Int)) ∧ (cellsU us)[k * 3 + 2]? = some (.int .i64 (us[k].2.2 : Int)) := by
  induction us with
  | nil => intro k h; simp at h
  | cons u l ih =>
    intro k h
    have e : cellsU (u :: l) = .int .i64 u.1 :: .int .i64 (u.2.1 : Int) :: .int .i64 (u.2.2 : Int) :: cellsU l := rfl
    cases k with
    | zero => rw [e]; simp
    | succ k =>
      have := ih k (by simpa using h)
      rw [e, show (k + 1) * 3 = k * 3 + 1 + 1 + 1 by omega, show k * 3 + 1 + 1 + 1 + 1 = (k * 3 + 1) + 1 + 1 + 1 by omega, show k * 3 + 1 + 1 + 1 + 2 = (k * 3 + 2) + 1 + 1 + 1 by omega]
      simpa using this
/-- The units in memory, whatever writes of bytes come. -/
def UW (W : World) (g : Nat) (us : List (Int × Nat × Nat)) : Prop := (∃ c, W.heap[g]? = some (.cells c 77 (0, 0))) ∧ ∀ k (h : k < us.length), W.cell? ⟨g, k * 3, none⟩ = some (.int .i64 us[k].1) ∧ W.cell? ⟨g, k * 3 + 1, none⟩ = some (.int .i64 (us[k].2.1 : Int)) ∧ W.cell? ⟨g, k * 3 + 2, none⟩ = some (.int .i64 (us[k].2.2 : Int))
theorem uw_of {w : World} {lo g cap : Nat} {us : List (Int × Nat × Nat)} (h : OwnU w lo (.slice (some ⟨g, 0, none⟩) us.length cap) us) : UW w g us := by
  refine ⟨own_heap h, fun k hk => ?_⟩
  have hl := cellsU_length us
  obtain ⟨a, b, c⟩ := cellsW_at us k hk
  exact ⟨by rw [World.ownsRow.cellAt h _ (by omega)]; exact a, by rw [World.ownsRow.cellAt h _ (by omega)]; exact b, by rw [World.ownsRow.cellAt h _ (by omega)]; exact c⟩
theorem UW.same {w w' : World} {g : Nat} {us : List (Int × Nat × Nat)} (h : UW w g us) (e : w'.heap[g]? = w.heap[g]?) : UW w' g us :=
  ⟨by obtain ⟨c, hc⟩ := h.1; exact ⟨c, e.trans hc⟩, fun k hk => ⟨(World.cell?_of_block (a := ⟨g, k * 3, none⟩) e).trans (h.2 k hk).1, (World.cell?_of_block (a := ⟨g, k * 3 + 1, none⟩) e).trans (h.2 k hk).2.1, (World.cell?_of_block (a := ⟨g, k * 3 + 2, none⟩) e).trans (h.2 k hk).2.2⟩⟩
theorem UW.later {w w' : World} {g : Nat} {us : List (Int × Nat × Nat)} (h : UW w g us) (hb : Below w.heap.size w w') : UW w' g us := by
  obtain ⟨c, hc⟩ := h.1
  exact h.same (hb.block g (Array.getElem?_eq_some_iff.1 hc).1)
theorem UW.kb {w w' : World} {g b : Nat} {us : List (Int × Nat × Nat)} (h : UW w g us) (hk : Kb b w w') (hn : ¬ g = b) : UW w' g us := by
  obtain ⟨c, hc⟩ := h.1
  exact h.same ((hk g c _ _ hc (by decide) hn).trans hc.symm)
theorem wrU_1 {l : List UInt8} {u : Int × Nat × Nat} (h : u.1 = 92) : wrU l u = [92, 92] := by unfold wrU; rw [if_pos h]
theorem wrU_2 {l : List UInt8} {u : Int × Nat × Nat} (h : u.1 = 35) : wrU l u = [92, 35] := by unfold wrU; rw [if_neg (by omega), if_pos h]
theorem wrU_3 {l : List UInt8} {u : Int × Nat × Nat} (h : u.1 = 32) (ha : u.2.1 = 0 ∨ u.2.2 = l.length) : wrU l u = [92, 115] := by unfold wrU; rw [if_neg (by omega), if_neg (by omega), if_pos ⟨h, ha⟩]
theorem wrU_4 {l : List UInt8} {u : Int × Nat × Nat} (h : u.1 < 32 ∨ u.1 = 127) : wrU l u = [92, 117, 123] ++ hexL u.1.toNat ++ [125] := by unfold wrU; rw [if_neg (by omega), if_neg (by omega), if_neg (by omega), if_pos h]
theorem wrU_5 {l : List UInt8} {u : Int × Nat × Nat} (h1 : ¬ u.1 = 92) (h2 : ¬ u.1 = 35) (h3 : ¬ (u.1 = 32 ∧ (u.2.1 = 0 ∨ u.2.2 = l.length))) (h4 : ¬ (u.1 < 32 ∨ u.1 = 127)) : wrU l u = (l.drop u.2.1).take (u.2.2 - u.2.1) := by unfold wrU; rw [if_neg h1, if_neg h2, if_neg h3, if_neg h4]
theorem ext_mid (s : ByteArray) (a b : Nat) : (s.extract a b).data.toList = (s.data.toList.drop a).take (b - a) := by
  simp [ByteArray.data_extract, List.extract_eq_take_drop]
set_option maxRecDepth 10000 in
set_option maxHeartbeats 6400000 in
theorem writtenEntry_any (s : ByteArray) (hs : s.size ≤ 4194400) (he : entF s.data.toList = none) (w : World) (hQ : SeqAt w) (hT : DT w) :
    Calls Tryz.prog 49 #[.string s] w fun e w' => e = .returned (.string (strOf (wrE s.data.toList))) ∧ Below w.heap.size w w' := by
  obtain ⟨h32, hpt⟩ := ent_ok he
  obtain ⟨wA, hwA⟩ : ∃ wA, wA = w.alloc (.cells #[.pointer none, .slice none 0 0] 60) := ⟨_, rfl⟩
  have hBA : Below w.heap.size w wA := by rw [hwA]; exact (Below.refl _ _).alloc (Nat.le_refl _) _
  have hsA : wA.heap.size = w.heap.size + 1 := by rw [hwA]; simp
  have hFB : Bl w.heap.size w.heap.size (Lib.byteCells (wrT s.data.toList 0)) wA := by
    rw [hwA]
    have h := Lib.fresh_isBuilder 60 5 w
    simpa [wrT, Lib.byteCells] using h
  have HSp := hid0 (usplit_as s s.data.toList rfl hs wA (hQ.later hBA))
  have HDT : Hid (∀ W, Below w.heap.size w W → DT W) := hid0 (fun W hW => dt_later hT hW)
  have HFB := hid0 hFB
  have HBA := hid0 hBA
  have HPt := hid0 hpt
  have HSz : Hid (s.data.toList.length = s.size) := hid0 (bsize s)
  obtain ⟨n, hn⟩ : ∃ n, n = (unitsOf s.data.toList).length := ⟨_, rfl⟩
  rw [← hn] at HSp h32
  have Hn := hid0 hn
  have hfold := hwA.symm
  clear hwA hBA hFB hQ hT he hpt hn
  obtain ⟨Y, hY⟩ : ∃ Y, Y = strOf (wrE s.data.toList) := ⟨_, rfl⟩
  rw [← hY]
  have HY := hid0 hY
  clear hY
  go_enter Tryz.func49, Tryz.ntmps49
  go_wp2_with (go_at_call 36; go_loud ((refine HSp.out.mono ?_; rintro e w1 ⟨g, cap, rfl, ho, hcap, hg1, hg2, hb1⟩; have HU1 : Hid (UW w1 g (unitsOf s.data.toList)) := hid0 (uw_of (by rw [← Hn.out]; exact ho)); have HB1 := hid0 (Below.later HBA.out hb1); have HBl1 := hid0 (bl_later HFB.out hb1); clear ho hb1 hcap hg1)))
  have hgb : ¬ g = w.heap.size := by omega
  clear HFB HBA HSp hg2 hsA hfold
  go_loopw [11] (fun i wr => ∃ k : Nat, k ≤ n ∧ i = .int .i64 (k : Int) ∧ Hid (Bl w.heap.size w.heap.size (Lib.byteCells (wrT s.data.toList k)) wr) ∧ Hid (UW wr g (unitsOf s.data.toList)) ∧ Hid (Below w.heap.size w wr)) (fun i _ => n - (intOf i).toNat)
  case atStart => exact ⟨0, Nat.zero_le _, rfl, HBl1, HU1, HB1⟩
  case round =>
    clear HBl1 HU1 HB1
    obtain ⟨k, hk, rfl, HBl, HU, HBr⟩ := hrel
    by_cases hlt : k < n
    · have hkI : (k : Int) < (n : Int) := by omega
      have hkI0 : (0 : Int) ≤ (k : Int) := by omega
      have hkU : k < (unitsOf s.data.toList).length := by rw [← Hn.out]; exact hlt
      obtain ⟨c0, c1, c2⟩ := HU.out.2 k hkU
      have HW := wrT_more s.data.toList k hkU
      obtain ⟨i1, i2, i3⟩ := units_in s.data.toList _ (List.getElem_mem hkU)
      have hp0 := HPt.out _ (List.getElem_mem hkU)
      have hTl := wrT_len s.data.toList k
      rw [HSz.out] at i3
      have HWN : Hid (∀ X, wrU s.data.toList (unitsOf s.data.toList)[k] = X → Lib.byteCells (wrT s.data.toList k) ++ Lib.byteCells X = Lib.byteCells (wrT s.data.toList (k + 1))) := hid0 (fun X hX => by rw [HW, bytes_app, hX])
      have HLn : Hid ((Lib.byteCells (wrT s.data.toList k)).length ≤ 192) := hid0 (by rw [Lib.byteCells_length]; omega)
      have hbw : w.heap.size ≤ wr.heap.size := HBr.out.size
      generalize (unitsOf s.data.toList)[k] = u at *
      obtain ⟨p, a, b⟩ := u
      simp only at c0 c1 c2 i1 i2 i3 hp0
      obtain ⟨wB, hwB⟩ : ∃ wB, wB = wr.alloc (.cells #[.int .i64 p, .int .i64 (a : Int), .int .i64 (b : Int)] 77) := ⟨_, rfl⟩
      have hbB : Below wr.heap.size wr wB := by rw [hwB]; exact (Below.refl _ _).alloc (Nat.le_refl _) _
      have hrB : wB.heap[wr.heap.size]? = some (.cells #[.int .i64 p, .int .i64 (a : Int), .int .i64 (b : Int)] 77 (0, 0)) := by rw [hwB]; exact heap_alloc_new wr _
      have d0 : wB.cell? ⟨wr.heap.size, 0, none⟩ = some (.int .i64 p) := by rw [cell_of_row _ _ _ _ _ _ hrB]; rfl
      have d1 : wB.cell? ⟨wr.heap.size, 1, none⟩ = some (.int .i64 (a : Int)) := by rw [cell_of_row _ _ _ _ _ _ hrB]; rfl
      have d2 : wB.cell? ⟨wr.heap.size, 2, none⟩ = some (.int .i64 (b : Int)) := by rw [cell_of_row _ _ _ _ _ _ hrB]; rfl
      have hbs : w.heap.size ≤ wB.heap.size := by have := hbB.size; omega
      have HBlB := hid0 (bl_later HBl.out hbB)
      have HUB := hid0 (HU.out.later hbB)
      have HBB : Hid (Below w.heap.size w wB) := hid0 (HBr.out.trans (hbB.mono hbw))
      have hfB := hwB.symm
      clear hwB hbB hrB HBl HU HBr HW hTl hkU
      generalize Lib.byteCells (wrT s.data.toList k) = bs at *
      by_cases ha0 : a = 0
      · by_cases hp : p = 92
        · have hx1 : ((a : Int) == 0) = true := by simp [ha0]
          have hq1 : (p == 92) = true := by simp [hp]
          have HX : Hid (bs ++ Lib.strCells ⟨#[92, 92]⟩ = Lib.byteCells (wrT s.data.toList (k + 1))) := hid0 (HWN.out [92, 92] (wrU_1 hp))
          clear HWN HDT HPt hp ha0
          go_wp2_with (go_at_call 27; refine (writeString_any _ _ bs ⟨#[92, 92]⟩ wB HBlB.out (by have h1 := HLn.out; show _ + 2 ≤ _; omega) hbs).mono ?_; rintro e w6 ⟨rfl, h1, h2, h3⟩; have HU6 := hid0 (HUB.out.kb h3 hgb); have HB6 := hid0 (HBB.out.trans h2); have HBl6 : Hid (Bl w.heap.size w.heap.size (Lib.byteCells (wrT s.data.toList (k + 1))) w6) := hid0 (.inr (by rw [← HX.out]; exact h1)); clear h1 h2 h3)
          go_roundw
          case rel => exact ⟨k + 1, by omega, by go_num, HBl6, HU6, HB6⟩
          case measure => simp [intOf]; omega
        · by_cases hp2 : p = 35
          · have hp := hp2
            have hx1 : ((a : Int) == 0) = true := by simp [ha0]
            have hq1 : (p == 92) = false := by simp; omega
            have hq2 : (p == 35) = true := by simp [hp]
            have HX : Hid (bs ++ Lib.strCells ⟨#[92, 35]⟩ = Lib.byteCells (wrT s.data.toList (k + 1))) := hid0 (HWN.out [92, 35] (wrU_2 hp))
            clear HWN HDT HPt hp hp2 ha0
            go_wp2_with (go_at_call 27; refine (writeString_any _ _ bs ⟨#[92, 35]⟩ wB HBlB.out (by have h1 := HLn.out; show _ + 2 ≤ _; omega) hbs).mono ?_; rintro e w6 ⟨rfl, h1, h2, h3⟩; have HU6 := hid0 (HUB.out.kb h3 hgb); have HB6 := hid0 (HBB.out.trans h2); have HBl6 : Hid (Bl w.heap.size w.heap.size (Lib.byteCells (wrT s.data.toList (k + 1))) w6) := hid0 (.inr (by rw [← HX.out]; exact h1)); clear h1 h2 h3)
            go_roundw
            case rel => exact ⟨k + 1, by omega, by go_num, HBl6, HU6, HB6⟩
            case measure => simp [intOf]; omega
          · by_cases hp3 : p = 32
            · have hp := hp3
              have hx1 : ((a : Int) == 0) = true := by simp [ha0]
              have hq1 : (p == 92) = false := by simp; omega
              have hq2 : (p == 35) = false := by simp; omega
              have hq3 : (p == 32) = true := by simp [hp]
              have HX : Hid (bs ++ Lib.strCells ⟨#[92, 115]⟩ = Lib.byteCells (wrT s.data.toList (k + 1))) := hid0 (HWN.out [92, 115] (wrU_3 hp (.inl ha0)))
              clear HWN HDT HPt hp hp3 ha0
              go_wp2_with (go_at_call 27; refine (writeString_any _ _ bs ⟨#[92, 115]⟩ wB HBlB.out (by have h1 := HLn.out; show _ + 2 ≤ _; omega) hbs).mono ?_; rintro e w6 ⟨rfl, h1, h2, h3⟩; have HU6 := hid0 (HUB.out.kb h3 hgb); have HB6 := hid0 (HBB.out.trans h2); have HBl6 : Hid (Bl w.heap.size w.heap.size (Lib.byteCells (wrT s.data.toList (k + 1))) w6) := hid0 (.inr (by rw [← HX.out]; exact h1)); clear h1 h2 h3)
              go_roundw
              case rel => exact ⟨k + 1, by omega, by go_num, HBl6, HU6, HB6⟩
              case measure => simp [intOf]; omega
            · by_cases hp4 : p < 32 ∨ p = 127
              · have hp := hp4
                have hx1 : ((a : Int) == 0) = true := by simp [ha0]
                have hq1 : (p == 92) = false := by simp; omega
                have hq2 : (p == 35) = false := by simp; omega
                have hq3 : (p == 32) = false := by simp; omega
                have hm : ((p.toNat : Nat) : Int) = p := by omega
                have hctl : (decide (p < 32) || (p == 127)) = true := by rcases hp with h | h; simp [h]; simp [h]
                have HCt := hid0 (ctl_any p wB)
                rw [hctl] at HCt
                have hFm := formatInt_any p.toNat (by omega) wB (HDT.out wB HBB.out)
                rw [hm] at hFm
                have HFm := hid0 hFm
                have hhl := hexL_len p.toNat
                have HXs : Hid ((⟨(hexL p.toNat).toArray⟩ : ByteArray).size ≤ 2) := hid0 (by simp only [ByteArray.size, List.size_toArray]; exact hhl)
                have HX : Hid (bs ++ Lib.strCells (⟨#[92, 117, 123]⟩ ++ ⟨(hexL p.toNat).toArray⟩ ++ ⟨#[125]⟩) = Lib.byteCells (wrT s.data.toList (k + 1))) := hid0 (by
                  rw [← HWN.out _ (wrU_4 hp), strCells_app, strCells_app, bytes_app, bytes_app]
                  rfl)
                have HLe : Hid (bs.length + ((⟨#[92, 117, 123]⟩ : ByteArray) ++ ⟨(hexL p.toNat).toArray⟩ ++ ⟨#[125]⟩).size ≤ 140737488355328) := hid0 (by
                  have h1 := HLn.out
                  have h2 := HXs.out
                  have z3 : (⟨#[92, 117, 123]⟩ : ByteArray).size = 3 := rfl
                  have z1 : (⟨#[125]⟩ : ByteArray).size = 1 := rfl
                  rw [ByteArray.size_append, ByteArray.size_append, z3, z1]
                  omega)
                clear HWN HDT HPt hp hctl ha0 hm hFm hhl
                generalize (⟨(hexL p.toNat).toArray⟩ : ByteArray) = H at *
                obtain ⟨Xs, hXs⟩ : ∃ Xs : ByteArray, (⟨#[92, 117, 123]⟩ ++ H ++ ⟨#[125]⟩ : ByteArray) = Xs := ⟨_, rfl⟩
                rw [hXs] at HX HLe
                have hz1 : ¬ 9223372036854775807 < 3 + H.size := by have := HXs.out; omega
                have hz2 : ¬ 9223372036854775807 < 3 + H.size + 1 := by have := HXs.out; omega
                go_wp2_with (first
                  | (go_at_call 71; refine HCt.out.mono ?_; rintro e w2 ⟨rfl, hw2⟩; have hw2' := hw2.symm; subst hw2'; clear hw2)
                  | (go_at_call 72; refine HFm.out.mono ?_; rintro e w3 ⟨rfl, hb3⟩; have HBl3 := hid0 (bl_later HBlB.out hb3); have HU3 := hid0 (HUB.out.later hb3); have HB3 := hid0 (HBB.out.trans (hb3.mono hbs)); clear hb3)
                  | (go_at_call 27; refine (writeString_any _ _ bs Xs w3 HBl3.out HLe.out HB3.out.size).mono ?_; rintro e w6 ⟨rfl, h1, h2, h3⟩; have HU6 := hid0 (HU3.out.kb h3 hgb); have HB6 := hid0 (HB3.out.trans h2); have HBl6 : Hid (Bl w.heap.size w.heap.size (Lib.byteCells (wrT s.data.toList (k + 1))) w6) := hid0 (.inr (by rw [← HX.out]; exact h1)); clear h1 h2 h3)
                  | fail)
                go_roundw
                case rel => exact ⟨k + 1, by omega, by go_num, HBl6, HU6, HB6⟩
                case measure => simp [intOf]; omega
              · have hp : (¬ p = 92) ∧ (¬ p = 35) ∧ (¬ (p = 32 ∧ (a = 0 ∨ b = s.data.toList.length))) ∧ ¬ (p < 32 ∨ p = 127) := ⟨by omega, by omega, by omega, hp4⟩
                have hx1 : ((a : Int) == 0) = true := by simp [ha0]
                have hq1 : (p == 92) = false := by simp; omega
                have hq2 : (p == 35) = false := by simp; omega
                have hq3 : (p == 32) = false := by simp; intro h; exact hp.2.2.1 ⟨h, .inl ha0⟩
                have hctl : (decide (p < 32) || (p == 127)) = false := by have := hp.2.2.2; simp; omega
                have HCt := hid0 (ctl_any p wB)
                rw [hctl] at HCt
                have s0 : (0 : Int) ≤ (a : Int) := by omega
                have s1 : (a : Int) ≤ (b : Int) := by omega
                have s2 : (b : Int) ≤ (s.size : Int) := by omega
                have HX : Hid (bs ++ Lib.strCells (s.extract a b) = Lib.byteCells (wrT s.data.toList (k + 1))) := hid0 (by
                  rw [← HWN.out _ (wrU_5 hp.1 hp.2.1 hp.2.2.1 hp.2.2.2), Lib.strCells_eq, ext_mid])
                have HXs : Hid ((s.extract a b).size ≤ 4) := hid0 (by rw [ByteArray.size_extract]; omega)
                clear HWN HDT HPt hp hctl ha0
                go_wp2_with (first
                  | (go_at_call 71; refine HCt.out.mono ?_; rintro e w2 ⟨rfl, hw2⟩; have hw2' := hw2.symm; subst hw2'; clear hw2)
                  | (go_at_call 27; refine (writeString_any _ _ bs (s.extract a b) wB HBlB.out (by have h1 := HLn.out; have h2 := HXs.out; omega) hbs).mono ?_; rintro e w6 ⟨rfl, h1, h2, h3⟩; have HU6 := hid0 (HUB.out.kb h3 hgb); have HB6 := hid0 (HBB.out.trans h2); have HBl6 : Hid (Bl w.heap.size w.heap.size (Lib.byteCells (wrT s.data.toList (k + 1))) w6) := hid0 (.inr (by rw [← HX.out]; exact h1)); clear h1 h2 h3)
                  | fail)
                go_roundw
                case rel => exact ⟨k + 1, by omega, by go_num, HBl6, HU6, HB6⟩
                case measure => simp [intOf]; omega
      · by_cases hb0 : b = s.size
        · by_cases hp : p = 92
          · have hx1 : ((a : Int) == 0) = false := by simp; omega
            have hx2 : ((b : Int) == (s.size : Int)) = true := by simp; omega
            have hq1 : (p == 92) = true := by simp [hp]
            have HX : Hid (bs ++ Lib.strCells ⟨#[92, 92]⟩ = Lib.byteCells (wrT s.data.toList (k + 1))) := hid0 (HWN.out [92, 92] (wrU_1 hp))
            clear HWN HDT HPt hp hb0
            go_wp2_with (go_at_call 27; refine (writeString_any _ _ bs ⟨#[92, 92]⟩ wB HBlB.out (by have h1 := HLn.out; show _ + 2 ≤ _; omega) hbs).mono ?_; rintro e w6 ⟨rfl, h1, h2, h3⟩; have HU6 := hid0 (HUB.out.kb h3 hgb); have HB6 := hid0 (HBB.out.trans h2); have HBl6 : Hid (Bl w.heap.size w.heap.size (Lib.byteCells (wrT s.data.toList (k + 1))) w6) := hid0 (.inr (by rw [← HX.out]; exact h1)); clear h1 h2 h3)
            go_roundw
            case rel => exact ⟨k + 1, by omega, by go_num, HBl6, HU6, HB6⟩
            case measure => simp [intOf]; omega
          · by_cases hp2 : p = 35
            · have hp := hp2
              have hx1 : ((a : Int) == 0) = false := by simp; omega
              have hx2 : ((b : Int) == (s.size : Int)) = true := by simp; omega
              have hq1 : (p == 92) = false := by simp; omega
              have hq2 : (p == 35) = true := by simp [hp]
              have HX : Hid (bs ++ Lib.strCells ⟨#[92, 35]⟩ = Lib.byteCells (wrT s.data.toList (k + 1))) := hid0 (HWN.out [92, 35] (wrU_2 hp))
              clear HWN HDT HPt hp hp2 hb0
              go_wp2_with (go_at_call 27; refine (writeString_any _ _ bs ⟨#[92, 35]⟩ wB HBlB.out (by have h1 := HLn.out; show _ + 2 ≤ _; omega) hbs).mono ?_; rintro e w6 ⟨rfl, h1, h2, h3⟩; have HU6 := hid0 (HUB.out.kb h3 hgb); have HB6 := hid0 (HBB.out.trans h2); have HBl6 : Hid (Bl w.heap.size w.heap.size (Lib.byteCells (wrT s.data.toList (k + 1))) w6) := hid0 (.inr (by rw [← HX.out]; exact h1)); clear h1 h2 h3)
              go_roundw
              case rel => exact ⟨k + 1, by omega, by go_num, HBl6, HU6, HB6⟩
              case measure => simp [intOf]; omega
            · by_cases hp3 : p = 32
              · have hp := hp3
                have hx1 : ((a : Int) == 0) = false := by simp; omega
                have hx2 : ((b : Int) == (s.size : Int)) = true := by simp; omega
                have hq1 : (p == 92) = false := by simp; omega
                have hq2 : (p == 35) = false := by simp; omega
                have hq3 : (p == 32) = true := by simp [hp]
                have HX : Hid (bs ++ Lib.strCells ⟨#[92, 115]⟩ = Lib.byteCells (wrT s.data.toList (k + 1))) := hid0 (HWN.out [92, 115] (wrU_3 hp (.inr (by rw [HSz.out]; exact hb0))))
                clear HWN HDT HPt hp hp3 hb0
                go_wp2_with (go_at_call 27; refine (writeString_any _ _ bs ⟨#[92, 115]⟩ wB HBlB.out (by have h1 := HLn.out; show _ + 2 ≤ _; omega) hbs).mono ?_; rintro e w6 ⟨rfl, h1, h2, h3⟩; have HU6 := hid0 (HUB.out.kb h3 hgb); have HB6 := hid0 (HBB.out.trans h2); have HBl6 : Hid (Bl w.heap.size w.heap.size (Lib.byteCells (wrT s.data.toList (k + 1))) w6) := hid0 (.inr (by rw [← HX.out]; exact h1)); clear h1 h2 h3)
                go_roundw
                case rel => exact ⟨k + 1, by omega, by go_num, HBl6, HU6, HB6⟩
                case measure => simp [intOf]; omega
              · by_cases hp4 : p < 32 ∨ p = 127
                · have hp := hp4
                  have hx1 : ((a : Int) == 0) = false := by simp; omega
                  have hx2 : ((b : Int) == (s.size : Int)) = true := by simp; omega
                  have hq1 : (p == 92) = false := by simp; omega
                  have hq2 : (p == 35) = false := by simp; omega
                  have hq3 : (p == 32) = false := by simp; omega
                  have hm : ((p.toNat : Nat) : Int) = p := by omega
                  have hctl : (decide (p < 32) || (p == 127)) = true := by rcases hp with h | h; simp [h]; simp [h]
                  have HCt := hid0 (ctl_any p wB)
                  rw [hctl] at HCt
                  have hFm := formatInt_any p.toNat (by omega) wB (HDT.out wB HBB.out)
                  rw [hm] at hFm
                  have HFm := hid0 hFm
                  have hhl := hexL_len p.toNat
                  have HXs : Hid ((⟨(hexL p.toNat).toArray⟩ : ByteArray).size ≤ 2) := hid0 (by simp only [ByteArray.size, List.size_toArray]; exact hhl)
                  have HX : Hid (bs ++ Lib.strCells (⟨#[92, 117, 123]⟩ ++ ⟨(hexL p.toNat).toArray⟩ ++ ⟨#[125]⟩) = Lib.byteCells (wrT s.data.toList (k + 1))) := hid0 (by
                    rw [← HWN.out _ (wrU_4 hp), strCells_app, strCells_app, bytes_app, bytes_app]
                    rfl)
                  have HLe : Hid (bs.length + ((⟨#[92, 117, 123]⟩ : ByteArray) ++ ⟨(hexL p.toNat).toArray⟩ ++ ⟨#[125]⟩).size ≤ 140737488355328) := hid0 (by
                    have h1 := HLn.out
                    have h2 := HXs.out
                    have z3 : (⟨#[92, 117, 123]⟩ : ByteArray).size = 3 := rfl
                    have z1 : (⟨#[125]⟩ : ByteArray).size = 1 := rfl
                    rw [ByteArray.size_append, ByteArray.size_append, z3, z1]
                    omega)
                  clear HWN HDT HPt hp hctl hb0 hm hFm hhl
                  generalize (⟨(hexL p.toNat).toArray⟩ : ByteArray) = H at *
                  obtain ⟨Xs, hXs⟩ : ∃ Xs : ByteArray, (⟨#[92, 117, 123]⟩ ++ H ++ ⟨#[125]⟩ : ByteArray) = Xs := ⟨_, rfl⟩
                  rw [hXs] at HX HLe
                  have hz1 : ¬ 9223372036854775807 < 3 + H.size := by have := HXs.out; omega
                  have hz2 : ¬ 9223372036854775807 < 3 + H.size + 1 := by have := HXs.out; omega
                  go_wp2_with (first
                    | (go_at_call 71; refine HCt.out.mono ?_; rintro e w2 ⟨rfl, hw2⟩; have hw2' := hw2.symm; subst hw2'; clear hw2)
                    | (go_at_call 72; refine HFm.out.mono ?_; rintro e w3 ⟨rfl, hb3⟩; have HBl3 := hid0 (bl_later HBlB.out hb3); have HU3 := hid0 (HUB.out.later hb3); have HB3 := hid0 (HBB.out.trans (hb3.mono hbs)); clear hb3)
                    | (go_at_call 27; refine (writeString_any _ _ bs Xs w3 HBl3.out HLe.out HB3.out.size).mono ?_; rintro e w6 ⟨rfl, h1, h2, h3⟩; have HU6 := hid0 (HU3.out.kb h3 hgb); have HB6 := hid0 (HB3.out.trans h2); have HBl6 : Hid (Bl w.heap.size w.heap.size (Lib.byteCells (wrT s.data.toList (k + 1))) w6) := hid0 (.inr (by rw [← HX.out]; exact h1)); clear h1 h2 h3)
                    | fail)
                  go_roundw
                  case rel => exact ⟨k + 1, by omega, by go_num, HBl6, HU6, HB6⟩
                  case measure => simp [intOf]; omega
                · have hp : (¬ p = 92) ∧ (¬ p = 35) ∧ (¬ (p = 32 ∧ (a = 0 ∨ b = s.data.toList.length))) ∧ ¬ (p < 32 ∨ p = 127) := ⟨by omega, by omega, by omega, hp4⟩
                  have hx1 : ((a : Int) == 0) = false := by simp; omega
                  have hx2 : ((b : Int) == (s.size : Int)) = true := by simp; omega
                  have hq1 : (p == 92) = false := by simp; omega
                  have hq2 : (p == 35) = false := by simp; omega
                  have hq3 : (p == 32) = false := by simp; intro h; exact hp.2.2.1 ⟨h, .inr (by rw [HSz.out]; exact hb0)⟩
                  have hctl : (decide (p < 32) || (p == 127)) = false := by have := hp.2.2.2; simp; omega
                  have HCt := hid0 (ctl_any p wB)
                  rw [hctl] at HCt
                  have s0 : (0 : Int) ≤ (a : Int) := by omega
                  have s1 : (a : Int) ≤ (b : Int) := by omega
                  have s2 : (b : Int) ≤ (s.size : Int) := by omega
                  have HX : Hid (bs ++ Lib.strCells (s.extract a b) = Lib.byteCells (wrT s.data.toList (k + 1))) := hid0 (by
                    rw [← HWN.out _ (wrU_5 hp.1 hp.2.1 hp.2.2.1 hp.2.2.2), Lib.strCells_eq, ext_mid])
                  have HXs : Hid ((s.extract a b).size ≤ 4) := hid0 (by rw [ByteArray.size_extract]; omega)
                  clear HWN HDT HPt hp hctl hb0
                  go_wp2_with (first
                    | (go_at_call 71; refine HCt.out.mono ?_; rintro e w2 ⟨rfl, hw2⟩; have hw2' := hw2.symm; subst hw2'; clear hw2)
                    | (go_at_call 27; refine (writeString_any _ _ bs (s.extract a b) wB HBlB.out (by have h1 := HLn.out; have h2 := HXs.out; omega) hbs).mono ?_; rintro e w6 ⟨rfl, h1, h2, h3⟩; have HU6 := hid0 (HUB.out.kb h3 hgb); have HB6 := hid0 (HBB.out.trans h2); have HBl6 : Hid (Bl w.heap.size w.heap.size (Lib.byteCells (wrT s.data.toList (k + 1))) w6) := hid0 (.inr (by rw [← HX.out]; exact h1)); clear h1 h2 h3)
                    | fail)
                  go_roundw
                  case rel => exact ⟨k + 1, by omega, by go_num, HBl6, HU6, HB6⟩
                  case measure => simp [intOf]; omega
        · by_cases hp : p = 92
          · have hx1 : ((a : Int) == 0) = false := by simp; omega
            have hx2 : ((b : Int) == (s.size : Int)) = false := by simp; omega
            have hq1 : (p == 92) = true := by simp [hp]
            have HX : Hid (bs ++ Lib.strCells ⟨#[92, 92]⟩ = Lib.byteCells (wrT s.data.toList (k + 1))) := hid0 (HWN.out [92, 92] (wrU_1 hp))
            clear HWN HDT HPt hp
            go_wp2_with (go_at_call 27; refine (writeString_any _ _ bs ⟨#[92, 92]⟩ wB HBlB.out (by have h1 := HLn.out; show _ + 2 ≤ _; omega) hbs).mono ?_; rintro e w6 ⟨rfl, h1, h2, h3⟩; have HU6 := hid0 (HUB.out.kb h3 hgb); have HB6 := hid0 (HBB.out.trans h2); have HBl6 : Hid (Bl w.heap.size w.heap.size (Lib.byteCells (wrT s.data.toList (k + 1))) w6) := hid0 (.inr (by rw [← HX.out]; exact h1)); clear h1 h2 h3)
            go_roundw
            case rel => exact ⟨k + 1, by omega, by go_num, HBl6, HU6, HB6⟩
            case measure => simp [intOf]; omega
          · by_cases hp2 : p = 35
            · have hp := hp2
              have hx1 : ((a : Int) == 0) = false := by simp; omega
              have hx2 : ((b : Int) == (s.size : Int)) = false := by simp; omega
              have hq1 : (p == 92) = false := by simp; omega
              have hq2 : (p == 35) = true := by simp [hp]
              have HX : Hid (bs ++ Lib.strCells ⟨#[92, 35]⟩ = Lib.byteCells (wrT s.data.toList (k + 1))) := hid0 (HWN.out [92, 35] (wrU_2 hp))
              clear HWN HDT HPt hp hp2
              go_wp2_with (go_at_call 27; refine (writeString_any _ _ bs ⟨#[92, 35]⟩ wB HBlB.out (by have h1 := HLn.out; show _ + 2 ≤ _; omega) hbs).mono ?_; rintro e w6 ⟨rfl, h1, h2, h3⟩; have HU6 := hid0 (HUB.out.kb h3 hgb); have HB6 := hid0 (HBB.out.trans h2); have HBl6 : Hid (Bl w.heap.size w.heap.size (Lib.byteCells (wrT s.data.toList (k + 1))) w6) := hid0 (.inr (by rw [← HX.out]; exact h1)); clear h1 h2 h3)
              go_roundw
              case rel => exact ⟨k + 1, by omega, by go_num, HBl6, HU6, HB6⟩
              case measure => simp [intOf]; omega
            · by_cases hp4 : p < 32 ∨ p = 127
              · have hp := hp4
                have hx1 : ((a : Int) == 0) = false := by simp; omega
                have hx2 : ((b : Int) == (s.size : Int)) = false := by simp; omega
                have hq1 : (p == 92) = false := by simp; omega
                have hq2 : (p == 35) = false := by simp; omega
                have hq3 : (p == 32) = false := by simp; omega
                have hm : ((p.toNat : Nat) : Int) = p := by omega
                have hctl : (decide (p < 32) || (p == 127)) = true := by rcases hp with h | h; simp [h]; simp [h]
                have HCt := hid0 (ctl_any p wB)
                rw [hctl] at HCt
                have hFm := formatInt_any p.toNat (by omega) wB (HDT.out wB HBB.out)
                rw [hm] at hFm
                have HFm := hid0 hFm
                have hhl := hexL_len p.toNat
                have HXs : Hid ((⟨(hexL p.toNat).toArray⟩ : ByteArray).size ≤ 2) := hid0 (by simp only [ByteArray.size, List.size_toArray]; exact hhl)
                have HX : Hid (bs ++ Lib.strCells (⟨#[92, 117, 123]⟩ ++ ⟨(hexL p.toNat).toArray⟩ ++ ⟨#[125]⟩) = Lib.byteCells (wrT s.data.toList (k + 1))) := hid0 (by
                  rw [← HWN.out _ (wrU_4 hp), strCells_app, strCells_app, bytes_app, bytes_app]
                  rfl)
                have HLe : Hid (bs.length + ((⟨#[92, 117, 123]⟩ : ByteArray) ++ ⟨(hexL p.toNat).toArray⟩ ++ ⟨#[125]⟩).size ≤ 140737488355328) := hid0 (by
                  have h1 := HLn.out
                  have h2 := HXs.out
                  have z3 : (⟨#[92, 117, 123]⟩ : ByteArray).size = 3 := rfl
                  have z1 : (⟨#[125]⟩ : ByteArray).size = 1 := rfl
                  rw [ByteArray.size_append, ByteArray.size_append, z3, z1]
                  omega)
                clear HWN HDT HPt hp hctl hm hFm hhl
                generalize (⟨(hexL p.toNat).toArray⟩ : ByteArray) = H at *
                obtain ⟨Xs, hXs⟩ : ∃ Xs : ByteArray, (⟨#[92, 117, 123]⟩ ++ H ++ ⟨#[125]⟩ : ByteArray) = Xs := ⟨_, rfl⟩
                rw [hXs] at HX HLe
                have hz1 : ¬ 9223372036854775807 < 3 + H.size := by have := HXs.out; omega
                have hz2 : ¬ 9223372036854775807 < 3 + H.size + 1 := by have := HXs.out; omega
                go_wp2_with (first
                  | (go_at_call 71; refine HCt.out.mono ?_; rintro e w2 ⟨rfl, hw2⟩; have hw2' := hw2.symm; subst hw2'; clear hw2)
                  | (go_at_call 72; refine HFm.out.mono ?_; rintro e w3 ⟨rfl, hb3⟩; have HBl3 := hid0 (bl_later HBlB.out hb3); have HU3 := hid0 (HUB.out.later hb3); have HB3 := hid0 (HBB.out.trans (hb3.mono hbs)); clear hb3)
                  | (go_at_call 27; refine (writeString_any _ _ bs Xs w3 HBl3.out HLe.out HB3.out.size).mono ?_; rintro e w6 ⟨rfl, h1, h2, h3⟩; have HU6 := hid0 (HU3.out.kb h3 hgb); have HB6 := hid0 (HB3.out.trans h2); have HBl6 : Hid (Bl w.heap.size w.heap.size (Lib.byteCells (wrT s.data.toList (k + 1))) w6) := hid0 (.inr (by rw [← HX.out]; exact h1)); clear h1 h2 h3)
                  | fail)
                go_roundw
                case rel => exact ⟨k + 1, by omega, by go_num, HBl6, HU6, HB6⟩
                case measure => simp [intOf]; omega
              · have hp : (¬ p = 92) ∧ (¬ p = 35) ∧ (¬ (p = 32 ∧ (a = 0 ∨ b = s.data.toList.length))) ∧ ¬ (p < 32 ∨ p = 127) := ⟨by omega, by omega, by have := HSz.out; omega, hp4⟩
                have hx1 : ((a : Int) == 0) = false := by simp; omega
                have hx2 : ((b : Int) == (s.size : Int)) = false := by simp; omega
                have hq1 : (p == 92) = false := by simp; omega
                have hq2 : (p == 35) = false := by simp; omega
                obtain ⟨q3, hq3⟩ : ∃ q3, (p == 32) = q3 := ⟨_, rfl⟩
                have hctl : (decide (p < 32) || (p == 127)) = false := by have := hp.2.2.2; simp; omega
                have HCt := hid0 (ctl_any p wB)
                rw [hctl] at HCt
                have s0 : (0 : Int) ≤ (a : Int) := by omega
                have s1 : (a : Int) ≤ (b : Int) := by omega
                have s2 : (b : Int) ≤ (s.size : Int) := by omega
                have HX : Hid (bs ++ Lib.strCells (s.extract a b) = Lib.byteCells (wrT s.data.toList (k + 1))) := hid0 (by
                  rw [← HWN.out _ (wrU_5 hp.1 hp.2.1 hp.2.2.1 hp.2.2.2), Lib.strCells_eq, ext_mid])
                have HXs : Hid ((s.extract a b).size ≤ 4) := hid0 (by rw [ByteArray.size_extract]; omega)
                clear HWN HDT HPt hp hctl
                cases q3
                · go_wp2_with (first
                    | (go_at_call 71; refine HCt.out.mono ?_; rintro e w2 ⟨rfl, hw2⟩; have hw2' := hw2.symm; subst hw2'; clear hw2)
                    | (go_at_call 27; refine (writeString_any _ _ bs (s.extract a b) wB HBlB.out (by have h1 := HLn.out; have h2 := HXs.out; omega) hbs).mono ?_; rintro e w6 ⟨rfl, h1, h2, h3⟩; have HU6 := hid0 (HUB.out.kb h3 hgb); have HB6 := hid0 (HBB.out.trans h2); have HBl6 : Hid (Bl w.heap.size w.heap.size (Lib.byteCells (wrT s.data.toList (k + 1))) w6) := hid0 (.inr (by rw [← HX.out]; exact h1)); clear h1 h2 h3)
                    | fail)
                  go_roundw
                  case rel => exact ⟨k + 1, by omega, by go_num, HBl6, HU6, HB6⟩
                  case measure => simp [intOf]; omega
                · go_wp2_with (first
                    | (go_at_call 71; refine HCt.out.mono ?_; rintro e w2 ⟨rfl, hw2⟩; have hw2' := hw2.symm; subst hw2'; clear hw2)
                    | (go_at_call 27; refine (writeString_any _ _ bs (s.extract a b) wB HBlB.out (by have h1 := HLn.out; have h2 := HXs.out; omega) hbs).mono ?_; rintro e w6 ⟨rfl, h1, h2, h3⟩; have HU6 := hid0 (HUB.out.kb h3 hgb); have HB6 := hid0 (HBB.out.trans h2); have HBl6 : Hid (Bl w.heap.size w.heap.size (Lib.byteCells (wrT s.data.toList (k + 1))) w6) := hid0 (.inr (by rw [← HX.out]; exact h1)); clear h1 h2 h3)
                    | fail)
                  go_roundw
                  case rel => exact ⟨k + 1, by omega, by go_num, HBl6, HU6, HB6⟩
                  case measure => simp [intOf]; omega
    · have hkI : ¬ (k : Int) < (n : Int) := by omega
      have HS := hid0 (Any.Builder_String_any_k Tryz.lays169 ext169 w.heap.size w.heap.size (wrT s.data.toList k) wr (Lib.IsBuilderF.of HBl.out) HBr.out.size)
      have HE : Hid (wrT s.data.toList k = wrE s.data.toList) := hid0 (by unfold wrT wrE; rw [List.take_of_length_le (by rw [← Hn.out]; omega)])
      rw [HE.out] at HS
      have HS2 : Hid (Calls Tryz.prog 30 #[.pointer (some ⟨w.heap.size, 0, none⟩)] wr fun e w' => e = .returned (.string Y) ∧ Below w.heap.size wr w') := hid0 (by rw [HY.out]; exact HS.out.mono (fun e w' h => ⟨h.1, h.2.2.1⟩))
      clear HS HBl
      go_wp2_with (go_at_call 30; refine HS2.out.mono ?_; rintro e w7 ⟨rfl, hb7⟩)
      go_ret
      exact ⟨rfl, HBr.out.trans hb7⟩
end Go.Proofs.YtpkfcadihgbleaaGreatDoor
namespace Go.Proofs.YtpkfcadihgbleaaGreatDoor
open Go.RowKit Go.Shelf Go.Lib
theorem str_ext (s : ByteArray) (a b : Nat) : s.extract a b = strOf ((s.data.toList.drop a).take (b - a)) := by rw [← ext_mid]; rfl
set_option maxRecDepth 10000 in
set_option maxHeartbeats 6400000 in
theorem refWritten_any (s : ByteArray) (hs : s.size ≤ 4194400) (he : entF s.data.toList = none) (w : World) :
    Calls Tryz.prog 47 #[.string s] w fun e w' => e = .returned (.string (strOf (wrE s.data.toList))) ∧ Below w.heap.size w w' := by
  obtain ⟨h32, hpt⟩ := ent_ok he
  have HSp := hid0 (refSplit_any s hs w)
  have HPt := hid0 hpt
  have HSz : Hid (s.data.toList.length = s.size) := hid0 (bsize s)
  obtain ⟨n, hn⟩ : ∃ n, n = (unitsOf s.data.toList).length := ⟨_, rfl⟩
  rw [← hn] at h32
  have Hn := hid0 hn
  have hn1 : 1 ≤ n := by
    rw [hn]
    unfold entF at he
    split at he
    · cases he
    · split at he
      · cases he
      · omega
  clear he hpt hn
  obtain ⟨Y, hY⟩ : ∃ Y, Y = strOf (wrE s.data.toList) := ⟨_, rfl⟩
  rw [← hY]
  have HY := hid0 hY
  clear hY
  go_enter Tryz.func47, Tryz.ntmps47
  go_wp2_with (go_at_call 66; refine HSp.out.mono ?_; rintro e w1 ⟨v, rfl, ho, hb1⟩; obtain ⟨g, cap, hv, hg⟩ : ∃ g cap, v = .slice (some ⟨g, 0, none⟩) n cap ∧ g < w1.heap.size := (by rcases ho.2 with ⟨_, h0⟩ | ⟨g, cap, cur, hv, _, hr, _⟩; (have := Hn.out; omega); exact ⟨g, cap, by rw [hv, ← Hn.out], (Array.getElem?_eq_some_iff.1 hr).1⟩); subst hv; have HU1 : Hid (UW w1 g (unitsOf s.data.toList)) := hid0 (uw_of (by rw [← Hn.out]; exact ho)); have HB1 := hid0 hb1; clear ho hb1)
  clear HSp
  have HT0 : Hid (strOf (wrT s.data.toList 0) = ⟨#[]⟩) := hid0 (by simp [wrT, strOf])
  go_loopw [4, 5] (fun o i wr => ∃ k : Nat, k ≤ n ∧ i = .int .i64 (k : Int) ∧ o = .string (strOf (wrT s.data.toList k)) ∧ Hid (Below w1.heap.size w1 wr)) (fun _ i _ => n - (intOf i).toNat)
  case atStart => exact ⟨0, Nat.zero_le _, rfl, by rw [HT0.out], hid0 (Below.refl _ _)⟩
  case round =>
    obtain ⟨k, hk, rfl, rfl, HBr⟩ := hrel
    by_cases hlt : k < n
    · have hkI : (k : Int) < (n : Int) := by omega
      have hkI0 : (0 : Int) ≤ (k : Int) := by omega
      have hkU : k < (unitsOf s.data.toList).length := by rw [← Hn.out]; exact hlt
      obtain ⟨c0, c1, c2⟩ := (HU1.out.later HBr.out).2 k hkU
      have HW := wrT_more s.data.toList k hkU
      obtain ⟨i1, i2, i3⟩ := units_in s.data.toList _ (List.getElem_mem hkU)
      obtain ⟨j1, j2⟩ := units_at s.data.toList k hkU
      have hp0 := HPt.out _ (List.getElem_mem hkU)
      rw [HSz.out] at i3 j2
      rw [← Hn.out] at j2
      have HWN : Hid (∀ X, wrU s.data.toList (unitsOf s.data.toList)[k] = X → strOf (wrT s.data.toList k) ++ strOf X = strOf (wrT s.data.toList (k + 1))) := hid0 (fun X hX => by rw [HW, strOf_app, hX])
      generalize (unitsOf s.data.toList)[k] = u at *
      obtain ⟨p, a, b⟩ := u
      simp only at c0 c1 c2 i1 i2 i3 hp0 j1 j2
      have hwr : IntKind.i64.wrap ((n : Int) - 1) = (n : Int) - 1 := by simp [IntKind.wrap, IntKind.bits, IntKind.signed]; omega
      have HTz : Hid ((strOf (wrT s.data.toList k)).size ≤ 192) := hid0 (by rw [strOf_size]; have := wrT_len s.data.toList k; omega)
      generalize hTk : strOf (wrT s.data.toList k) = Tk at *
      have hz0 : ¬ 9223372036854775807 < Tk.size + 2 := by have := HTz.out; omega
      have hz3 : ¬ 9223372036854775807 < Tk.size + 3 := by have := HTz.out; omega
      clear HW hkU hTk
      by_cases hp : p = 92
      · have hq1 : (p == 92) = true := by simp [hp]
        have HX : Hid (Tk ++ ⟨#[92, 92]⟩ = strOf (wrT s.data.toList (k + 1))) := hid0 (HWN.out [92, 92] (wrU_1 hp))
        clear HWN HPt hp
        go_wp2
        go_roundw
        case rel => exact ⟨k + 1, by omega, by go_num, by rw [HX.out], HBr⟩
        case measure => simp [intOf]; omega
      · by_cases hp2 : p = 35
        · have hp := hp2
          have hq1 : (p == 92) = false := by simp; omega
          have hq2 : (p == 35) = true := by simp [hp]
          have HX : Hid (Tk ++ ⟨#[92, 35]⟩ = strOf (wrT s.data.toList (k + 1))) := hid0 (HWN.out [92, 35] (wrU_2 hp))
          clear HWN HPt hp
          go_wp2
          go_roundw
          case rel => exact ⟨k + 1, by omega, by go_num, by rw [HX.out], HBr⟩
          case measure => simp [intOf]; omega
        · by_cases hp3 : p = 32
          · by_cases hk0 : k = 0
            · have hp := hp3
              have hq1 : (p == 92) = false := by simp; omega
              have hq2 : (p == 35) = false := by simp; omega
              have hq3 : (p == 32) = true := by simp [hp]
              have hk00 : ((k : Int) == 0) = true := by simp [hk0]
              have HX : Hid (Tk ++ ⟨#[92, 115]⟩ = strOf (wrT s.data.toList (k + 1))) := hid0 (HWN.out [92, 115] (wrU_3 hp (.inl (by simp only; omega))))
              clear HWN HPt hp hk0
              go_wp2
              go_roundw
              case rel => exact ⟨k + 1, by omega, by go_num, by rw [HX.out], HBr⟩
              case measure => simp [intOf]; omega
            · have hk00 : ((k : Int) == 0) = false := by simp; omega
              by_cases hk1 : k + 1 = n
              · have hp := hp3
                have hq1 : (p == 92) = false := by simp; omega
                have hq2 : (p == 35) = false := by simp; omega
                have hq3 : (p == 32) = true := by simp [hp]
                have hk11 : ((k : Int) == (n : Int) - 1) = true := by simp; omega
                have HX : Hid (Tk ++ ⟨#[92, 115]⟩ = strOf (wrT s.data.toList (k + 1))) := hid0 (HWN.out [92, 115] (wrU_3 hp (.inr (by have := HSz.out; simp only; omega))))
                clear HWN HPt hp
                go_wp2
                go_roundw
                case rel => exact ⟨k + 1, by omega, by go_num, by rw [HX.out], HBr⟩
                case measure => simp [intOf]; omega
              · have hp : (¬ p = 92) ∧ (¬ p = 35) ∧ (¬ (p = 32 ∧ (a = 0 ∨ b = s.data.toList.length))) ∧ ¬ (p < 32 ∨ p = 127) := ⟨by omega, by omega, by have := HSz.out; omega, by omega⟩
                have hq1 : (p == 92) = false := by simp; omega
                have hq2 : (p == 35) = false := by simp; omega
                have hq3 : (p == 32) = true := by simp [hp3]
                have hk11 : ((k : Int) == (n : Int) - 1) = false := by simp; omega
                have hd1 : decide (p < 32) = false := by simp; omega
                have hd2 : (p == 127) = false := by simp; omega
                have s0 : (0 : Int) ≤ (a : Int) := by omega
                have s1 : (a : Int) ≤ (b : Int) := by omega
                have s2 : (b : Int) ≤ (s.size : Int) := by omega
                have HX : Hid (Tk ++ s.extract a b = strOf (wrT s.data.toList (k + 1))) := hid0 (by
                  rw [← HWN.out _ (wrU_5 hp.1 hp.2.1 hp.2.2.1 hp.2.2.2), str_ext])
                have HXz : (s.extract a b).size = b - a := by rw [ByteArray.size_extract]; omega
                have hz6 : ¬ 9223372036854775807 < Tk.size + (b - a) := by have := HTz.out; omega
                have hz7 : ¬ 9223372036854775807 < Tk.size + (s.extract a b).size := by rw [HXz]; exact hz6
                have hz8 : ¬ 9223372036854775807 < Tk.size + (min b s.size - a) := by have := HTz.out; omega
                have HD : Hid (∀ q, Below w1.heap.size w1 (wr.drewN q)) := hid0 (fun q => Below.later HBr.out ⟨rfl, rfl, rfl, Nat.le_refl _, fun _ _ => rfl⟩)
                clear HWN HPt hp
                go_wp2
                go_quiet ((fail))
                go_wp2
                go_roundw
                case rel => exact ⟨k + 1, by omega, by go_num, by rw [HX.out], hid0 (HD.out _)⟩
                case measure => simp [intOf]; omega
          · by_cases hp4 : p < 32 ∨ p = 127
            · have hp := hp4
              by_cases hp5 : p < 32
              · have hq1 : (p == 92) = false := by simp; omega
                have hq2 : (p == 35) = false := by simp; omega
                have hq3 : (p == 32) = false := by simp; omega
                have hm : ((p.toNat : Nat) : Int) = p := by omega
                have hHx := hexR_any p.toNat (by omega) wr
                unfold HexR at hHx
                rw [hm] at hHx
                have HHx := hid0 hHx
                have HX : Hid (Tk ++ ⟨#[92, 117, 123]⟩ ++ ⟨(hexL p.toNat).toArray⟩ ++ ⟨#[125]⟩ = strOf (wrT s.data.toList (k + 1))) := hid0 (by
                  rw [← HWN.out _ (wrU_4 hp), ← strOf_app, ← strOf_app, ByteArray.append_assoc, ByteArray.append_assoc, ByteArray.append_assoc]
                  rfl)
                have hd1 : decide (p < 32) = true := decide_eq_true hp5
                have HXs : Hid ((⟨(hexL p.toNat).toArray⟩ : ByteArray).size ≤ 2) := hid0 (by simp only [ByteArray.size, List.size_toArray]; exact hexL_len _)
                clear HWN HPt hp hm hHx hp4 hp5
                generalize (⟨(hexL p.toNat).toArray⟩ : ByteArray) = H at *
                have hz4 : ¬ 9223372036854775807 < Tk.size + 3 + H.size := by have := HTz.out; have := HXs.out; omega
                have hz5 : ¬ 9223372036854775807 < Tk.size + 3 + H.size + 1 := by have := HTz.out; have := HXs.out; omega
                go_wp2_with (go_at_call 69; refine HHx.out.mono ?_; rintro e w3 ⟨rfl, hb3⟩; have HB3 := hid0 (Below.later HBr.out hb3); clear hb3)
                go_roundw
                case rel => exact ⟨k + 1, by omega, by go_num, by rw [HX.out], HB3⟩
                case measure => simp [intOf]; omega
              · have hq1 : (p == 92) = false := by simp; omega
                have hq2 : (p == 35) = false := by simp; omega
                have hq3 : (p == 32) = false := by simp; omega
                have hm : ((p.toNat : Nat) : Int) = p := by omega
                have hHx := hexR_any p.toNat (by omega) wr
                unfold HexR at hHx
                rw [hm] at hHx
                have HHx := hid0 hHx
                have HX : Hid (Tk ++ ⟨#[92, 117, 123]⟩ ++ ⟨(hexL p.toNat).toArray⟩ ++ ⟨#[125]⟩ = strOf (wrT s.data.toList (k + 1))) := hid0 (by
                  rw [← HWN.out _ (wrU_4 hp), ← strOf_app, ← strOf_app, ByteArray.append_assoc, ByteArray.append_assoc, ByteArray.append_assoc]
                  rfl)
                have hd1 : decide (p < 32) = false := decide_eq_false hp5
                have hd2 : (p == 127) = true := by simp; omega
                have HXs : Hid ((⟨(hexL p.toNat).toArray⟩ : ByteArray).size ≤ 2) := hid0 (by simp only [ByteArray.size, List.size_toArray]; exact hexL_len _)
                clear HWN HPt hp hm hHx hp4 hp5
                generalize (⟨(hexL p.toNat).toArray⟩ : ByteArray) = H at *
                have hz4 : ¬ 9223372036854775807 < Tk.size + 3 + H.size := by have := HTz.out; have := HXs.out; omega
                have hz5 : ¬ 9223372036854775807 < Tk.size + 3 + H.size + 1 := by have := HTz.out; have := HXs.out; omega
                go_wp2_with (go_at_call 69; refine HHx.out.mono ?_; rintro e w3 ⟨rfl, hb3⟩; have HB3 := hid0 (Below.later HBr.out hb3); clear hb3)
                go_roundw
                case rel => exact ⟨k + 1, by omega, by go_num, by rw [HX.out], HB3⟩
                case measure => simp [intOf]; omega
            · have hp : (¬ p = 92) ∧ (¬ p = 35) ∧ (¬ (p = 32 ∧ (a = 0 ∨ b = s.data.toList.length))) ∧ ¬ (p < 32 ∨ p = 127) := ⟨by omega, by omega, by have := HSz.out; omega, by omega⟩
              have hq1 : (p == 92) = false := by simp; omega
              have hq2 : (p == 35) = false := by simp; omega
              have hq3 : (p == 32) = false := by simp; omega
              have hd1 : decide (p < 32) = false := by simp; omega
              have hd2 : (p == 127) = false := by simp; omega
              have s0 : (0 : Int) ≤ (a : Int) := by omega
              have s1 : (a : Int) ≤ (b : Int) := by omega
              have s2 : (b : Int) ≤ (s.size : Int) := by omega
              have HX : Hid (Tk ++ s.extract a b = strOf (wrT s.data.toList (k + 1))) := hid0 (by
                rw [← HWN.out _ (wrU_5 hp.1 hp.2.1 hp.2.2.1 hp.2.2.2), str_ext])
              have HXz : (s.extract a b).size = b - a := by rw [ByteArray.size_extract]; omega
              have hz6 : ¬ 9223372036854775807 < Tk.size + (b - a) := by have := HTz.out; omega
              have hz7 : ¬ 9223372036854775807 < Tk.size + (s.extract a b).size := by rw [HXz]; exact hz6
              have hz8 : ¬ 9223372036854775807 < Tk.size + (min b s.size - a) := by have := HTz.out; omega
              have HD : Hid (∀ q, Below w1.heap.size w1 (wr.drewN q)) := hid0 (fun q => Below.later HBr.out ⟨rfl, rfl, rfl, Nat.le_refl _, fun _ _ => rfl⟩)
              clear HWN HPt hp
              go_wp2
              go_quiet ((fail))
              go_wp2
              go_roundw
              case rel => exact ⟨k + 1, by omega, by go_num, by rw [HX.out], hid0 (HD.out _)⟩
              case measure => simp [intOf]; omega
    · have hkI : ¬ (k : Int) < (n : Int) := by omega
      have HE : Hid (wrT s.data.toList k = wrE s.data.toList) := hid0 (by unfold wrT wrE; rw [List.take_of_length_le (by rw [← Hn.out]; omega)])
      rw [HE.out, ← HY.out]
      go_wp2
      go_ret
      exact ⟨rfl, Below.later HB1.out HBr.out⟩
end Go.Proofs.YtpkfcadihgbleaaGreatDoor
namespace Go.Proofs.YtpkfcadihgbleaaGreatDoor
open Go.RowKit Go.Shelf Go.Lib
/-- A section's head. -/
def hdB (lo pa : ByteArray) : List UInt8 := [91] ++ lo.data.toList ++ [93, 10] ++ (if pa.data.toList = [] then [] else [112, 97, 114, 101, 110, 116, 32] ++ pa.data.toList ++ [10])
theorem secB_hd (s : Sec) : secB s = hdB s.loc s.par ++ s.ed.flatMap wrX := rfl
/-- What is written of a section up to its k-th edit. -/
def sdT (s : Sec) (k : Nat) : List UInt8 := hdB s.loc s.par ++ (s.ed.take k).flatMap wrX
theorem sdT_more (s : Sec) (k : Nat) (h : k < s.ed.length) : sdT s (k + 1) = sdT s k ++ wrX s.ed[k] := by
  unfold sdT
  rw [List.take_succ_eq_append_getElem h, List.flatMap_append, List.append_assoc]
  simp only [List.flatMap_cons, List.flatMap_nil, List.append_nil]
theorem hdB_len {s : Sec} (h : SecOk s) : (hdB s.loc s.par).length ≤ 139 := by
  have h1 := tag_len h.loc
  have h3 : s.par.data.toList ≠ [] → s.par.data.toList.length ≤ 64 := fun hp => tag_len (h.par (by rw [par_nil]; simpa using hp))
  have h4 : (if s.par.data.toList = [] then [] else [112, 97, 114, 101, 110, 116, 32] ++ s.par.data.toList ++ [10] : List UInt8).length ≤ 72 := by
    split
    · simp only [List.length_nil]; omega
    · rename_i hp
      have := h3 hp
      simp only [List.length_append, List.length_cons, List.length_nil]
      omega
  unfold hdB
  simp only [List.length_append, List.length_cons, List.length_nil]
  omega
theorem sdT_len {s : Sec} (h : SecOk s) (k : Nat) (hk : k ≤ 20000) : (sdT s k).length ≤ 4000000 := by
  have h1 := hdB_len h
  have h2 := flat_len wrX 195 (s.ed.take k) (fun e he => wrX_len (h.ent e (List.mem_of_mem_take he)))
  have h3 : (s.ed.take k).length ≤ k := by rw [List.length_take]; omega
  unfold sdT
  rw [List.length_append]
  have := Nat.mul_le_mul_right 195 h3
  omega
set_option maxRecDepth 10000 in
set_option maxHeartbeats 6400000 in
theorem writtenSection_any (s : Sec) (ae : Option Addr) (ce : Nat) (w : World) (hn : s.ed.length ≤ 20000) (hz : ∀ e ∈ s.ed, e.2.size ≤ 4194400) (hok : SecOk s) (hQ : SeqAt w) (hT : DT w) (he : EA w ae s.ed) :
    Calls Tryz.prog 28 #[.agg #[.string s.loc, .string s.par, .slice ae s.ed.length ce]] w fun e w' => e = .returned (.string (strOf (secB s))) ∧ Below w.heap.size w w' := by
  obtain ⟨w0, hw0⟩ : ∃ w0, w0 = w.alloc (.cells #[.string s.loc, .string s.par, .slice ae s.ed.length ce] 30) := ⟨_, rfl⟩
  have hB0 : Below w.heap.size w w0 := by rw [hw0]; exact (Below.refl _ _).alloc (Nat.le_refl _) _
  have hs0 : w0.heap.size = w.heap.size + 1 := by rw [hw0]; simp
  have hX0 : w0.heap[w.heap.size]? = some (.cells #[.string s.loc, .string s.par, .slice ae s.ed.length ce] 30 (0, 0)) := by rw [hw0]; exact heap_alloc_new w _
  have HX : Hid (∀ W, Below w0.heap.size w0 W → W.cell? ⟨w.heap.size, 0, none⟩ = some (.string s.loc) ∧ W.cell? ⟨w.heap.size, 1, none⟩ = some (.string s.par) ∧ W.cell? ⟨w.heap.size, 2, none⟩ = some (.slice ae s.ed.length ce)) := hid0 (fun W hW => by
    have hr := (hW.block w.heap.size (by omega)).trans hX0
    exact ⟨by rw [cell_of_row _ _ _ _ _ _ hr]; rfl, by rw [cell_of_row _ _ _ _ _ _ hr]; rfl, by rw [cell_of_row _ _ _ _ _ _ hr]; rfl⟩)
  obtain ⟨wA, hwA⟩ : ∃ wA, wA = w0.alloc (.cells #[.pointer none, .slice none 0 0] 60) := ⟨_, rfl⟩
  have hBA : Below w0.heap.size w0 wA := by rw [hwA]; exact (Below.refl _ _).alloc (Nat.le_refl _) _
  have HBlA : Hid (Bl w0.heap.size (w.heap.size + 1) [] wA) := hid0 (by rw [hwA, ← hs0]; exact Lib.fresh_isBuilder 60 5 w0)
  have HEv : Hid (∀ W, Below w0.heap.size w0 W → SeqAt W ∧ DT W ∧ EA W ae s.ed) := hid0 (fun W hW => ⟨(hQ.later hB0).later hW, dt_later (dt_later hT hB0) hW, (he.later hB0).later hW⟩)
  obtain ⟨y0, y1, y2⟩ := HX.out wA hBA
  have HBA := hid0 hBA
  have HB0 := hid0 hB0
  have hszA : w0.heap.size ≤ wA.heap.size := hBA.size
  have HOk := hid0 hok
  have HZ := hid0 hz
  obtain ⟨Y, hY⟩ : ∃ Y, Y = strOf (secB s) := ⟨_, rfl⟩
  rw [← hY]
  have HY := hid0 hY
  have hlo : s.loc.size ≤ 64 := by have := tag_len hok.loc; rw [bsize] at this; exact this
  have HS1 : Hid ((⟨#[91]⟩ ++ s.loc ++ ⟨#[93, 10]⟩ : ByteArray).size ≤ 67) := hid0 (by
    have z1 : (⟨#[91]⟩ : ByteArray).size = 1 := rfl
    have z2 : (⟨#[93, 10]⟩ : ByteArray).size = 2 := rfl
    rw [ByteArray.size_append, ByteArray.size_append, z1, z2]
    omega)
  have HL1 : Hid (([] : List Value).length + (⟨#[91]⟩ ++ s.loc ++ ⟨#[93, 10]⟩ : ByteArray).size ≤ 140737488355328) := hid0 (by have := HS1.out; rw [List.length_nil]; omega)
  obtain ⟨X1, hX1⟩ : ∃ X1 : ByteArray, (⟨#[91]⟩ ++ s.loc ++ ⟨#[93, 10]⟩ : ByteArray) = X1 := ⟨_, rfl⟩
  rw [hX1] at HS1 HL1
  have HX1c : Hid (Lib.strCells X1 = Lib.strCells ⟨#[91]⟩ ++ Lib.strCells s.loc ++ Lib.strCells ⟨#[93, 10]⟩) := hid0 (by rw [← hX1, strCells_app, strCells_app])
  have hf0 := hw0.symm
  have hfA := hwA.symm
  clear hw0 hwA hB0 hX0 hBA hQ hT he hY hok hz
  cases hp : (s.par.toList == []) with
  | true =>
    have M1 : Hid True := trivial
    have hy1 : ¬ 9223372036854775807 < 1 + s.loc.size := by omega
    have hy2 : ¬ 9223372036854775807 < 1 + s.loc.size + 2 := by omega
    go_enter Tryz.func28, Tryz.ntmps28
    go_wp2_with (first
      | (go_at_call 27; clear M1; refine (writeString_any _ _ [] X1 wA HBlA.out HL1.out hszA).mono ?_; rintro e2 w1 ⟨rfl, h1, h2, h3⟩; have HB1 := hid0 (HBA.out.trans h2); obtain ⟨y0, y1, y2⟩ := HX.out w1 HB1.out; have HBl1 : Hid (Bl w0.heap.size (w.heap.size + 1) ([] ++ Lib.strCells X1) w1) := hid0 (.inr h1); clear h1 h2 h3)
      | fail)
    have HBZ := HB1
    have HBlZ : Hid (Bl w0.heap.size (w.heap.size + 1) (Lib.byteCells (sdT s 0)) w1) := hid0 (by
      have h := HBl1.out
      rw [HX1c.out] at h
      have e : Lib.byteCells (sdT s 0) = [] ++ (Lib.strCells ⟨#[91]⟩ ++ Lib.strCells s.loc ++ Lib.strCells ⟨#[93, 10]⟩) := by
        unfold sdT hdB
        rw [if_pos (by rw [par_nil] at hp; exact of_decide_eq_true hp)]
        simp [Lib.byteCells, Lib.strCells]
      rw [e]
      exact h)
    clear HBl1 HB1 HBlA HBA
    go_loopw [23] (fun i wr => ∃ k : Nat, k ≤ s.ed.length ∧ i = .int .i64 (k : Int) ∧ Hid (Bl w0.heap.size (w.heap.size + 1) (Lib.byteCells (sdT s k)) wr) ∧ Hid (Below w0.heap.size w0 wr)) (fun i _ => s.ed.length - (intOf i).toNat)
    case atStart => exact ⟨0, Nat.zero_le _, rfl, HBlZ, HBZ⟩
    case round =>
      clear HBlZ HBZ
      obtain ⟨k, hk, rfl, HBl, HBr⟩ := hrel
      by_cases hlt : k < s.ed.length
      · have hkI : (k : Int) < (s.ed.length : Int) := by omega
        have hkI0 : (0 : Int) ≤ (k : Int) := by omega
        obtain ⟨b, off, rfl, hbl, c0, c1⟩ := (HEv.out wr HBr.out).2.2.at' k hlt
        have HEn : Hid (entF s.ed[k].2.data.toList = none) := hid0 (HOk.out.ent _ (List.getElem_mem hlt))
        have HEz : Hid (s.ed[k].2.size ≤ 4194400) := hid0 (HZ.out _ (List.getElem_mem hlt))
        have HMo : Hid (Lib.byteCells (sdT s k) ++ Lib.byteCells (wrX s.ed[k]) = Lib.byteCells (sdT s (k + 1))) := hid0 (by rw [sdT_more s k hlt, bytes_app])
        have HLn : Hid ((Lib.byteCells (sdT s k)).length ≤ 4000000) := hid0 (by rw [Lib.byteCells_length]; exact sdT_len HOk.out k (by omega))
        generalize Lib.byteCells (sdT s k) = bs at *
        generalize s.ed[k] = ed at *
        obtain ⟨x, e⟩ := ed
        simp only at c0 c1 HEn HEz HMo
        obtain ⟨wB, hwB⟩ : ∃ wB, wB = wr.alloc (.cells #[.bool x, .string e] 32) := ⟨_, rfl⟩
        have hbB : Below wr.heap.size wr wB := by rw [hwB]; exact (Below.refl _ _).alloc (Nat.le_refl _) _
        have hrB : wB.heap[wr.heap.size]? = some (.cells #[.bool x, .string e] 32 (0, 0)) := by rw [hwB]; exact heap_alloc_new wr _
        have d0 : wB.cell? ⟨wr.heap.size, 0, none⟩ = some (.bool x) := by rw [cell_of_row _ _ _ _ _ _ hrB]; rfl
        have d1 : wB.cell? ⟨wr.heap.size, 1, none⟩ = some (.string e) := by rw [cell_of_row _ _ _ _ _ _ hrB]; rfl
        have HBB : Hid (Below w0.heap.size w0 wB) := hid0 (HBr.out.trans (hbB.mono HBr.out.size))
        have HBlB := hid0 (bl_later HBl.out hbB)
        have HWr := hid0 (writtenEntry_any e HEz.out HEn.out wB (HEv.out wB HBB.out).1 (HEv.out wB HBB.out).2.1)
        have HWl : Hid ((strOf (wrE e.data.toList)).size ≤ 192) := hid0 (by rw [strOf_size]; exact wrE_len HEn.out)
        have HXt : Hid (x = true → bs ++ Lib.strCells (⟨#[43, 32]⟩ ++ strOf (wrE e.data.toList) ++ ⟨#[10]⟩) = Lib.byteCells (sdT s (k + 1))) := hid0 (fun hx => by
          rw [← HMo.out, strCells_app, strCells_app, strCells_strOf]
          unfold wrX
          simp only
          rw [if_pos hx, bytes_app, bytes_app]
          rfl)
        have HXf : Hid (x = false → bs ++ Lib.strCells (⟨#[45, 32]⟩ ++ strOf (wrE e.data.toList) ++ ⟨#[10]⟩) = Lib.byteCells (sdT s (k + 1))) := hid0 (fun hx => by
          rw [← HMo.out, strCells_app, strCells_app, strCells_strOf]
          unfold wrX
          simp only
          rw [if_neg (by rw [hx]; simp), bytes_app, bytes_app]
          rfl)
        have HLe : Hid (∀ g : ByteArray, g.size = 2 → bs.length + (g ++ strOf (wrE e.data.toList) ++ ⟨#[10]⟩).size ≤ 140737488355328) := hid0 (fun g hg => by
          have h1 := HLn.out
          have h2 := HWl.out
          have z1 : (⟨#[10]⟩ : ByteArray).size = 1 := rfl
          rw [ByteArray.size_append, ByteArray.size_append, hg, z1]
          omega)
        have hfB := hwB.symm
        generalize strOf (wrE e.data.toList) = We at *
        have hz1 : ¬ 9223372036854775807 < 2 + We.size := by have := HWl.out; omega
        have hz2 : ¬ 9223372036854775807 < 2 + We.size + 1 := by have := HWl.out; omega
        clear hwB hbB hrB HBl HMo HEn HEz HBr hbl
        cases x with
        | true =>
          have hXn := HXt.out rfl
          have hLe := HLe.out ⟨#[43, 32]⟩ rfl
          obtain ⟨X3, hX3⟩ : ∃ X3 : ByteArray, (⟨#[43, 32]⟩ ++ We ++ ⟨#[10]⟩ : ByteArray) = X3 := ⟨_, rfl⟩
          rw [hX3] at hXn hLe
          have HXn := hid0 hXn
          have HLe3 := hid0 hLe
          clear HXt HXf hXn hLe HLe
          go_wp2_with (first
            | (go_at_call 49; refine HWr.out.mono ?_; rintro e2 w5 ⟨rfl, hb5⟩; have HB5 := hid0 (Below.later HBB.out hb5); have HBl5 := hid0 (bl_later HBlB.out hb5); clear hb5)
            | (go_at_call 27; refine (writeString_any _ _ bs X3 w5 HBl5.out HLe3.out HB5.out.size).mono ?_; rintro e2 w6 ⟨rfl, h1, h2, h3⟩; have HB6 := hid0 (HB5.out.trans h2); have HBl6 : Hid (Bl w0.heap.size (w.heap.size + 1) (Lib.byteCells (sdT s (k + 1))) w6) := hid0 (.inr (by rw [← HXn.out]; exact h1)); clear h1 h2 h3)
            | fail)
          go_roundw
          case rel => exact ⟨k + 1, by omega, by go_num, HBl6, HB6⟩
          case measure => simp [intOf]; omega
        | false =>
          have hXn := HXf.out rfl
          have hLe := HLe.out ⟨#[45, 32]⟩ rfl
          obtain ⟨X3, hX3⟩ : ∃ X3 : ByteArray, (⟨#[45, 32]⟩ ++ We ++ ⟨#[10]⟩ : ByteArray) = X3 := ⟨_, rfl⟩
          rw [hX3] at hXn hLe
          have HXn := hid0 hXn
          have HLe3 := hid0 hLe
          clear HXt HXf hXn hLe HLe
          go_wp2_with (first
            | (go_at_call 49; refine HWr.out.mono ?_; rintro e2 w5 ⟨rfl, hb5⟩; have HB5 := hid0 (Below.later HBB.out hb5); have HBl5 := hid0 (bl_later HBlB.out hb5); clear hb5)
            | (go_at_call 27; refine (writeString_any _ _ bs X3 w5 HBl5.out HLe3.out HB5.out.size).mono ?_; rintro e2 w6 ⟨rfl, h1, h2, h3⟩; have HB6 := hid0 (HB5.out.trans h2); have HBl6 : Hid (Bl w0.heap.size (w.heap.size + 1) (Lib.byteCells (sdT s (k + 1))) w6) := hid0 (.inr (by rw [← HXn.out]; exact h1)); clear h1 h2 h3)
            | fail)
          go_roundw
          case rel => exact ⟨k + 1, by omega, by go_num, HBl6, HB6⟩
          case measure => simp [intOf]; omega
      · have hkI : ¬ (k : Int) < (s.ed.length : Int) := by omega
        have HS := hid0 (Any.Builder_String_any_k Tryz.lays169 ext169 w0.heap.size (w.heap.size + 1) (sdT s k) wr (Lib.IsBuilderF.of HBl.out) HBr.out.size)
        have HE : Hid (sdT s k = secB s) := hid0 (by rw [secB_hd]; unfold sdT; rw [List.take_of_length_le (by omega)])
        rw [HE.out] at HS
        have HS2 : Hid (Calls Tryz.prog 30 #[.pointer (some ⟨w.heap.size + 1, 0, none⟩)] wr fun e w' => e = .returned (.string Y) ∧ Below w0.heap.size wr w') := hid0 (by rw [HY.out]; exact HS.out.mono (fun e w' h => ⟨h.1, h.2.2.1⟩))
        clear HS HBl
        go_wp2_with (go_at_call 30; refine HS2.out.mono ?_; rintro e2 w7 ⟨rfl, hb7⟩)
        go_ret
        exact ⟨rfl, Below.later HB0.out (HBr.out.trans hb7)⟩
  | false =>
    have M1 : Hid True := trivial
    have hy1 : ¬ 9223372036854775807 < 1 + s.loc.size := by omega
    have hy2 : ¬ 9223372036854775807 < 1 + s.loc.size + 2 := by omega
    go_enter Tryz.func28, Tryz.ntmps28
    have hpz : s.par.size ≤ 64 := by have := tag_len (HOk.out.par hp); rw [bsize] at this; exact this
    have hy3 : ¬ 9223372036854775807 < 7 + s.par.size := by omega
    have hy4 : ¬ 9223372036854775807 < 7 + s.par.size + 1 := by omega
    have HL2 : Hid (([] ++ Lib.strCells X1).length + (⟨#[112, 97, 114, 101, 110, 116, 32]⟩ ++ s.par ++ ⟨#[10]⟩ : ByteArray).size ≤ 140737488355328) := hid0 (by
      have h1 := HS1.out
      have z7 : (⟨#[112, 97, 114, 101, 110, 116, 32]⟩ : ByteArray).size = 7 := rfl
      have z1 : (⟨#[10]⟩ : ByteArray).size = 1 := rfl
      rw [List.nil_append, Lib.strCells_length, ByteArray.size_append (a := ⟨#[112, 97, 114, 101, 110, 116, 32]⟩ ++ s.par), ByteArray.size_append (a := ⟨#[112, 97, 114, 101, 110, 116, 32]⟩), z7, z1]
      omega)
    obtain ⟨X2, hX2⟩ : ∃ X2 : ByteArray, (⟨#[112, 97, 114, 101, 110, 116, 32]⟩ ++ s.par ++ ⟨#[10]⟩ : ByteArray) = X2 := ⟨_, rfl⟩
    rw [hX2] at HL2
    have HX2c : Hid (Lib.strCells X2 = Lib.strCells ⟨#[112, 97, 114, 101, 110, 116, 32]⟩ ++ Lib.strCells s.par ++ Lib.strCells ⟨#[10]⟩) := hid0 (by rw [← hX2, strCells_app, strCells_app])
    go_wp2_with (first
      | (go_at_call 27; clear M1; refine (writeString_any _ _ [] X1 wA HBlA.out HL1.out hszA).mono ?_; rintro e2 w1 ⟨rfl, h1, h2, h3⟩; have HB1 := hid0 (HBA.out.trans h2); obtain ⟨y0, y1, y2⟩ := HX.out w1 HB1.out; have HBl1 : Hid (Bl w0.heap.size (w.heap.size + 1) ([] ++ Lib.strCells X1) w1) := hid0 (.inr h1); clear h1 h2 h3)
      | (go_at_call 27; refine (writeString_any _ _ _ X2 w1 HBl1.out HL2.out HB1.out.size).mono ?_; rintro e2 w2 ⟨rfl, h1, h2, h3⟩; have HB2 := hid0 (HB1.out.trans h2); obtain ⟨y0, y1, y2⟩ := HX.out w2 HB2.out; have HBl2 : Hid (Bl w0.heap.size (w.heap.size + 1) ([] ++ Lib.strCells X1 ++ Lib.strCells X2) w2) := hid0 (.inr h1); clear h1 h2 h3)
      | fail)
    have HBZ := HB2
    have HBlZ : Hid (Bl w0.heap.size (w.heap.size + 1) (Lib.byteCells (sdT s 0)) w2) := hid0 (by
      have h := HBl2.out
      rw [HX1c.out, HX2c.out] at h
      have e : Lib.byteCells (sdT s 0) = [] ++ (Lib.strCells ⟨#[91]⟩ ++ Lib.strCells s.loc ++ Lib.strCells ⟨#[93, 10]⟩) ++ (Lib.strCells ⟨#[112, 97, 114, 101, 110, 116, 32]⟩ ++ Lib.strCells s.par ++ Lib.strCells ⟨#[10]⟩) := by
        unfold sdT hdB
        rw [if_neg (by rw [par_nil] at hp; exact of_decide_eq_false hp)]
        simp [Lib.byteCells, Lib.strCells]
      rw [e]
      exact h)
    clear HBl1 HB1 HBl2 HB2 HBlA HBA
    go_loopw [23] (fun i wr => ∃ k : Nat, k ≤ s.ed.length ∧ i = .int .i64 (k : Int) ∧ Hid (Bl w0.heap.size (w.heap.size + 1) (Lib.byteCells (sdT s k)) wr) ∧ Hid (Below w0.heap.size w0 wr)) (fun i _ => s.ed.length - (intOf i).toNat)
    case atStart => exact ⟨0, Nat.zero_le _, rfl, HBlZ, HBZ⟩
    case round =>
      clear HBlZ HBZ
      obtain ⟨k, hk, rfl, HBl, HBr⟩ := hrel
      by_cases hlt : k < s.ed.length
      · have hkI : (k : Int) < (s.ed.length : Int) := by omega
        have hkI0 : (0 : Int) ≤ (k : Int) := by omega
        obtain ⟨b, off, rfl, hbl, c0, c1⟩ := (HEv.out wr HBr.out).2.2.at' k hlt
        have HEn : Hid (entF s.ed[k].2.data.toList = none) := hid0 (HOk.out.ent _ (List.getElem_mem hlt))
        have HEz : Hid (s.ed[k].2.size ≤ 4194400) := hid0 (HZ.out _ (List.getElem_mem hlt))
        have HMo : Hid (Lib.byteCells (sdT s k) ++ Lib.byteCells (wrX s.ed[k]) = Lib.byteCells (sdT s (k + 1))) := hid0 (by rw [sdT_more s k hlt, bytes_app])
        have HLn : Hid ((Lib.byteCells (sdT s k)).length ≤ 4000000) := hid0 (by rw [Lib.byteCells_length]; exact sdT_len HOk.out k (by omega))
        generalize Lib.byteCells (sdT s k) = bs at *
        generalize s.ed[k] = ed at *
        obtain ⟨x, e⟩ := ed
        simp only at c0 c1 HEn HEz HMo
        obtain ⟨wB, hwB⟩ : ∃ wB, wB = wr.alloc (.cells #[.bool x, .string e] 32) := ⟨_, rfl⟩
        have hbB : Below wr.heap.size wr wB := by rw [hwB]; exact (Below.refl _ _).alloc (Nat.le_refl _) _
        have hrB : wB.heap[wr.heap.size]? = some (.cells #[.bool x, .string e] 32 (0, 0)) := by rw [hwB]; exact heap_alloc_new wr _
        have d0 : wB.cell? ⟨wr.heap.size, 0, none⟩ = some (.bool x) := by rw [cell_of_row _ _ _ _ _ _ hrB]; rfl
        have d1 : wB.cell? ⟨wr.heap.size, 1, none⟩ = some (.string e) := by rw [cell_of_row _ _ _ _ _ _ hrB]; rfl
        have HBB : Hid (Below w0.heap.size w0 wB) := hid0 (HBr.out.trans (hbB.mono HBr.out.size))
        have HBlB := hid0 (bl_later HBl.out hbB)
        have HWr := hid0 (writtenEntry_any e HEz.out HEn.out wB (HEv.out wB HBB.out).1 (HEv.out wB HBB.out).2.1)
        have HWl : Hid ((strOf (wrE e.data.toList)).size ≤ 192) := hid0 (by rw [strOf_size]; exact wrE_len HEn.out)
        have HXt : Hid (x = true → bs ++ Lib.strCells (⟨#[43, 32]⟩ ++ strOf (wrE e.data.toList) ++ ⟨#[10]⟩) = Lib.byteCells (sdT s (k + 1))) := hid0 (fun hx => by
          rw [← HMo.out, strCells_app, strCells_app, strCells_strOf]
          unfold wrX
          simp only
          rw [if_pos hx, bytes_app, bytes_app]
          rfl)
        have HXf : Hid (x = false → bs ++ Lib.strCells (⟨#[45, 32]⟩ ++ strOf (wrE e.data.toList) ++ ⟨#[10]⟩) = Lib.byteCells (sdT s (k + 1))) := hid0 (fun hx => by
          rw [← HMo.out, strCells_app, strCells_app, strCells_strOf]
          unfold wrX
          simp only
          rw [if_neg (by rw [hx]; simp), bytes_app, bytes_app]
          rfl)
        have HLe : Hid (∀ g : ByteArray, g.size = 2 → bs.length + (g ++ strOf (wrE e.data.toList) ++ ⟨#[10]⟩).size ≤ 140737488355328) := hid0 (fun g hg => by
          have h1 := HLn.out
          have h2 := HWl.out
          have z1 : (⟨#[10]⟩ : ByteArray).size = 1 := rfl
          rw [ByteArray.size_append, ByteArray.size_append, hg, z1]
          omega)
        have hfB := hwB.symm
        generalize strOf (wrE e.data.toList) = We at *
        have hz1 : ¬ 9223372036854775807 < 2 + We.size := by have := HWl.out; omega
        have hz2 : ¬ 9223372036854775807 < 2 + We.size + 1 := by have := HWl.out; omega
        clear hwB hbB hrB HBl HMo HEn HEz HBr hbl
        cases x with
        | true =>
          have hXn := HXt.out rfl
          have hLe := HLe.out ⟨#[43, 32]⟩ rfl
          obtain ⟨X3, hX3⟩ : ∃ X3 : ByteArray, (⟨#[43, 32]⟩ ++ We ++ ⟨#[10]⟩ : ByteArray) = X3 := ⟨_, rfl⟩
          rw [hX3] at hXn hLe
          have HXn := hid0 hXn
          have HLe3 := hid0 hLe
          clear HXt HXf hXn hLe HLe
          go_wp2_with (first
            | (go_at_call 49; refine HWr.out.mono ?_; rintro e2 w5 ⟨rfl, hb5⟩; have HB5 := hid0 (Below.later HBB.out hb5); have HBl5 := hid0 (bl_later HBlB.out hb5); clear hb5)
            | (go_at_call 27; refine (writeString_any _ _ bs X3 w5 HBl5.out HLe3.out HB5.out.size).mono ?_; rintro e2 w6 ⟨rfl, h1, h2, h3⟩; have HB6 := hid0 (HB5.out.trans h2); have HBl6 : Hid (Bl w0.heap.size (w.heap.size + 1) (Lib.byteCells (sdT s (k + 1))) w6) := hid0 (.inr (by rw [← HXn.out]; exact h1)); clear h1 h2 h3)
            | fail)
          go_roundw
          case rel => exact ⟨k + 1, by omega, by go_num, HBl6, HB6⟩
          case measure => simp [intOf]; omega
        | false =>
          have hXn := HXf.out rfl
          have hLe := HLe.out ⟨#[45, 32]⟩ rfl
          obtain ⟨X3, hX3⟩ : ∃ X3 : ByteArray, (⟨#[45, 32]⟩ ++ We ++ ⟨#[10]⟩ : ByteArray) = X3 := ⟨_, rfl⟩
          rw [hX3] at hXn hLe
          have HXn := hid0 hXn
          have HLe3 := hid0 hLe
          clear HXt HXf hXn hLe HLe
          go_wp2_with (first
            | (go_at_call 49; refine HWr.out.mono ?_; rintro e2 w5 ⟨rfl, hb5⟩; have HB5 := hid0 (Below.later HBB.out hb5); have HBl5 := hid0 (bl_later HBlB.out hb5); clear hb5)
            | (go_at_call 27; refine (writeString_any _ _ bs X3 w5 HBl5.out HLe3.out HB5.out.size).mono ?_; rintro e2 w6 ⟨rfl, h1, h2, h3⟩; have HB6 := hid0 (HB5.out.trans h2); have HBl6 : Hid (Bl w0.heap.size (w.heap.size + 1) (Lib.byteCells (sdT s (k + 1))) w6) := hid0 (.inr (by rw [← HXn.out]; exact h1)); clear h1 h2 h3)
            | fail)
          go_roundw
          case rel => exact ⟨k + 1, by omega, by go_num, HBl6, HB6⟩
          case measure => simp [intOf]; omega
      · have hkI : ¬ (k : Int) < (s.ed.length : Int) := by omega
        have HS := hid0 (Any.Builder_String_any_k Tryz.lays169 ext169 w0.heap.size (w.heap.size + 1) (sdT s k) wr (Lib.IsBuilderF.of HBl.out) HBr.out.size)
        have HE : Hid (sdT s k = secB s) := hid0 (by rw [secB_hd]; unfold sdT; rw [List.take_of_length_le (by omega)])
        rw [HE.out] at HS
        have HS2 : Hid (Calls Tryz.prog 30 #[.pointer (some ⟨w.heap.size + 1, 0, none⟩)] wr fun e w' => e = .returned (.string Y) ∧ Below w0.heap.size wr w') := hid0 (by rw [HY.out]; exact HS.out.mono (fun e w' h => ⟨h.1, h.2.2.1⟩))
        clear HS HBl
        go_wp2_with (go_at_call 30; refine HS2.out.mono ?_; rintro e2 w7 ⟨rfl, hb7⟩)
        go_ret
        exact ⟨rfl, Below.later HB0.out (HBr.out.trans hb7)⟩
end Go.Proofs.YtpkfcadihgbleaaGreatDoor
namespace Go.Proofs.YtpkfcadihgbleaaGreatDoor
open Go.RowKit Go.Shelf Go.Lib
/-- What Print answers: the refusal's number, or the bytes. -/
def prtF (L : List Sec) : Option Nat × List UInt8 := match chkE entE L with
  | some i => (some i, [])
  | none => if 1048576 < (prB L).length then (some 2, []) else (none, prB L)
set_option maxRecDepth 10000 in
theorem len_any (B b : Nat) (bs : List Value) (w : World) (h : Bl B b bs w) : Calls Tryz.prog 29 #[.pointer (some ⟨b, 0, none⟩)] w fun e w' => e = .returned (.int .i64 (bs.length : Int)) ∧ w' = w := by
  have key : ∀ p, Lib.BuilderAt 60 5 B b p bs w → ∃ a c, w.cell? ⟨b, 1, none⟩ = some (.slice a bs.length c) := fun p ⟨h1, v, h2, h3, h4⟩ => by
    obtain ⟨a, c, rfl⟩ := row_form h3
    exact ⟨a, c, by rw [cell_of_row _ _ _ _ _ _ h2]; rfl⟩
  obtain ⟨a, c, h1⟩ : ∃ a c, w.cell? ⟨b, 1, none⟩ = some (.slice a bs.length c) := h.elim (key _) (key _)
  clear key h
  go_enter Tryz.func29, Tryz.ntmps29
  go_wp2
  go_ret
  exact ⟨rfl, rfl⟩
set_option maxRecDepth 10000 in
set_option maxHeartbeats 3200000 in
theorem print_any (A : Nat → Addr) (L : List Sec) (a : Option Addr) (c : Nat) (w : World) (hc : L.length ≤ c) (hb : ∀ s ∈ L, s.ed.length ≤ 140737488355328) (hz : ∀ s ∈ L, ∀ e ∈ s.ed, e.2.size ≤ 4194400) (hm : Mx w) (hQ : SeqAt w) (hT : DT w) (he : Sents w A) (ha : XA w a L) :
    Calls Tryz.prog 13 #[.agg #[.slice a L.length c]] w fun e w' => e = .returned (.tuple #[.string (strOf (prtF L).2), errO A (prtF L).1]) ∧ Below w.heap.size w w' := by
  obtain ⟨w0, hw0⟩ : ∃ w0, w0 = w.alloc (.cells #[.slice a L.length c] 24) := ⟨_, rfl⟩
  have hB0 : Below w.heap.size w w0 := by rw [hw0]; exact (Below.refl _ _).alloc (Nat.le_refl _) _
  have hs0 : w0.heap.size = w.heap.size + 1 := by rw [hw0]; simp
  have hX0 : w0.heap[w.heap.size]? = some (.cells #[.slice a L.length c] 24 (0, 0)) := by rw [hw0]; exact heap_alloc_new w _
  have HX : Hid (∀ W, Below w0.heap.size w0 W → W.cell? ⟨w.heap.size, 0, none⟩ = some (.slice a L.length c)) := hid0 (fun W hW => by
    have hr := (hW.block w.heap.size (by omega)).trans hX0
    rw [cell_of_row _ _ _ _ _ _ hr]; rfl)
  have HCk := hid0 (check_any entE A L a c w0 hc hb (hm.below hB0) (he.below hB0) (ha.later hB0) (fun s hs e hee => Nat.le_trans (hz s hs e hee) (by decide)) (fun x W hx hW => entry_any A x W hx ((hQ.later hB0).later hW) ((he.below hB0).below hW)))
  have HEv : Hid (∀ W, Below w0.heap.size w0 W → SeqAt W ∧ DT W ∧ XA W a L ∧ Sents W A) := hid0 (fun W hW => ⟨(hQ.later hB0).later hW, dt_later (dt_later hT hB0) hW, (ha.later hB0).later hW, (he.below hB0).below hW⟩)
  have HZ := hid0 hz
  have HB0 := hid0 hB0
  have x0 := HX.out w0 (Below.refl _ _)
  obtain ⟨R, hR⟩ : ∃ R, R = prtF L := ⟨_, rfl⟩
  rw [← hR]
  unfold prtF at hR
  have hf0 := hw0.symm
  clear hw0 hs0 hB0 hX0 hm hQ hT he ha hb hz
  cases hk : chkE entE L with
  | some i =>
    rw [hk] at HCk hR
    simp only [errO] at HCk
    simp only at hR
    subst hR
    have hse : strOf [] = (⟨#[]⟩ : ByteArray) := rfl
    simp only [errO, hse]
    go_enter Tryz.func13, Tryz.ntmps13
    go_wp2_with (go_at_call 16; refine HCk.out.mono ?_; rintro e w1 ⟨rfl, hb1⟩; have HB1 := hid0 (Below.later HB0.out hb1); clear hb1)
    go_ret2
    exact ⟨rfl, HB1.out⟩
  | none =>
    rw [hk] at HCk hR
    simp only [errO] at HCk
    simp only at hR
    obtain ⟨h500, h20k, hok⟩ := chk_ok (fun x => rfl) hk
    have HOk := hid0 hok
    have HPl : Hid (∀ k, (prB (L.take k)).length ≤ 4000000) := hid0 (fun k => prB_take h500 h20k hok k)
    have HEd : Hid (∀ s ∈ L, s.ed.length ≤ 20000) := hid0 (fun s hs => Nat.le_trans (ed_le hs) h20k)
    have HR := hid0 hR
    have M1 : Hid True := trivial
    clear hk hok hR
    go_enter Tryz.func13, Tryz.ntmps13
    go_wp2_with (go_at_call 16; clear M1; refine HCk.out.mono ?_; rintro e w1 ⟨rfl, hb1⟩; have HB1 := hid0 hb1; have x1 := HX.out w1 hb1; have x2 := HX.out (w1.alloc (.cells #[.pointer none, .slice none 0 0] 60)) (Below.later hb1 ((Below.refl _ _).alloc (Nat.le_refl _) _)); clear hb1 x0 hf0)
    have HBl1 : Hid (Bl w1.heap.size w1.heap.size (Lib.byteCells (prB (L.take 0))) (w1.alloc (.cells #[.pointer none, .slice none 0 0] 60))) := hid0 (by
      have h := Lib.fresh_isBuilder 60 5 w1
      simpa [prB, Lib.byteCells] using h)
    have HBA : Hid (Below w1.heap.size w1 (w1.alloc (.cells #[.pointer none, .slice none 0 0] 60))) := hid0 ((Below.refl _ _).alloc (Nat.le_refl _) _)
    clear x1 x2 HCk
    go_loopw [16] (fun i wr => ∃ k : Nat, k ≤ L.length ∧ i = .int .i64 (k : Int) ∧ Hid (Bl w1.heap.size w1.heap.size (Lib.byteCells (prB (L.take k))) wr) ∧ Hid (Below w1.heap.size w1 wr)) (fun i _ => L.length - (intOf i).toNat)
    case atStart => exact ⟨0, Nat.zero_le _, rfl, HBl1, HBA⟩
    case round =>
      clear HBl1 HBA
      obtain ⟨k, hkl, rfl, HBl, HBr⟩ := hrel
      by_cases hlt : k < L.length
      · have hkI : (k : Int) < (L.length : Int) := by omega
        have hkI0 : (0 : Int) ≤ (k : Int) := by omega
        have hB1r := Below.later HB1.out HBr.out
        obtain ⟨b, off, ae, ce, rfl, hbl, c0, c1, c2, hea⟩ := (HEv.out wr hB1r).2.2.1.at' k hlt
        have HMo : Hid (Lib.byteCells (prB (L.take k)) ++ Lib.byteCells (secB L[k]) = Lib.byteCells (prB (L.take (k + 1)))) := hid0 (by rw [prB_more L k hlt, bytes_app])
        have HLn : Hid ((Lib.byteCells (prB (L.take k))).length ≤ 4000000) := hid0 (by rw [Lib.byteCells_length]; exact HPl.out k)
        have HLm : Hid ((secB L[k]).length ≤ 4000000) := hid0 (by have h1 := HPl.out (k + 1); rw [prB_more L k hlt, List.length_append] at h1; omega)
        have hokk := HOk.out L[k] (List.getElem_mem hlt)
        have hedk := HEd.out L[k] (List.getElem_mem hlt)
        have hzk := HZ.out L[k] (List.getElem_mem hlt)
        generalize Lib.byteCells (prB (L.take k)) = bs at *
        generalize L[k] = s at *
        obtain ⟨wB, hwB⟩ : ∃ wB, wB = wr.alloc (.cells #[.string s.loc, .string s.par, .slice ae s.ed.length ce] 30) := ⟨_, rfl⟩
        have hbB : Below wr.heap.size wr wB := by rw [hwB]; exact (Below.refl _ _).alloc (Nat.le_refl _) _
        have hrB : wB.heap[wr.heap.size]? = some (.cells #[.string s.loc, .string s.par, .slice ae s.ed.length ce] 30 (0, 0)) := by rw [hwB]; exact heap_alloc_new wr _
        have d0 : wB.cell? ⟨wr.heap.size, 0, none⟩ = some (.string s.loc) := by rw [cell_of_row _ _ _ _ _ _ hrB]; rfl
        have d1 : wB.cell? ⟨wr.heap.size, 1, none⟩ = some (.string s.par) := by rw [cell_of_row _ _ _ _ _ _ hrB]; rfl
        have d2 : wB.cell? ⟨wr.heap.size, 2, none⟩ = some (.slice ae s.ed.length ce) := by rw [cell_of_row _ _ _ _ _ _ hrB]; rfl
        have HBB : Hid (Below w1.heap.size w1 wB) := hid0 (HBr.out.trans (hbB.mono HBr.out.size))
        have HBlB := hid0 (bl_later HBl.out hbB)
        have hEB := HEv.out wB (Below.later HB1.out HBB.out)
        have HWS := hid0 (writtenSection_any s ae ce wB hedk hzk hokk hEB.1 hEB.2.1 (hea.later hbB))
        have HSz : Hid ((strOf (secB s)).size ≤ 4000000) := hid0 (by rw [strOf_size]; exact HLm.out)
        have HXn : Hid (bs ++ Lib.strCells (strOf (secB s)) = Lib.byteCells (prB (L.take (k + 1)))) := hid0 (by rw [← HMo.out, strCells_strOf])
        have hfB := hwB.symm
        generalize strOf (secB s) = Ws at *
        clear hwB hbB hrB HBl HBr HMo HLm hokk hzk hEB hea hB1r hbl
        go_wp2_with (first
          | (go_at_call 28; refine HWS.out.mono ?_; rintro e2 w5 ⟨rfl, hb5⟩; have HB5 := hid0 (Below.later HBB.out hb5); have HBl5 := hid0 (bl_later HBlB.out hb5); clear hb5)
          | (go_at_call 27; refine (writeString_any _ _ bs Ws w5 HBl5.out (by have h1 := HLn.out; have h2 := HSz.out; omega) HB5.out.size).mono ?_; rintro e2 w6 ⟨rfl, h1, h2, h3⟩; have HB6 := hid0 (HB5.out.trans h2); have HBl6 : Hid (Bl w1.heap.size w1.heap.size (Lib.byteCells (prB (L.take (k + 1)))) w6) := hid0 (.inr (by rw [← HXn.out]; exact h1)); clear h1 h2 h3)
          | fail)
        go_roundw
        case rel => exact ⟨k + 1, by omega, by go_num, HBl6, HB6⟩
        case measure => simp [intOf]; omega
      · have hkI : ¬ (k : Int) < (L.length : Int) := by omega
        have HE : Hid (prB (L.take k) = prB L) := hid0 (by rw [List.take_of_length_le (by omega)])
        have HLe := hid0 (len_any _ _ _ wr HBl.out)
        have HLl : Hid (((Lib.byteCells (prB (L.take k))).length : Int) = ((prB L).length : Int)) := hid0 (by rw [Lib.byteCells_length, HE.out])
        rw [HLl.out] at HLe
        have HS := hid0 (Any.Builder_String_any_k Tryz.lays169 ext169 w1.heap.size w1.heap.size (prB (L.take k)) wr (Lib.IsBuilderF.of HBl.out) HBr.out.size)
        rw [HE.out] at HS
        have HS2 : Hid (Calls Tryz.prog 30 #[.pointer (some ⟨w1.heap.size, 0, none⟩)] wr fun e w' => e = .returned (.string (strOf (prB L))) ∧ Below w1.heap.size wr w') := hid0 (HS.out.mono (fun e w' h => ⟨h.1, h.2.2.1⟩))
        have HBF := hid0 (Below.later HB0.out (Below.later HB1.out HBr.out))
        have hrm := (HEv.out wr (Below.later HB1.out HBr.out)).2.2.2.c2
        clear HS HBl HLl
        by_cases hbig : 1048576 < (prB L).length
        · have hbI : (1048576 : Int) < ((prB L).length : Int) := by omega
          have hR2 : R = (some 2, []) := by rw [HR.out, if_pos hbig]
          subst hR2
          have HD : Hid (∀ q, Below w.heap.size w (wr.drewN q)) := hid0 (fun q => Below.later HBF.out ⟨rfl, rfl, rfl, Nat.le_refl _, fun _ _ => rfl⟩)
          have hse : strOf [] = (⟨#[]⟩ : ByteArray) := rfl
          clear hbig
          generalize (prB L).length = np at *
          go_wp2_with (go_at_call 29; refine HLe.out.mono ?_; rintro e2 w7 ⟨rfl, hw7⟩; have hw7' := hw7.symm; subst hw7'; clear hw7)
          go_quiet ((fail))
          go_wp2
          go_ret2
          exact ⟨rfl, HD.out _⟩
        · have hbI : ¬ (1048576 : Int) < ((prB L).length : Int) := by omega
          have hR2 : R = (none, prB L) := by rw [HR.out, if_neg hbig]
          subst hR2
          clear hbig
          generalize (prB L).length = np at *
          have HB1' := hid0 (Below.later HB0.out HB1.out)
          go_wp2_with (first
            | (go_at_call 29; refine HLe.out.mono ?_; rintro e2 w7 ⟨rfl, hw7⟩; have hw7' := hw7.symm; subst hw7'; clear hw7)
            | (go_at_call 30; refine HS2.out.mono ?_; rintro e2 w8 ⟨rfl, hb8⟩)
            | fail)
          go_ret2
          exact ⟨rfl, Below.later HB1'.out (HBr.out.trans hb8)⟩
end Go.Proofs.YtpkfcadihgbleaaGreatDoor
namespace Go.Proofs.YtpkfcadihgbleaaGreatDoor
open Go.RowKit Go.Shelf Go.Lib
/-- The document's number of a refusal. -/
def numO : Option Nat → Int
  | none => 0
  | some i => refNo i
/-- Units in memory. -/
structure UA (w : World) (a : Option Addr) (L : List (Int × Nat × Nat)) : Prop where
  at' : ∀ k (h : k < L.length), ∃ b off, a = some ⟨b, off, none⟩ ∧ w.cell? ⟨b, off + k * 3, none⟩ = some (.int .i64 L[k].1)
theorem cellsU_at (us : List (Int × Nat × Nat)) : ∀ (k : Nat) (h : k < us.length), (cellsU us)[k * 3]? = some (.int .i64 us[k].1) := by
  induction us with
  | nil => intro k h; simp at h
  | cons u us ih =>
    intro k h
    have e : cellsU (u :: us) = .int .i64 u.1 :: .int .i64 (u.2.1 : Int) :: .int .i64 (u.2.2 : Int) :: cellsU us := by simp [cellsU]
    cases k with
    | zero => rw [e]; simp
    | succ k =>
      rw [e, show (k + 1) * 3 = k * 3 + 1 + 1 + 1 by omega]
      simpa using ih k (by simpa using h)
theorem OwnU.ua {w : World} {base : Nat} {v : Value} {us : List (Int × Nat × Nat)} (h : OwnU w base v us) : ∃ a cap, v = .slice a us.length cap ∧ UA w a us := by
  have h0 := h
  rcases h.2 with ⟨rfl, hn⟩ | ⟨g, cap, cur, rfl, _⟩
  · have : us = [] := List.length_eq_zero_iff.1 hn
    subst this
    exact ⟨none, 0, rfl, ⟨fun k h => absurd h (Nat.not_lt_zero _)⟩⟩
  · refine ⟨_, cap, rfl, ⟨fun k hk => ⟨g, 0, rfl, ?_⟩⟩⟩
    rw [Nat.zero_add, World.ownsRow.cellAt h0 (k * 3) (by omega)]
    exact cellsU_at us k hk
theorem entF_one {l : List UInt8} (h : (unitsOf l).length = 0) : entF l = some 1 := by
  unfold entF
  rw [if_pos h]
  split <;> rfl
theorem entF_bad {l : List UInt8} {k : Nat} (h : k < (unitsOf l).length) (hb : (unitsOf l)[k].1 = -1) : entF l = some 1 := by
  unfold entF
  rw [if_pos (List.any_eq_true.2 ⟨_, List.getElem_mem h, by simp [hb]⟩)]
theorem entF_rest {l : List UInt8} (h0 : (unitsOf l).length ≠ 0) (hn : ∀ k (h : k < (unitsOf l).length), (unitsOf l)[k].1 ≠ -1) : entF l = if 32 < (unitsOf l).length then some 2 else none := by
  unfold entF
  rw [if_neg, if_neg h0]
  rw [List.any_eq_true]
  rintro ⟨u, hu, e⟩
  obtain ⟨k, hk, rfl⟩ := List.getElem_of_mem hu
  exact hn k hk (by simpa using e)
set_option maxRecDepth 10000 in
set_option maxHeartbeats 1600000 in
theorem refEntry_any (s : ByteArray) (hs : s.size ≤ 4194400) (w : World) :
    Calls Tryz.prog 46 #[.string s] w fun e w' => e = .returned (.int .i64 (numO (entF s.data.toList))) ∧ Below w.heap.size w w' := by
  have HS := hid0 (refSplit_any s hs w)
  have hll : s.data.toList.length = s.size := by simp
  have hul : (unitsOf s.data.toList).length ≤ s.data.toList.length := units_len _ _ 0 (Nat.le_refl _)
  have hlb : (unitsOf s.data.toList).length ≤ 4194400 := by omega
  have HE1 := hid0 (fun h => entF_one (l := s.data.toList) h)
  have HE2 := hid0 (fun k h hb => entF_bad (l := s.data.toList) (k := k) h hb)
  have HE3 := hid0 (fun h0 hn => entF_rest (l := s.data.toList) h0 hn)
  clear hll hul
  obtain ⟨N, hN⟩ : ∃ N, N = numO (entF s.data.toList) := ⟨_, rfl⟩
  have HN := hid0 hN
  rw [← hN]
  clear hN
  generalize unitsOf s.data.toList = us at *
  by_cases h0 : us.length = 0
  · have h0I : (us.length : Int) = 0 := by omega
    have HV : Hid (N = 2) := hid0 (by rw [HN.out, HE1.out h0]; rfl)
    clear HE1 HE2 HE3 HN
    go_enter Tryz.func46, Tryz.ntmps46
    go_wp2_with (first
      | (go_at_call 66; refine HS.out.mono ?_; rintro e w1 ⟨v, rfl, hown, hb1⟩; obtain ⟨a, cap, rfl, _⟩ := hown.ua; have HB1 := hid0 hb1; clear hb1 hown h0)
      | fail)
    go_ret
    exact ⟨by rw [HV.out]; rfl, HB1.out⟩
  · have h0I : ¬ (us.length : Int) = 0 := by omega
    go_enter Tryz.func46, Tryz.ntmps46
    go_wp2_with (first
      | (go_at_call 66; refine HS.out.mono ?_; rintro e w1 ⟨v, rfl, hown, hb1⟩; obtain ⟨a, cap, rfl, hua⟩ := hown.ua; have HB1 := hid0 hb1; have HUA := hid0 hua; clear hb1 hown hua HS)
      | fail)
    go_loop [4] (fun t => ∃ k : Nat, k ≤ us.length ∧ t = .int .i64 (k : Int) ∧ Hid (∀ j (h : j < us.length), j < k → us[j].1 ≠ -1)) (fun t => us.length - (intOf t).toNat)
    case atStart => exact ⟨0, Nat.zero_le _, rfl, hid0 (fun j _ h => absurd h (Nat.not_lt_zero _))⟩
    case round =>
      obtain ⟨k, hk, rfl, HK⟩ := hrel
      by_cases hlt : k < us.length
      · have hkI : (k : Int) < (us.length : Int) := by omega
        have hk0 : (0 : Int) ≤ (k : Int) := by omega
        obtain ⟨b, off, rfl, c0⟩ := HUA.out.at' k hlt
        by_cases hbad : us[k].1 = -1
        · have HV : Hid (N = 2) := hid0 (by rw [HN.out, HE2.out k hlt hbad]; rfl)
          rw [hbad] at c0
          clear HE1 HE2 HE3 HN HK
          go_wp2
          go_ret
          exact ⟨by rw [HV.out]; rfl, HB1.out⟩
        · have HK2 : Hid (∀ j (h : j < us.length), j < k + 1 → us[j].1 ≠ -1) := hid0 (fun j h hj => by
            by_cases e : j = k
            · subst e; exact hbad
            · exact HK.out j h (by omega))
          generalize us[k].1 = p at *
          go_wp2
          go_round
          case rel => exact ⟨k + 1, by omega, by go_num, HK2⟩
          case measure => simp [intOf]; omega
      · have hkI : ¬ (k : Int) < (us.length : Int) := by omega
        have HF := hid0 (HE3.out h0 (fun j h => HK.out j h (by omega)))
        clear HE1 HE2 HE3 HK HUA
        by_cases h3 : 32 < us.length
        · have h3I : (32 : Int) < (us.length : Int) := by omega
          have HV : Hid (N = 3) := hid0 (by rw [HN.out, HF.out, if_pos h3]; rfl)
          go_wp2
          go_ret
          exact ⟨by rw [HV.out]; rfl, HB1.out⟩
        · have h3I : ¬ (32 : Int) < (us.length : Int) := by omega
          have HV : Hid (N = 0) := hid0 (by rw [HN.out, HF.out, if_neg h3]; rfl)
          go_wp2
          go_ret
          exact ⟨by rw [HV.out]; rfl, HB1.out⟩
end Go.Proofs.YtpkfcadihgbleaaGreatDoor
namespace Go.Proofs.YtpkfcadihgbleaaGreatDoor
open Go.RowKit Go.Shelf Go.Lib
theorem strOf_eq (c : List UInt8) (s : ByteArray) : (strOf c).toList == s.toList ↔ c = s.data.toList := by
  rw [str_eq, decide_eq_true_eq]
  constructor
  · rintro rfl; rw [strOf_data]
  · rintro rfl; simp [strOf]
set_option maxRecDepth 10000 in
set_option maxHeartbeats 400000 in
theorem canonical_any (s : ByteArray) (w : World) : Calls Tryz.prog 68 #[.string s] w fun e w' => e = .returned (.bool (isTagB s)) ∧ Below w.heap.size w w' := by
  have HT := hid0 (refTag_any s w)
  obtain ⟨q, hq⟩ : ∃ q, q = isTagB s := ⟨_, rfl⟩
  rw [← hq]
  unfold isTagB at hq
  cases ht : tagF s.data.toList with
  | none =>
    rw [ht] at HT hq
    simp only [tagV] at HT
    have HV : Hid (q = false) := hid0 (by rw [hq]; simp)
    clear hq ht
    go_enter Tryz.func68, Tryz.ntmps68
    go_wp2_with (first
      | (go_at_call 95; refine HT.out.mono ?_; rintro e w1 ⟨rfl, hb1⟩; have HB1 := hid0 hb1; clear hb1)
      | fail)
    go_ret
    exact ⟨by rw [HV.out]; rfl, HB1.out⟩
  | some c =>
    rw [ht] at HT hq
    simp only [tagV] at HT
    have he := strOf_eq c s
    have HV : Hid (q = ((strOf c).toList == s.toList)) := hid0 (by
      rw [hq, Bool.eq_iff_iff, decide_eq_true_eq, Option.some.injEq]
      exact he.symm)
    clear hq ht he
    generalize strOf c = C at *
    generalize hd : (C.toList == s.toList) = d at *
    go_enter Tryz.func68, Tryz.ntmps68
    go_wp2_with (first
      | (go_at_call 95; refine HT.out.mono ?_; rintro e w1 ⟨rfl, hb1⟩; have HB1 := hid0 hb1; clear hb1)
      | fail)
    go_ret
    exact ⟨by rw [HV.out]; rfl, HB1.out⟩
end Go.Proofs.YtpkfcadihgbleaaGreatDoor
namespace Go.Proofs.YtpkfcadihgbleaaGreatDoor
open Go.RowKit Go.Shelf Go.Lib
/-- What is wrong with a section but its edits. -/
def secP (s : Sec) (ahead : List Sec) : Option Nat :=
  if isTagB s.loc = false then some 1 else if hasL ahead s.loc = true then some 4 else if (s.par.toList == []) = false ∧ isTagB s.par = false then some 1
  else if (s.par.toList == []) = false ∧ (s.loc.toList == [114, 111, 111, 116]) = true then some 0 else none
theorem secE_eq (E : ByteArray → Option Nat) (s : Sec) (ahead : List Sec) : secE E s ahead = match secP s ahead with
    | some i => some i
    | none => firstN (fE E s.ed) 0 s.ed.length := by
  unfold secE secP
  repeat' split
  all_goals first | rfl | simp_all
theorem hasL_take_no {L : List Sec} {i : Nat} (hi : i ≤ L.length) {t : ByteArray} (h : ∀ j (h : j < L.length), j < i → L[j].loc ≠ t) : hasL (L.take i) t = false := by
  rw [Bool.eq_false_iff]
  intro hh
  obtain ⟨k, hk, e⟩ := (hasL_iff _ t).1 hh
  rw [List.length_take] at hk
  rw [List.getElem_take] at e
  exact h k (by omega) (by omega) e
theorem hasL_take_yes {L : List Sec} {i k : Nat} (hi : i ≤ L.length) {t : ByteArray} (hk : k < i) (e : (L[k]'(by omega)).loc = t) : hasL (L.take i) t = true :=
  (hasL_iff _ t).2 ⟨k, by rw [List.length_take]; omega, by rw [List.getElem_take]; exact e⟩
set_option maxRecDepth 10000 in
set_option maxHeartbeats 3200000 in
theorem refSec_any (L : List Sec) (a : Option Addr) (c i : Nat) (hi : i < L.length) (hl : L.length ≤ 1000000) (w : World) (ha : XA w a L) :
    Calls Tryz.prog 45 #[.agg #[.slice a L.length c], .int .i64 (i : Int)] w fun e w' => e = .returned (.int .i64 (numO (secP L[i] (L.take i)))) ∧ Below w.heap.size w w' := by
  obtain ⟨b, off, ae, ce, rfl, hbl, s0, s1, s2, _⟩ := ha.at' i hi
  obtain ⟨wa, hwa⟩ : ∃ wa, wa = w.alloc (.cells #[.slice (some ⟨b, off, none⟩) L.length c] 24) := ⟨_, rfl⟩
  obtain ⟨wb, hwb⟩ : ∃ wb, wb = wa.alloc (.cells #[.string L[i].loc, .string L[i].par, .slice ae L[i].ed.length ce] 30) := ⟨_, rfl⟩
  have sa : wa.heap.size = w.heap.size + 1 := by rw [hwa]; simp
  have b0a : Below w.heap.size w wa := by rw [hwa]; exact (Below.refl _ _).alloc (Nat.le_refl _) _
  have bab : Below wa.heap.size wa wb := by rw [hwb]; exact (Below.refl _ _).alloc (Nat.le_refl _) _
  have b0b : Below w.heap.size w wb := Below.later b0a bab
  have r0a : wa.heap[w.heap.size]? = some (.cells #[.slice (some ⟨b, off, none⟩) L.length c] 24 (0, 0)) := by rw [hwa]; exact heap_alloc_new w _
  have r0 : wb.heap[w.heap.size]? = some (.cells #[.slice (some ⟨b, off, none⟩) L.length c] 24 (0, 0)) := (bab.block _ (by omega)).trans r0a
  have r1 : wb.heap[w.heap.size + 1]? = some (.cells #[.string L[i].loc, .string L[i].par, .slice ae L[i].ed.length ce] 30 (0, 0)) := by rw [hwb, ← sa]; exact heap_alloc_new wa _
  have a0 : wa.cell? ⟨w.heap.size, 0, none⟩ = some (.slice (some ⟨b, off, none⟩) L.length c) := by rw [cell_of_row _ _ _ _ _ _ r0a]; rfl
  have a1 : wa.cell? ⟨b, off + i * 3, none⟩ = some (.string L[i].loc) := (b0a.cell (p := ⟨b, off + i * 3, none⟩) hbl).trans s0
  have a2 : wa.cell? ⟨b, off + i * 3 + 1, none⟩ = some (.string L[i].par) := (b0a.cell (p := ⟨b, off + i * 3 + 1, none⟩) hbl).trans s1
  have a3 : wa.cell? ⟨b, off + i * 3 + 2, none⟩ = some (.slice ae L[i].ed.length ce) := (b0a.cell (p := ⟨b, off + i * 3 + 2, none⟩) hbl).trans s2
  have HXW : Hid (∀ W, Below wb.heap.size wb W → W.cell? ⟨w.heap.size, 0, none⟩ = some (.slice (some ⟨b, off, none⟩) L.length c) ∧ W.cell? ⟨w.heap.size + 1, 0, none⟩ = some (.string L[i].loc) ∧ W.cell? ⟨w.heap.size + 1, 1, none⟩ = some (.string L[i].par)) := hid0 (fun W hW => by
    have q0 := (hW.block _ (Array.getElem?_eq_some_iff.1 r0).1).trans r0
    have q1 := (hW.block _ (Array.getElem?_eq_some_iff.1 r1).1).trans r1
    exact ⟨by rw [cell_of_row _ _ _ _ _ _ q0]; rfl, by rw [cell_of_row _ _ _ _ _ _ q1]; rfl, by rw [cell_of_row _ _ _ _ _ _ q1]; rfl⟩)
  have HXA : Hid (∀ k (hk : k < L.length) W, Below wb.heap.size wb W → W.cell? ⟨b, off + k * 3, none⟩ = some (.string L[k].loc)) := hid0 (fun k hk W hW => by
    obtain ⟨b', off', _, _, e0, hbl', q0, _⟩ := ((ha.later b0b).later hW).at' k hk
    simp only [Option.some.injEq, Addr.mk.injEq, and_true] at e0
    obtain ⟨rfl, rfl⟩ := e0
    exact q0)
  have HC1 := hid0 (fun W => canonical_any L[i].loc W)
  have HC2 := hid0 (fun W => canonical_any L[i].par W)
  have HB0 := hid0 b0b
  have HBr := hid0 (Below.refl wb.heap.size wb)
  obtain ⟨x0, x1, x2⟩ := HXW.out wb (Below.refl _ _)
  subst hwa
  have HFb := hid0 hwb
  have hiI : (i : Int) < (L.length : Int) := by omega
  have hi0 : (0 : Int) ≤ (i : Int) := by omega
  have HTy := hid0 (fun (k : Nat) (hk : k < i) (e : (L[k]'(by omega)).loc = L[i].loc) => hasL_take_yes (Nat.le_of_lt hi) hk e)
  have HTn := hid0 (fun (h : ∀ j (h : j < L.length), j < i → L[j].loc ≠ L[i].loc) => hasL_take_no (Nat.le_of_lt hi) h)
  clear ha hwb sa b0a bab b0b r0a r0 r1 s0 s1 s2
  obtain ⟨N, hN⟩ : ∃ N, N = numO (secP L[i] (L.take i)) := ⟨_, rfl⟩
  rw [← hN]
  unfold secP at hN
  generalize L[i].loc = l at *
  generalize L[i].par = p at *
  generalize L[i].ed.length = n at *
  generalize hasL (L.take i) l = hh at *
  obtain ⟨q1, h1⟩ : ∃ q1, isTagB l = q1 := ⟨_, rfl⟩
  obtain ⟨q3, h3⟩ : ∃ q3, isTagB p = q3 := ⟨_, rfl⟩
  rw [h1] at HC1 hN
  rw [h3] at HC2 hN
  clear h1 h3
  have mk := hid0 True.intro
  cases q1 with
  | false =>
    simp only [if_true] at hN
    have HV := hid0 hN
    clear hN HTy HTn
    go_enter Tryz.func45, Tryz.ntmps45
    go_wp2_with (first
      | (go_at_call 68; refine (HC1.out _).mono ?_; rintro e w1 ⟨rfl, hb1⟩; have HB1 : Hid (Below wb.heap.size wb w1) := hid0 (by rw [HFb.out]; exact hb1); clear hb1)
      | fail)
    go_ret
    exact ⟨by rw [HV.out]; rfl, Below.later HB0.out HB1.out⟩
  | true =>
    simp only [Bool.true_eq_false, if_false] at hN
    have HN := hid0 hN
    clear hN
    go_enter Tryz.func45, Tryz.ntmps45
    go_wp2_with (first
      | (clear mk; go_at_call 68; refine (HC1.out _).mono ?_; rintro e w1 ⟨rfl, hb1⟩; have HB1 : Hid (Below wb.heap.size wb w1) := hid0 (by rw [HFb.out]; exact hb1); clear hb1)
      | fail)
    go_loopw [7] (fun v wr => ∃ k : Nat, k ≤ i ∧ v = .int .i64 (k : Int) ∧ Hid (∀ j (h : j < L.length), j < k → L[j].loc ≠ l) ∧ Hid (Below wb.heap.size wb wr)) (fun v _ => i - (intOf v).toNat)
    case atStart => exact ⟨0, Nat.zero_le _, rfl, hid0 (fun j _ h => absurd h (Nat.not_lt_zero _)), HB1⟩
    case round =>
      clear HB1 x0 x1 x2 a0 a1 a2 a3
      obtain ⟨k, hk, rfl, HK, HB⟩ := hrel
      obtain ⟨y0, y1, y2⟩ := HXW.out wr HB.out
      by_cases hlt : k < i
      · have hkI : (k : Int) < (i : Int) := by omega
        have hkL : (k : Int) < (L.length : Int) := by omega
        have hk0 : (0 : Int) ≤ (k : Int) := by omega
        have y3 := HXA.out k (by omega) wr HB.out
        have hse := str_eq (L[k]'(by omega)).loc l
        by_cases e : (L[k]'(by omega)).loc = l
        · have HV : Hid (N = 5) := hid0 (by rw [HN.out, HTy.out k hlt e]; rfl)
          rw [decide_eq_true e] at hse
          generalize (L[k]'(by omega)).loc = m at *
          clear HK HTy HTn HN e
          go_wp2
          go_region
          go_wp2
          go_ret
          exact ⟨by rw [HV.out]; rfl, Below.later HB0.out (by have := HB.out; go_grown)⟩
        · have HK2 : Hid (∀ j (h : j < L.length), j < k + 1 → L[j].loc ≠ l) := hid0 (fun j h hj => by
            by_cases q : j = k
            · subst q; exact e
            · exact HK.out j h (by omega))
          rw [decide_eq_false e] at hse
          generalize (L[k]'(by omega)).loc = m at *
          clear HK e
          go_wp2
          go_region
          go_wp2
          go_roundw
          case rel => exact ⟨k + 1, by omega, by go_num, HK2, hid0 (by have := HB.out; go_grown)⟩
          case measure => simp [intOf]; omega
      · have hkI : ¬ (k : Int) < (i : Int) := by omega
        have hno := HTn.out (fun j h hj => HK.out j h (by omega))
        have hN := HN.out
        rw [hno, if_neg (by simp)] at hN
        clear HK HTy HTn HN hno HXA
        cases hp : (p.toList == []) with
        | true =>
          rw [hp] at hN
          simp only [Bool.true_eq_false, false_and, if_false] at hN
          have HV := hid0 hN
          clear hN
          go_wp2_with (first
            | (go_at_call 68; refine (HC2.out _).mono ?_; rintro e w3 ⟨rfl, hb3⟩; have HB3 := hid0 (Below.later HB.out hb3); obtain ⟨z0, z1, z2⟩ := HXW.out w3 HB3.out; clear hb3)
            | fail)
          go_ret
          exact ⟨by rw [HV.out]; rfl, Below.later HB0.out HB3.out⟩
        | false =>
          rw [hp] at hN
          simp only [true_and] at hN
          cases q3 with
          | false =>
            simp only [if_true] at hN
            have HV := hid0 hN
            clear hN
            go_wp2_with (first
              | (go_at_call 68; refine (HC2.out _).mono ?_; rintro e w3 ⟨rfl, hb3⟩; have HB3 := hid0 (Below.later HB.out hb3); obtain ⟨z0, z1, z2⟩ := HXW.out w3 HB3.out; clear hb3)
              | fail)
            go_ret
            exact ⟨by rw [HV.out]; rfl, Below.later HB0.out HB3.out⟩
          | true =>
            simp only [Bool.true_eq_false, if_false] at hN
            cases hr : (l.toList == [114, 111, 111, 116]) with
            | true =>
              rw [hr] at hN
              simp only [if_true] at hN
              have HV := hid0 hN
              clear hN
              go_wp2_with (first
                | (go_at_call 68; refine (HC2.out _).mono ?_; rintro e w3 ⟨rfl, hb3⟩; have HB3 := hid0 (Below.later HB.out hb3); obtain ⟨z0, z1, z2⟩ := HXW.out w3 HB3.out; clear hb3)
                | fail)
              go_ret
              exact ⟨by rw [HV.out]; rfl, Below.later HB0.out HB3.out⟩
            | false =>
              rw [hr] at hN
              simp only [Bool.false_eq_true, if_false] at hN
              have HV := hid0 hN
              clear hN
              go_wp2_with (first
                | (go_at_call 68; refine (HC2.out _).mono ?_; rintro e w3 ⟨rfl, hb3⟩; have HB3 := hid0 (Below.later HB.out hb3); obtain ⟨z0, z1, z2⟩ := HXW.out w3 HB3.out; clear hb3)
                | fail)
              go_ret
              exact ⟨by rw [HV.out]; rfl, Below.later HB0.out HB3.out⟩
end Go.Proofs.YtpkfcadihgbleaaGreatDoor
namespace Go.Proofs.YtpkfcadihgbleaaGreatDoor
open Go.RowKit Go.Shelf Go.Lib
theorem refNo_ne : ∀ i, i < 11 → refNo i ≠ 0 := by decide
theorem secP_lt {s : Sec} {ah : List Sec} {i : Nat} (h : secP s ah = some i) : i < 11 := by
  unfold secP at h
  repeat' split at h
  all_goals (cases h; try decide)
theorem entF_lt {l : List UInt8} {i : Nat} (h : entF l = some i) : i < 11 := by
  unfold entF at h
  repeat' split at h
  all_goals (cases h; try decide)
set_option maxRecDepth 10000 in
set_option maxHeartbeats 3200000 in
theorem refCheck_any (L : List Sec) (a : Option Addr) (c : Nat) (w : World) (hl : L.length ≤ 1000000) (hb : ∀ s ∈ L, s.ed.length ≤ 1000000000) (hz : ∀ s ∈ L, ∀ e ∈ s.ed, e.2.size ≤ 4194400) (ha : XA w a L) :
    Calls Tryz.prog 25 #[.agg #[.slice a L.length c]] w fun e w' => e = .returned (.int .i64 (numO (chkE entE L))) ∧ Below w.heap.size w w' := by
  obtain ⟨wa, hwa⟩ : ∃ wa, wa = w.alloc (.cells #[.slice a L.length c] 24) := ⟨_, rfl⟩
  have b0a : Below w.heap.size w wa := by rw [hwa]; exact (Below.refl _ _).alloc (Nat.le_refl _) _
  have r0 : wa.heap[w.heap.size]? = some (.cells #[.slice a L.length c] 24 (0, 0)) := by rw [hwa]; exact heap_alloc_new w _
  have HX0 : Hid (∀ W, Below wa.heap.size wa W → W.cell? ⟨w.heap.size, 0, none⟩ = some (.slice a L.length c)) := hid0 (fun W hW => by
    have q0 := (hW.block _ (Array.getElem?_eq_some_iff.1 r0).1).trans r0
    rw [cell_of_row _ _ _ _ _ _ q0]; rfl)
  have HXA : Hid (∀ W, Below wa.heap.size wa W → XA W a L) := hid0 (fun W hW => (ha.later b0a).later hW)
  have HSf : Hid (∀ k (hk : k < L.length) W, Below wa.heap.size wa W → Calls Tryz.prog 45 #[.agg #[.slice a L.length c], .int .i64 (k : Int)] W fun e w' => e = .returned (.int .i64 (numO (secP L[k] (L.take k)))) ∧ Below wa.heap.size wa w') := hid0 (fun k hk W hW => (refSec_any L a c k hk hl W ((ha.later b0a).later hW)).mono (fun e w' h => ⟨h.1, Below.later hW h.2⟩))
  have HEf : Hid (∀ k (hk : k < L.length) j (hj : j < L[k].ed.length) W, Below wa.heap.size wa W → Calls Tryz.prog 46 #[.string L[k].ed[j].2] W fun e w' => e = .returned (.int .i64 (numO (fE entE L[k].ed j))) ∧ Below wa.heap.size wa w') := hid0 (fun k hk j hj W hW => by
    rw [fE_at entE _ j hj]
    exact (refEntry_any L[k].ed[j].2 (hz _ (List.getElem_mem hk) _ (List.getElem_mem hj)) W).mono (fun e w' h => ⟨h.1, Below.later hW h.2⟩))
  have HLb : Hid (∀ k (hk : k < L.length), L[k].ed.length ≤ 1000000000) := hid0 (fun k hk => hb _ (List.getElem_mem hk))
  have HNl := hid0 (nEd_le 1000000000 L hb)
  have HB0 := hid0 b0a
  have HBr := hid0 (Below.refl wa.heap.size wa)
  have x0 := HX0.out wa (Below.refl _ _)
  have hf1 := hwa.symm
  clear ha hwa b0a r0 hb hz
  obtain ⟨N, hN⟩ : ∃ N, N = numO (chkE entE L) := ⟨_, rfl⟩
  rw [← hN]
  have HN := hid0 hN
  clear hN
  go_enter Tryz.func25, Tryz.ntmps25
  go_wp2
  go_loop [3, 4] (fun v t => ∃ k : Nat, k ≤ L.length ∧ v = .int .i64 (nEd (L.take k) : Nat) ∧ t = .int .i64 (k : Int)) (fun _ t => L.length - (intOf t).toNat)
  case atStart => exact ⟨0, Nat.zero_le _, rfl, rfl⟩
  case round =>
    obtain ⟨k, hk, rfl, rfl⟩ := hrel
    by_cases hlt : k < L.length
    · have hkI : (k : Int) < (L.length : Int) := by omega
      have hk0 : (0 : Int) ≤ (k : Int) := by omega
      obtain ⟨b, off, ae, ce, rfl, hbl, c0, c1, c2, _⟩ := (HXA.out wa HBr.out).at' k hlt
      have HM := hid0 (nEd_more L k hlt)
      have z1 := HNl.out k
      have z2 := HLb.out k hlt
      have hsum : IntKind.i64.wrap ((nEd (L.take k) : Int) + (L[k].ed.length : Int)) = (nEd (L.take k) : Int) + (L[k].ed.length : Int) := IntWalk.i64_in _ (by omega)
      generalize nEd (L.take k) = x at *
      generalize L[k].ed.length = n at *
      go_wp2
      go_round
      case rel => exact ⟨k + 1, by omega, by rw [HM.out]; go_num, by go_num⟩
      case measure => simp [intOf]; omega
    · have hkI : ¬ (k : Int) < (L.length : Int) := by omega
      rw [List.take_of_length_le (show L.length ≤ k by omega)]
      have hch := HN.out
      unfold chkE at hch
      clear hlt
      by_cases h5 : 500 < L.length
      · have h5I : (500 : Int) < (L.length : Int) := by omega
        have HV : Hid (N = 3) := hid0 (by rw [hch, if_pos (.inl h5)]; rfl)
        clear hch
        go_wp2
        go_ret
        exact ⟨by rw [HV.out]; rfl, HB0.out⟩
      · have h5I : ¬ (500 : Int) < (L.length : Int) := by omega
        by_cases h6 : 20000 < nEd L
        · have h6I : (20000 : Int) < (nEd L : Int) := by omega
          have HV : Hid (N = 3) := hid0 (by rw [hch, if_pos (.inr h6)]; rfl)
          clear hch
          generalize nEd L = ne at *
          go_wp2
          go_ret
          exact ⟨by rw [HV.out]; rfl, HB0.out⟩
        · have h6I : ¬ (20000 : Int) < (nEd L : Int) := by omega
          rw [if_neg (by omega)] at hch
          have HR := hid0 hch
          clear hch HN
          generalize nEd L = ne at *
          go_wp2
          go_loopw [5] (fun v wr => ∃ k : Nat, k ≤ L.length ∧ v = .int .i64 (k : Int) ∧ Hid (∀ j, j < k → fSec entE L j = none) ∧ Hid (Below wa.heap.size wa wr)) (fun v _ => L.length - (intOf v).toNat)
          case atStart => exact ⟨0, Nat.zero_le _, rfl, hid0 (fun j h => absurd h (Nat.not_lt_zero _)), HBr⟩
          case round =>
            clear hkI hk
            obtain ⟨k, hk, rfl, HK, HB⟩ := hrel
            have y0 := HX0.out wr HB.out
            by_cases hlt : k < L.length
            · have hkI : (k : Int) < (L.length : Int) := by omega
              have hk0 : (0 : Int) ≤ (k : Int) := by omega
              have HS := hid0 (fun W hW => HSf.out k hlt W hW)
              have hse := (fSec_at entE L k hlt).trans (secE_eq entE L[k] (L.take k))
              cases hp : secP L[k] (L.take k) with
              | some i =>
                rw [hp] at HS hse
                simp only [numO] at HS hse
                have hne := refNo_ne i (secP_lt hp)
                have HV : Hid (N = refNo i) := hid0 (by rw [HR.out, firstN_at _ k i hse _ 0 (Nat.zero_le _) (by omega) (fun j _ h => HK.out j h)]; rfl)
                clear hp hse HK HR
                generalize refNo i = ri at *
                go_wp2_with (first
                  | (go_at_call 45; refine (HS.out _ HB.out).mono ?_; rintro e w3 ⟨rfl, hb3⟩; have HB3 := hid0 hb3; clear hb3)
                  | fail)
                go_ret
                exact ⟨by rw [HV.out]; rfl, Below.later HB0.out HB3.out⟩
              | none =>
                rw [hp] at HS hse
                simp only [numO] at HS hse
                have HSE := hid0 hse
                clear hp hse
                go_wp2_with (first
                  | (go_at_call 45; refine (HS.out _ HB.out).mono ?_; rintro e w3 ⟨rfl, hb3⟩; have HB3 := hid0 hb3; clear hb3)
                  | fail)
                go_loopw [7] (fun v wr => ∃ j : Nat, j ≤ L[k].ed.length ∧ v = .int .i64 (j : Int) ∧ Hid (∀ j', j' < j → fE entE L[k].ed j' = none) ∧ Hid (Below wa.heap.size wa wr)) (fun v _ => L[k].ed.length - (intOf v).toNat)
                case atStart => exact ⟨0, Nat.zero_le _, rfl, hid0 (fun j h => absurd h (Nat.not_lt_zero _)), HB3⟩
                case round =>
                  clear HB y0 HB3
                  obtain ⟨j, hj, rfl, HJ, HB⟩ := hrel
                  have y0 := HX0.out wr HB.out
                  obtain ⟨b, off, ae, ce, rfl, hbl, c0, c1, c2, hea⟩ := (HXA.out wr HB.out).at' k hlt
                  have z2 := HLb.out k hlt
                  by_cases hlj : j < L[k].ed.length
                  · have hjI : (j : Int) < (L[k].ed.length : Int) := by omega
                    have hj0 : (0 : Int) ≤ (j : Int) := by omega
                    obtain ⟨b2, off2, rfl, hbl2, d0, d1⟩ := hea.at' j hlj
                    have HE := hid0 (fun W hW => HEf.out k hlt j hlj W hW)
                    cases hq : fE entE L[k].ed j with
                    | some i =>
                      rw [hq] at HE
                      simp only [numO] at HE
                      have hq2 := hq
                      rw [fE_at entE _ j hlj] at hq2
                      have hne := refNo_ne i (entF_lt hq2)
                      have HV : Hid (N = refNo i) := hid0 (by
                        have e1 := HSE.out
                        rw [firstN_at _ j i hq _ 0 (Nat.zero_le _) (by omega) (fun j' _ h => HJ.out j' h)] at e1
                        rw [HR.out, firstN_at _ k i e1 _ 0 (Nat.zero_le _) (by omega) (fun j _ h => HK.out j h)]; rfl)
                      clear hq hq2 HSE HJ HK HR
                      generalize refNo i = ri at *
                      generalize L[k].ed[j].2 = en at *
                      go_wp2_with (first
                        | (go_at_call 46; refine (HE.out _ HB.out).mono ?_; rintro e w4 ⟨rfl, hb4⟩; have HB4 := hid0 hb4; clear hb4)
                        | fail)
                      go_ret
                      exact ⟨by rw [HV.out]; rfl, Below.later HB0.out HB4.out⟩
                    | none =>
                      rw [hq] at HE
                      simp only [numO] at HE
                      have HJ2 : Hid (∀ j', j' < j + 1 → fE entE L[k].ed j' = none) := hid0 (fun j' h => by
                        by_cases e : j' = j
                        · rw [e, hq]
                        · exact HJ.out j' (by omega))
                      clear hq
                      generalize L[k].ed[j].2 = en at *
                      go_wp2_with (first
                        | (go_at_call 46; refine (HE.out _ HB.out).mono ?_; rintro e w4 ⟨rfl, hb4⟩; have HB4 := hid0 hb4; clear hb4)
                        | fail)
                      go_roundw
                      case rel => exact ⟨j + 1, by omega, by go_num, HJ2, HB4⟩
                      case measure => simp [intOf]; omega
                  · have hjI : ¬ (j : Int) < (L[k].ed.length : Int) := by omega
                    have HK2 : Hid (∀ j, j < k + 1 → fSec entE L j = none) := hid0 (fun j' h => by
                      by_cases e : j' = k
                      · rw [e, HSE.out]
                        exact firstN_none _ _ 0 (fun j'' _ h2 => HJ.out j'' (by omega))
                      · exact HK.out j' (by omega))
                    clear HJ HK HSE
                    go_wp2
                    go_roundw
                    case rel => exact ⟨k + 1, by omega, by go_num, HK2, HB⟩
                    case measure => simp [intOf]; omega
            · have hkI : ¬ (k : Int) < (L.length : Int) := by omega
              have HV : Hid (N = 0) := hid0 (by rw [HR.out, firstN_none _ _ 0 (fun j _ h => HK.out j (by omega))]; rfl)
              clear HK HR
              go_wp2
              go_ret
              exact ⟨by rw [HV.out]; rfl, Below.later HB0.out HB.out⟩
end Go.Proofs.YtpkfcadihgbleaaGreatDoor
