/-
  The walk of caesurakit.Set.
-/
import Derived.Test.YthcpalpcakjfnaaEh3W
namespace Go.Proofs.Ythcpalpcakjfnaa
open Go.RowKit Go.Shelf
/-- The set handed in, the one that is answered, the one that is made. -/
structure KS (W : World) (X : Nat) (nt : Bool) (sN sR tN tR : Value) : Prop where
  box : W.heap[X]? = some (.cells #[.bool nt, sN, sR] 29 (0, 0))
  res : W.heap[X + 1]? = some (.cells #[.bool false, .slice none 0 0, .slice none 0 0] 29 (0, 0))
  t : W.heap[X + 1 + 1]? = some (.cells #[.bool nt, tN, tR] 29 (0, 0))
theorem lt_of_row {W : World} {k : Nat} {o : Obj} (h : W.heap[k]? = some o) : k < W.heap.size := (Array.getElem?_eq_some_iff.1 h).1
theorem KS.cells {W : World} {X : Nat} {nt : Bool} {sN sR tN tR : Value} (h : KS W X nt sN sR tN tR) :
    W.cell? ⟨X, 1, none⟩ = some sN ∧ W.cell? ⟨X, 2, none⟩ = some sR ∧ W.cell? ⟨X + 1 + 1, 0, none⟩ = some (.bool nt) ∧ W.cell? ⟨X + 1 + 1, 1, none⟩ = some tN ∧ W.cell? ⟨X + 1 + 1, 2, none⟩ = some tR ∧ W.frozen? ⟨X + 1 + 1, 1, none⟩ = false ∧ W.frozen? ⟨X + 1 + 1, 2, none⟩ = false :=
  ⟨by rw [cell_of_row _ _ _ _ _ _ h.box]; rfl, by rw [cell_of_row _ _ _ _ _ _ h.box]; rfl, by rw [cell_of_row _ _ _ _ _ _ h.t]; rfl, by rw [cell_of_row _ _ _ _ _ _ h.t]; rfl, by rw [cell_of_row _ _ _ _ _ _ h.t]; rfl, by simp [World.frozen?, h.t], by simp [World.frozen?, h.t]⟩
theorem KS.ends {W : World} {X : Nat} {nt : Bool} {sN sR tN tR : Value} (h : KS W X nt sN sR tN tR) :
    W.cell? ⟨X + 1, 0, none⟩ = some (.bool false) ∧ W.cell? ⟨X + 1, 1, none⟩ = some (.slice none 0 0) ∧ W.cell? ⟨X + 1, 2, none⟩ = some (.slice none 0 0) ∧ W.frozen? ⟨X + 1, 0, none⟩ = false ∧ W.frozen? ⟨X + 1, 1, none⟩ = false ∧ W.frozen? ⟨X + 1, 2, none⟩ = false :=
  ⟨by rw [cell_of_row _ _ _ _ _ _ h.res]; rfl, by rw [cell_of_row _ _ _ _ _ _ h.res]; rfl, by rw [cell_of_row _ _ _ _ _ _ h.res]; rfl, by simp [World.frozen?, h.res], by simp [World.frozen?, h.res], by simp [World.frozen?, h.res]⟩
theorem KS.keep {W W' : World} {X : Nat} {nt : Bool} {sN sR tN tR : Value} (h : KS W X nt sN sR tN tR) (hk : ∀ k, k < X + 3 → W'.heap[k]? = W.heap[k]?) : KS W' X nt sN sR tN tR :=
  ⟨(hk X (by omega)).trans h.box, (hk (X + 1) (by omega)).trans h.res, (hk (X + 1 + 1) (by omega)).trans h.t⟩
theorem KS.setN {W : World} {X : Nat} {nt : Bool} {sN sR tN tR : Value} (h : KS W X nt sN sR tN tR) (v : Value) : KS (W.setCell ⟨X + 1 + 1, 1, none⟩ v) X nt sN sR v tR :=
  ⟨(Below.heap_setCell W _ v X (by simp; omega)).trans h.box, (Below.heap_setCell W _ v (X + 1) (by simp)).trans h.res, heap_setCell_same W _ 1 _ _ v h.t⟩
theorem KS.setR {W : World} {X : Nat} {nt : Bool} {sN sR tN tR : Value} (h : KS W X nt sN sR tN tR) (v : Value) : KS (W.setCell ⟨X + 1 + 1, 2, none⟩ v) X nt sN sR tN v :=
  ⟨(Below.heap_setCell W _ v X (by simp; omega)).trans h.box, (Below.heap_setCell W _ v (X + 1) (by simp)).trans h.res, heap_setCell_same W _ 2 _ _ v h.t⟩
theorem own_blk {W W' : World} {lo t s n : Nat} {v : Value} {xs : List Value} (h : W.ownsRow lo t s v n xs) (hb : ∀ k, v.ownBlock = some k → W'.heap[k]? = W.heap[k]?) : W'.ownsRow lo t s v n xs := by
  refine ⟨h.1, ?_⟩
  rcases h.2 with h2 | ⟨g, cap, cur0, hv, hg, hr, r⟩
  · exact .inl h2
  · exact .inr ⟨g, cap, cur0, hv, hg, (hb g (by rw [hv]; rfl)).trans hr, r⟩
/-- What Set leaves: the same set, with a mark behind each list. -/
def SetIs (nt : Bool) (L : List ByteArray) (R : List (Int × Int)) (w : World) (e : Ending) (w' : World) : Prop :=
  ∃ g cap h cap', e = .returned (.agg #[.bool nt, .slice (some ⟨g, 0, none⟩) L.length cap, .slice (some ⟨h, 0, none⟩) R.length cap']) ∧
    OwnS w' w.heap.size (.slice (some ⟨g, 0, none⟩) (L.length + 1) cap) (L ++ [markB]) ∧ OwnR w' w.heap.size (.slice (some ⟨h, 0, none⟩) (R.length + 1) cap') (R ++ [(-77, 0)]) ∧ ¬ g = h ∧ Below w.heap.size w w'
set_option maxRecDepth 10000 in
set_option maxHeartbeats 1600000 in
theorem set_any (nt : Bool) (L : List ByteArray) (R : List (Int × Int)) (a b : Option Addr) (ca cb : Nat) (w : World) (hl : (L.length + 1) * 16 ≤ 140737488355328) (hr : (R.length + 1) * 16 ≤ 140737488355328)
    (hnN : a = none → ca = 0) (hnR : b = none → cb = 0) (ha : SA w a L) (hb : RA w b R) :
    Calls Try.prog 12 #[.agg #[.bool nt, .slice a L.length ca, .slice b R.length cb]] w fun e w' => SetIs nt L R w e w' := by
  obtain ⟨i0, hi, hz0, hz1, hz2⟩ := info_parts infoStr
  obtain ⟨j0, hj, hy0, hy1, hy2⟩ := info_parts infoRange
  obtain ⟨w0, hw0⟩ : ∃ w0, w0 = ((w.alloc (.cells #[.bool nt, .slice a L.length ca, .slice b R.length cb] 29)).alloc (.cells #[.bool false, .slice none 0 0, .slice none 0 0] 29)).alloc (.cells #[.bool nt, .slice none 0 0, .slice none 0 0] 29) := ⟨_, rfl⟩
  obtain ⟨X, hX⟩ : ∃ X, X = w.heap.size := ⟨_, rfl⟩
  have hs0 : w0.heap.size = X + 3 := by rw [hw0]; simp [hX]
  have hB0 : Below w.heap.size w w0 := by rw [hw0]; exact (((Below.refl _ _).alloc (Nat.le_refl _) _).alloc (by simp) _).alloc (by simp; omega) _
  have hK0 : KS w0 X nt (.slice a L.length ca) (.slice b R.length cb) (.slice none 0 0) (.slice none 0 0) := by
    obtain ⟨wa, hwa⟩ : ∃ wa, wa = w.alloc (.cells #[.bool nt, .slice a L.length ca, .slice b R.length cb] 29) := ⟨_, rfl⟩
    obtain ⟨wb, hwb⟩ : ∃ wb, wb = wa.alloc (.cells #[.bool false, .slice none 0 0, .slice none 0 0] 29) := ⟨_, rfl⟩
    have sa : wa.heap.size = X + 1 := by rw [hwa]; simp [hX]
    have sb : wb.heap.size = X + 1 + 1 := by rw [hwb]; simp [sa]
    have r1 : wa.heap[X]? = some (.cells #[.bool nt, .slice a L.length ca, .slice b R.length cb] 29 (0, 0)) := by rw [hwa, hX]; exact heap_alloc_new w _
    have r2 : wb.heap[X + 1]? = some (.cells #[.bool false, .slice none 0 0, .slice none 0 0] 29 (0, 0)) := by rw [hwb, ← sa]; exact heap_alloc_new wa _
    rw [hw0, ← hwa, ← hwb]
    refine ⟨?_, ?_, ?_⟩
    · rw [Below.heap_alloc wb _ X (by omega), hwb, Below.heap_alloc wa _ X (by omega)]; exact r1
    · rw [Below.heap_alloc wb _ (X + 1) (by omega)]; exact r2
    · rw [← sb]; exact heap_alloc_new wb _
  have HK0 := hid0 hK0
  have HSA := hid0 (ha.below hB0)
  have HRA := hid0 (hb.below hB0)
  have HB0 := hid0 hB0
  have HS0 := hid0 hs0
  have HNN := hid0 hnN
  have HNR := hid0 hnR
  have HL := hid0 hl
  have HR := hid0 hr
  have HF := hid0 hw0.symm
  subst hX
  have HBb := hid0 hb
  clear ha hb hB0 hw0 hK0 hs0 hnN hnR hl hr HRA
  have M0 : Hid True := trivial
  go_enter Try.func12, Try.ntmps12
  go_wp2_with (first
    | (at_builtin; clear M0; rw [HF.out]; refine wpList_spread (by rfl) _ _ (by rfl) a L ca w0.heap.size (by rfl) (by rfl) HNN.out HSA.out (by have := HL.out; omega) (Nat.le_refl _) ?_; intro vC w1 hoC hgC
       have hb1 : Below w0.heap.size w0 w1 := ((Below.refl _ _).grown hgC (Nat.le_refl _) (fun k hk => by cases hk))
       obtain ⟨aV, cV, rfl, hjunk⟩ := hoC.sa
       clear hjunk
       have hK1 := HK0.out.keep (W' := w1) (fun k hk => hb1.block k (by have := HS0.out; omega))
       obtain ⟨y0, y1, y2, y3, y4, y5, y6⟩ := hK1.cells
       obtain ⟨w1', hw1'⟩ : ∃ w1', w1' = w1.setCell ⟨w.heap.size + 1 + 1, 1, none⟩ (.slice aV L.length cV) := ⟨_, rfl⟩
       have hK1' := hK1.setN (.slice aV L.length cV)
       rw [← hw1'] at hK1'
       obtain ⟨u0, u1, u2, u3, u4, u5, u6⟩ := hK1'.cells
       have hb1' : Below w.heap.size w w1' := by rw [hw1']; exact (Below.later HB0.out hb1).setCell (by simp; omega) _
       have ag : Agree w1 w1' w0.heap.size := by rw [hw1']; exact (Agree.refl w1 w0.heap.size).only (Only.setCell w1 (w.heap.size + 1 + 1) 1 _) (fun k hk => .inl (by have := HS0.out; omega))
       have ho1 : OwnS w1' w0.heap.size (.slice aV L.length cV) L := own_agree hoC ag
       have HO1 := hid0 ho1
       have HB1 := hid0 hb1'
       have HK1 := hid0 hK1'
       have HZ1 : Hid (w0.heap.size ≤ w1'.heap.size) := hid0 (Nat.le_trans hb1.size ag.size)
       have HO1a : Hid (OwnS (w1'.alloc (.cells #[.string ⟨#[109, 97, 114, 107]⟩] 9)) w0.heap.size (.slice aV L.length cV) L) := hid0 (World.ownsRow.alloc ho1 _)
       have hf1 := hw1'.symm
       have M1 : Hid True := trivial
       clear hoC hgC hb1 hK1 hw1' hK1' hb1' ag ho1 HF)
    | (at_builtin; clear M1; go_loud ((
         refine wpList_append_own _ (by rfl) _ _ 22 (by rfl) w0.heap.size 9 i0 (.string ⟨#[]⟩) 1 16 Try.underlying22 hi hz0 hz1 hz2 rfl (by decide) (.slice aV L.length cV) L.length (cellsS L) (by rfl) HO1a.out ⟨w1'.heap.size, 0, none⟩ 1 1 [.string ⟨#[109, 97, 114, 107]⟩] (by rfl) (by rfl) (cell_one_new _ _ _) (fun u hu => by simp only [List.mem_cons, List.not_mem_nil, or_false] at hu; subst hu; rfl) (by unfold maxLen; have := HL.out; omega) HL.out (by have := HZ1.out; simp; omega) ?_
         intro v2 w2 ho2 hg2 hat2
         have hlt0 := HS0.out
         have hz1' := HZ1.out
         have hsz2 : w1'.heap.size + 1 ≤ w2.heap.size := by have := hg2.size; simpa using this
         have hbl2 : ∀ k, k < w0.heap.size → w2.heap[k]? = w1'.heap[k]? := fun k hk => (hg2.block k (by simp; omega) (fun e => by have := (World.ownsRow.lt HO1.out k e.symm).1; omega)).trans (Below.heap_alloc w1' _ k (by omega))
         have hb2 : Below w.heap.size w w2 := ⟨hg2.os.trans HB1.out.os, hg2.tape.trans HB1.out.tape, hg2.output.trans HB1.out.output, (by have := HB1.out.size; omega), fun k hk => (hbl2 k (by omega)).trans (HB1.out.block k hk)⟩
         obtain ⟨g, cap, rfl, hju1, hju2, hju3⟩ := own_form ho2 (Nat.succ_pos _)
         have HC2 : Hid ((L.length : Int) ≤ (cap : Int)) := hid0 (by omega)
         have hK2 := HK1.out.keep (W' := w2) (fun k hk => hbl2 k (by omega))
         obtain ⟨w2', hw2'⟩ : ∃ w2', w2' = w2.setCell ⟨w.heap.size + 1 + 1, 1, none⟩ (.slice (some ⟨g, 0, none⟩) (L.length + 1) cap) := ⟨_, rfl⟩
         obtain ⟨w2x, hw2x⟩ : ∃ w2x, w2x = w2'.setCell ⟨w.heap.size + 1 + 1, 1, none⟩ (.slice (some ⟨g, 0, none⟩) L.length cap) := ⟨_, rfl⟩
         have hK2' := hK2.setN (.slice (some ⟨g, 0, none⟩) (L.length + 1) cap)
         rw [← hw2'] at hK2'
         have hK2x := hK2'.setN (.slice (some ⟨g, 0, none⟩) L.length cap)
         rw [← hw2x] at hK2x
         obtain ⟨z0, z1, z2, z3, z4, z5, z6⟩ := hK2.cells
         obtain ⟨p0, p1, p2, p3, p4, p5, p6⟩ := hK2'.cells
         obtain ⟨q0, q1, q2, q3, q4, q5, q6⟩ := hK2x.cells
         have hb2' : Below w.heap.size w w2' := by rw [hw2']; exact hb2.setCell (by simp; omega) _
         have hb2x : Below w.heap.size w w2x := by rw [hw2x]; exact hb2'.setCell (by simp; omega) _
         have ag2 : Agree w2 w2x w0.heap.size := by rw [hw2x, hw2']; exact ((Agree.refl w2 w0.heap.size).only (Only.setCell w2 (w.heap.size + 1 + 1) 1 _) (fun k hk => .inl (by omega))).only (Only.setCell _ (w.heap.size + 1 + 1) 1 _) (fun k hk => .inl (by omega))
         have HO2 : Hid (w2x.ownsRow w0.heap.size 9 1 (.slice (some ⟨g, 0, none⟩) (L.length + 1) cap) (L.length + 1) (cellsS L ++ [.string ⟨#[109, 97, 114, 107]⟩])) := hid0 (own_agree ho2 ag2)
         have HB2 := hid0 hb2x
         have HK2 := hid0 hK2x
         have HZ2 : Hid (w0.heap.size ≤ w2x.heap.size) := hid0 (by have := ag2.size; omega)
         have HRA2 : Hid (RA w2x b R) := hid0 (HBb.out.below hb2x)
         have r0 : (0 : Int) ≤ (L.length : Int) := by omega
         have r1 : (L.length : Int) ≤ (cap : Int) := HC2.out
         have hf2 := hw2'.symm
         have hf2x := hw2x.symm
         have M2 : Hid True := trivial
         clear hju1 hju2 hju3 ho2 hg2 hat2 hb2 hb2' hb2x ag2 hK2 hK2' hK2x hbl2 hsz2 hz1' hlt0 hw2' hw2x HO1 HO1a y0 y1 y2 y3 y4 y5 y6 u0 u1 u2 u3 u4 u5 u6 hf1)))
    | (at_builtin; clear M2; go_loud ((
         refine wpList_spreadR (by rfl) _ _ (by rfl) b R cb w2x.heap.size (by rfl) (by rfl) HNR.out HRA2.out (by have := HR.out; omega) (Nat.le_refl _) ?_
         intro vD w3 hoD hgD
         have hb3 : Below w2x.heap.size w2x w3 := ((Below.refl _ _).grown hgD (Nat.le_refl _) (fun k hk => by cases hk))
         obtain ⟨aW, cW, rfl, hjunk⟩ := hoD.ra
         clear hjunk
         have hlt0 := HS0.out
         have hz2' := HZ2.out
         have hK3 := HK2.out.keep (W' := w3) (fun k hk => hb3.block k (by omega))
         obtain ⟨y0, y1, y2, y3, y4, y5, y6⟩ := hK3.cells
         obtain ⟨w3', hw3'⟩ : ∃ w3', w3' = w3.setCell ⟨w.heap.size + 1 + 1, 2, none⟩ (.slice aW R.length cW) := ⟨_, rfl⟩
         have hK3' := hK3.setR (.slice aW R.length cW)
         rw [← hw3'] at hK3'
         obtain ⟨u0, u1, u2, u3, u4, u5, u6⟩ := hK3'.cells
         have hb3' : Below w.heap.size w w3' := by rw [hw3']; exact (Below.later HB2.out hb3).setCell (by simp; omega) _
         have ag : Agree w3 w3' w2x.heap.size := by rw [hw3']; exact (Agree.refl w3 w2x.heap.size).only (Only.setCell w3 (w.heap.size + 1 + 1) 2 _) (fun k hk => .inl (by omega))
         have ho3 : OwnR w3' w2x.heap.size (.slice aW R.length cW) R := own_agree hoD ag
         have agS : Agree w2x w3' w0.heap.size := by rw [hw3']; exact ((Agree.refl w2x w0.heap.size).below hb3).only (Only.setCell w3 (w.heap.size + 1 + 1) 2 _) (fun k hk => .inl (by omega))
         have HO3 := hid0 ho3
         have HB3 := hid0 hb3'
         have HK3 := hid0 hK3'
         have HZ3 : Hid (w2x.heap.size ≤ w3'.heap.size) := hid0 (Nat.le_trans hb3.size ag.size)
         have HS3 := hid0 (own_agree HO2.out agS)
         have HO3a : Hid (OwnR (w3'.alloc (.cells #[.int .i64 (-77), .int .i64 0] 62)) w2x.heap.size (.slice aW R.length cW) R) := hid0 (World.ownsRow.alloc ho3 _)
         have hf3 := hw3'.symm
         have M3 : Hid True := trivial
         clear hoD hgD hb3 hK3 hw3' hK3' hb3' ag agS ho3 z0 z1 z2 z3 z4 z5 z6 p0 p1 p2 p3 p4 p5 p6 q0 q1 q2 q3 q4 q5 q6 hf2 hf2x hlt0 hz2')))
    | (at_builtin; clear M3; go_loud ((
         refine wpList_append_own _ (by rfl) _ _ 27 (by rfl) w2x.heap.size 62 j0 (.agg #[.int .i64 0, .int .i64 0]) 2 16 Try.underlying27 hj hy0 hy1 hy2 rfl (by decide) (.slice aW R.length cW) R.length (cellsR R) (by rfl) HO3a.out ⟨w3'.heap.size, 0, none⟩ 1 1 [.int .i64 (-77), .int .i64 0] (by rfl) (by rfl) (cell2_new _ _ _ _) (fun u hu => by simp only [List.mem_cons, List.not_mem_nil, or_false] at hu; rcases hu with rfl | rfl <;> rfl) (by unfold maxLen; have := HR.out; omega) HR.out (by have := HZ3.out; simp; omega) ?_
         intro v4 w4 ho4 hg4 hat4
         have hlt0 := HS0.out
         have hz2' := HZ2.out
         have hz3' := HZ3.out
         have hsz4 : w3'.heap.size + 1 ≤ w4.heap.size := by have := hg4.size; simpa using this
         have hbl4 : ∀ k, k < w2x.heap.size → w4.heap[k]? = w3'.heap[k]? := fun k hk => (hg4.block k (by simp; omega) (fun e => by have := (World.ownsRow.lt HO3.out k e.symm).1; omega)).trans (Below.heap_alloc w3' _ k (by omega))
         have hb4 : Below w.heap.size w w4 := ⟨hg4.os.trans HB3.out.os, hg4.tape.trans HB3.out.tape, hg4.output.trans HB3.out.output, (by have := HB3.out.size; omega), fun k hk => (hbl4 k (by have := HB2.out.size; omega)).trans (HB3.out.block k hk)⟩
         obtain ⟨h, cap', rfl, hju1, hju2, hju3⟩ := own_form ho4 (Nat.succ_pos _)
         have HC4 : Hid ((R.length : Int) ≤ (cap' : Int)) := hid0 (by omega)
         have hK4 := HK3.out.keep (W' := w4) (fun k hk => hbl4 k (by omega))
         obtain ⟨w4', hw4'⟩ : ∃ w4', w4' = w4.setCell ⟨w.heap.size + 1 + 1, 2, none⟩ (.slice (some ⟨h, 0, none⟩) (R.length + 1) cap') := ⟨_, rfl⟩
         obtain ⟨w4x, hw4x⟩ : ∃ w4x, w4x = w4'.setCell ⟨w.heap.size + 1 + 1, 2, none⟩ (.slice (some ⟨h, 0, none⟩) R.length cap') := ⟨_, rfl⟩
         have hK4' := hK4.setR (.slice (some ⟨h, 0, none⟩) (R.length + 1) cap')
         rw [← hw4'] at hK4'
         have hK4x := hK4'.setR (.slice (some ⟨h, 0, none⟩) R.length cap')
         rw [← hw4x] at hK4x
         obtain ⟨z0, z1, z2, z3, z4, z5, z6⟩ := hK4.cells
         obtain ⟨p0, p1, p2, p3, p4, p5, p6⟩ := hK4'.cells
         obtain ⟨q0, q1, q2, q3, q4, q5, q6⟩ := hK4x.cells
         obtain ⟨e0, e1, e2, e3, e4, e5⟩ := hK4x.ends
         have hb4' : Below w.heap.size w w4' := by rw [hw4']; exact hb4.setCell (by simp; omega) _
         have hb4x : Below w.heap.size w w4x := by rw [hw4x]; exact hb4'.setCell (by simp; omega) _
         have hgl := (World.ownsRow.lt HO2.out g rfl).2
         have hgl0 := (World.ownsRow.lt HO2.out g rfl).1
         have hhl0 := (World.ownsRow.lt ho4 h rfl).1
         have hN4 : w4x.heap[g]? = w3'.heap[g]? := by
           rw [hw4x, Below.heap_setCell w4' _ _ g (by simp; omega), hw4', Below.heap_setCell w4 _ _ g (by simp; omega)]
           exact hbl4 g hgl
         have hR4 : w4x.heap[h]? = w4.heap[h]? := by
           rw [hw4x, Below.heap_setCell w4' _ _ h (by simp; omega), hw4', Below.heap_setCell w4 _ _ h (by simp; omega)]
         have HS4 : Hid (w4x.ownsRow w0.heap.size 9 1 (.slice (some ⟨g, 0, none⟩) (L.length + 1) cap) (L.length + 1) (cellsS L ++ [.string ⟨#[109, 97, 114, 107]⟩])) := hid0 (own_blk HS3.out (fun k hk => by cases hk; exact hN4))
         have HR4 : Hid (w4x.ownsRow w2x.heap.size 62 2 (.slice (some ⟨h, 0, none⟩) (R.length + 1) cap') (R.length + 1) (cellsR R ++ [.int .i64 (-77), .int .i64 0])) := hid0 (own_blk ho4 (fun k hk => by cases hk; exact hR4))
         have HNE : Hid (¬ g = h) := hid0 (by omega)
         have HB4 := hid0 hb4x
         have HK4 := hid0 hK4x
         have r2 : (0 : Int) ≤ (R.length : Int) := by omega
         have r3 : (R.length : Int) ≤ (cap' : Int) := HC4.out
         have hf4 := hw4'.symm
         have hf4x := hw4x.symm
         have M4 : Hid True := trivial
         clear hju1 hju2 hju3 ho4 hg4 hat4 hb4 hb4' hb4x hK4 hK4' hK4x hbl4 hsz4 hz2' hz3' hlt0 hw4' hw4x HO3 HO3a y0 y1 y2 y3 y4 y5 y6 u0 u1 u2 u3 u4 u5 u6 hf3 hgl hgl0 hhl0 hN4 hR4))))
  obtain ⟨w5, hw5⟩ : ∃ w5, w5 = ((w4x.setCell ⟨w.heap.size + 1, 0, none⟩ (.bool nt)).setCell ⟨w.heap.size + 1, 1, none⟩ (.slice (some ⟨g, 0, none⟩) L.length cap)).setCell ⟨w.heap.size + 1, 2, none⟩ (.slice (some ⟨h, 0, none⟩) R.length cap') := ⟨_, rfl⟩
  have r5 : w5.heap[w.heap.size + 1]? = some (.cells #[.bool nt, .slice (some ⟨g, 0, none⟩) L.length cap, .slice (some ⟨h, 0, none⟩) R.length cap'] 29 (0, 0)) := by
    have d1 := heap_setCell_same w4x _ 0 _ _ (.bool nt) HK4.out.res
    have d2 := heap_setCell_same _ _ 1 _ _ (.slice (some ⟨g, 0, none⟩) L.length cap) d1
    have d3 := heap_setCell_same _ _ 2 _ _ (.slice (some ⟨h, 0, none⟩) R.length cap') d2
    rw [hw5]
    exact d3
  have hk5 : ∀ k, ¬ k = w.heap.size + 1 → w5.heap[k]? = w4x.heap[k]? := fun k hk => by
    rw [hw5, Below.heap_setCell _ _ _ k hk, Below.heap_setCell _ _ _ k hk, Below.heap_setCell _ _ _ k hk]
  have c0 : w5.cell? ⟨w.heap.size + 1, 0, none⟩ = some (.bool nt) := by rw [cell_of_row _ _ _ _ _ _ r5]; rfl
  have c1 : w5.cell? ⟨w.heap.size + 1, 1, none⟩ = some (.slice (some ⟨g, 0, none⟩) L.length cap) := by rw [cell_of_row _ _ _ _ _ _ r5]; rfl
  have c2 : w5.cell? ⟨w.heap.size + 1, 2, none⟩ = some (.slice (some ⟨h, 0, none⟩) R.length cap') := by rw [cell_of_row _ _ _ _ _ _ r5]; rfl
  have HV : Hid (SetIs nt L R w (.returned (.agg #[.bool nt, .slice (some ⟨g, 0, none⟩) L.length cap, .slice (some ⟨h, 0, none⟩) R.length cap'])) w5) := hid0 (by
    have hlt0 := HS0.out
    have hz2' := HZ2.out
    have g0 := (World.ownsRow.lt HS4.out g rfl).1
    have g1 := (World.ownsRow.lt HR4.out h rfl).1
    have o2 := owns_lower (own_blk (W' := w5) HS4.out (fun k hk => by cases hk; exact hk5 g (by omega))) (by omega : w.heap.size ≤ w0.heap.size)
    have o4 := owns_lower (own_blk (W' := w5) HR4.out (fun k hk => by cases hk; exact hk5 h (by omega))) (by omega : w.heap.size ≤ w2x.heap.size)
    refine ⟨g, cap, h, cap', rfl, ?_, ?_, HNE.out, ?_⟩
    · unfold OwnS
      rw [show (L ++ [markB]).length = L.length + 1 by simp, show cellsS (L ++ [markB]) = cellsS L ++ [.string ⟨#[109, 97, 114, 107]⟩] by simp [cellsS, markB]]
      exact o2
    · unfold OwnR
      rw [show (R ++ [((-77 : Int), (0 : Int))]).length = R.length + 1 by simp, show cellsR (R ++ [((-77 : Int), (0 : Int))]) = cellsR R ++ [.int .i64 (-77), .int .i64 0] by rw [cellsR_append]; rfl]
      exact o4
    · rw [hw5]
      exact ((HB4.out.setCell (by simp) _).setCell (by simp) _).setCell (by simp) _)
  rw [← hw5]
  refine bodyPost_ret (w := w5) ?_ rfl HV.out
  simp [results, Try.results12, go_sem, c0, c1, c2]
end Go.Proofs.Ythcpalpcakjfnaa
