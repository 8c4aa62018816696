/-
  caesuralaw5.PropsTables walked.
-/
import Derived.Test.YtpimameogmkpcaaDoorPbT2W
import Derived.Test.YtpimameogmkpcaaDoorPbT4W
import Derived.Test.YtpimameogmkpcaaDoorPbRFW
namespace Go.Proofs.YtpimameogmkpcaaDoor
open Go.RowKit Go.Shelf
def overB : ByteArray := ⟨#[111, 118, 101, 114]⟩
theorem rtab_agree {wk cur : World} {lo U : Nat} {L : List ByteArray} {ss : List Sp} {vN vS : Value} (h : RTab wk lo U L ss vN vS) (ha : Agree wk cur lo) : RTab cur lo U L ss vN vS :=
  ⟨h.low, (ha.block U h.low (Array.getElem?_eq_some_iff.1 h.row).1).trans h.row, own_agree h.names ha, own_agree h.spans ha⟩
theorem cellsP_set3 : ∀ (us : List Sp) (k : Nat) (a b c : Int) (_ : k < us.length), (((cellsP us).set (k * 3) (.int .i64 a)).set (k * 3 + 1) (.int .i64 b)).set (k * 3 + 2) (.int .i64 c) = cellsP (us.set k (a, b, c))
  | u :: us, 0, a, b, c, _ => rfl
  | u :: us, k + 1, a, b, c, h => by
    have e : cellsP (u :: us) = .int .i64 u.1 :: .int .i64 u.2.1 :: .int .i64 u.2.2 :: cellsP us := rfl
    have ih := cellsP_set3 us k a b c (by simpa using h)
    rw [e, show (k + 1) * 3 = k * 3 + 1 + 1 + 1 by omega, show k * 3 + 1 + 1 + 1 + 1 = k * 3 + 1 + 1 + 1 + 1 from rfl, show k * 3 + 1 + 1 + 1 + 2 = k * 3 + 2 + 1 + 1 + 1 by omega]
    simp only [List.set_cons_succ]
    rw [ih]
    rfl
/-- The first k written over. -/
def over {α : Type} (x : α) (k : Nat) (l : List α) : List α := List.replicate k x ++ l.drop k
theorem over_len {α : Type} (x : α) (k : Nat) (l : List α) (h : k ≤ l.length) : (over x k l).length = l.length := by simp [over]; omega
theorem over_next {α : Type} (x : α) (k : Nat) (l : List α) (h : k < l.length) : over x (k + 1) l = (over x k l).set k x := by
  unfold over
  rw [List.set_append_right _ _ (by simp), List.length_replicate, Nat.sub_self, List.drop_eq_getElem_cons h, List.set_cons_zero, List.replicate_succ', List.append_assoc]
  rfl
theorem over_all {α : Type} (x : α) (l : List α) : over x l.length l = List.replicate l.length x := by simp [over]
theorem Newed.form {A : Nat → Addr} {L : List ByteArray} {ss : List Sp} {w w' : World} {e : Ending} (h : Newed A L ss w e w') : ∃ tv ev, e = .returned (.tuple #[tv, ev]) ∧ Newed A L ss w (.returned (.tuple #[tv, ev])) w' ∧ Below w.heap.size w w' := by
  have h0 := h
  rcases h with ⟨i, _, rfl, h3⟩ | ⟨_, T, c, vN, vB, rfl, _, h3⟩
  · exact ⟨_, _, rfl, h0, h3⟩
  · exact ⟨_, _, rfl, h0, h3⟩
theorem RNewed.form {L : List ByteArray} {ss : List Sp} {w w' : World} {e : Ending} (h : RNewed L ss w e w') : ∃ tv ev, e = .returned (.tuple #[tv, ev]) ∧ RNewed L ss w (.returned (.tuple #[tv, ev])) w' ∧ Below w.heap.size w w' := by
  have h0 := h
  rcases h with ⟨i, _, rfl, h3⟩ | ⟨_, U, vN, vS, rfl, _, h3⟩
  · exact ⟨_, _, rfl, h0, h3⟩
  · exact ⟨_, _, rfl, h0, h3⟩
theorem ownS_two {w : World} {base g n cap : Nat} {L : List ByteArray} (h : OwnS w base (.slice (some ⟨g, 0, none⟩) n cap) L) : SA w (some ⟨g, 0, none⟩) L ∧ L.length ≤ cap ∧ n = L.length := by
  obtain ⟨a, c, e, h1, _, h3⟩ := h.sa
  simp only [Value.slice.injEq] at e
  obtain ⟨rfl, h4, rfl⟩ := e
  exact ⟨h1, h3, h4⟩
theorem ownP_two {w : World} {base g n cap : Nat} {l : List Sp} (h : OwnP w base (.slice (some ⟨g, 0, none⟩) n cap) l) : PA w (some ⟨g, 0, none⟩) l ∧ l.length ≤ cap ∧ n = l.length := by
  obtain ⟨a, c, e, h1, _, h3⟩ := h.pa
  simp only [Value.slice.injEq] at e
  obtain ⟨rfl, h4, rfl⟩ := e
  exact ⟨h1, h3, h4⟩
theorem OwnP.later {w w' : World} {base : Nat} {v : Value} {l : List Sp} (h : OwnP w base v l) (hb : Below w.heap.size w w') : OwnP w' base v l :=
  World.ownsRow.kept h (row := none) ⟨hb.os, hb.tape, hb.output, hb.size, fun k hk _ => hb.block k hk⟩ (by cases hv : v.ownBlock <;> simp)
/-- Both lists that were lent, while they are written over. -/
structure Ov (w0 w5 : World) (b1 g cap h cap' n m : Nat) (LM : List ByteArray) (SM : List Sp) (wr : World) : Prop where
  names : OwnS wr w0.heap.size (.slice (some ⟨g, 0, none⟩) n cap) LM
  spans : OwnP wr w0.heap.size (.slice (some ⟨h, 0, none⟩) m cap') SM
  below : Below w0.heap.size w0 wr
  agree : Agree w5 wr b1
  gl : w0.heap.size ≤ g ∧ g < b1
  hl : w0.heap.size ≤ h ∧ h < b1
  ne : ¬ g = h
theorem Ov.rowN {w0 w5 : World} {b1 g cap h cap' n m : Nat} {LM : List ByteArray} {SM : List Sp} {wr : World} (o : Ov w0 w5 b1 g cap h cap' n m LM SM wr) : wr.ownsRow w0.heap.size 9 1 (.slice (some ⟨g, 0, none⟩) n cap) n (cellsS LM) := by
  have h1 := o.names
  have h2 := (ownS_two h1).2.2
  unfold OwnS at h1
  rw [← h2] at h1
  exact h1
theorem Ov.rowP {w0 w5 : World} {b1 g cap h cap' n m : Nat} {LM : List ByteArray} {SM : List Sp} {wr : World} (o : Ov w0 w5 b1 g cap h cap' n m LM SM wr) : wr.ownsRow w0.heap.size 38 3 (.slice (some ⟨h, 0, none⟩) m cap') m (cellsP SM) := by
  have h1 := o.spans
  have h2 := (ownP_two h1).2.2
  unfold OwnP at h1
  rw [← h2] at h1
  exact h1
theorem Ov.nameAt {w0 w5 : World} {b1 g cap h cap' n m : Nat} {LM : List ByteArray} {SM : List Sp} {wr : World} (o : Ov w0 w5 b1 g cap h cap' n m LM SM wr) (k : Nat) (hk : k < n) : (∃ u, wr.cell? ⟨g, k, none⟩ = some u) ∧ wr.frozen? ⟨g, k, none⟩ = false := by
  have h2 := (ownS_two o.names).2.2
  have h3 : k < LM.length := by omega
  have h4 := World.ownsRow.cellAt o.rowN k (by omega)
  have h5 : (cellsS LM)[k]? = some (.string LM[k]) := by simp [cellsS, h3]
  exact ⟨⟨_, h4.trans h5⟩, World.ownsRow.frozenAt o.rowN k⟩
theorem Ov.spanAt {w0 w5 : World} {b1 g cap h cap' n m : Nat} {LM : List ByteArray} {SM : List Sp} {wr : World} (o : Ov w0 w5 b1 g cap h cap' n m LM SM wr) (k : Nat) (hk : k < m) : (∃ u, wr.cell? ⟨h, k * 3, none⟩ = some u) ∧ (∃ u, wr.cell? ⟨h, k * 3 + 1, none⟩ = some u) ∧ (∃ u, wr.cell? ⟨h, k * 3 + 2, none⟩ = some u) ∧ wr.frozen? ⟨h, k * 3, none⟩ = false ∧ wr.frozen? ⟨h, k * 3 + 1, none⟩ = false ∧ wr.frozen? ⟨h, k * 3 + 2, none⟩ = false := by
  have h2 := (ownP_two o.spans).2.2
  obtain ⟨q0, q1, q2⟩ := cellsP_at SM k (by omega)
  exact ⟨⟨_, by rw [World.ownsRow.cellAt o.rowP _ (by omega)]; exact q0⟩, ⟨_, by rw [World.ownsRow.cellAt o.rowP _ (by omega)]; exact q1⟩, ⟨_, by rw [World.ownsRow.cellAt o.rowP _ (by omega)]; exact q2⟩, World.ownsRow.frozenAt o.rowP _, World.ownsRow.frozenAt o.rowP _, World.ownsRow.frozenAt o.rowP _⟩
theorem Ov.name {w0 w5 : World} {b1 g cap h cap' n m : Nat} {LM : List ByteArray} {SM : List Sp} {wr : World} (o : Ov w0 w5 b1 g cap h cap' n m LM SM wr) (k : Nat) (x : ByteArray) : Ov w0 w5 b1 g cap h cap' n m (LM.set k x) SM (wr.setCell ⟨g, k, none⟩ (.string x)) where
  names := by
    have h2 := (ownS_two o.names).2.2
    have h1 := (World.ownsRow.stored o.rowN k (.string x)).1
    unfold OwnS
    rw [List.length_set, ← h2, show cellsS (LM.set k x) = (cellsS LM).set k (.string x) by simp [cellsS, List.map_set]]
    exact h1
  spans := ownsRow_setCell_other o.spans (a := ⟨g, k, none⟩) (fun e => o.ne (by simp [Value.ownBlock] at e; exact e.symm)) _
  below := o.below.setCell o.gl.1 _
  agree := o.agree.only (Only.setCell wr g k _) (fun i hi => .inl (by have := o.gl.2; omega))
  gl := o.gl
  hl := o.hl
  ne := o.ne
theorem Ov.span {w0 w5 : World} {b1 g cap h cap' n m : Nat} {LM : List ByteArray} {SM : List Sp} {wr : World} (o : Ov w0 w5 b1 g cap h cap' n m LM SM wr) (k : Nat) (hk : k < m) (a b c : Int) : Ov w0 w5 b1 g cap h cap' n m LM (SM.set k (a, b, c)) (((wr.setCell ⟨h, k * 3, none⟩ (.int .i64 a)).setCell ⟨h, k * 3 + 1, none⟩ (.int .i64 b)).setCell ⟨h, k * 3 + 2, none⟩ (.int .i64 c)) where
  names := ownsRow_setCell_other (ownsRow_setCell_other (ownsRow_setCell_other o.names (a := ⟨h, k * 3, none⟩) (fun e => o.ne (by simp [Value.ownBlock] at e; exact e)) _) (a := ⟨h, k * 3 + 1, none⟩) (fun e => o.ne (by simp [Value.ownBlock] at e; exact e)) _) (a := ⟨h, k * 3 + 2, none⟩) (fun e => o.ne (by simp [Value.ownBlock] at e; exact e)) _
  spans := by
    have h2 := (ownP_two o.spans).2.2
    have h1 := (World.ownsRow.stored (World.ownsRow.stored (World.ownsRow.stored o.rowP (k * 3) (.int .i64 a)).1 (k * 3 + 1) (.int .i64 b)).1 (k * 3 + 2) (.int .i64 c)).1
    rw [cellsP_set3 SM k a b c (by omega)] at h1
    unfold OwnP
    rw [List.length_set, ← h2]
    exact h1
  below := ((o.below.setCell o.hl.1 _).setCell o.hl.1 _).setCell o.hl.1 _
  agree := ((o.agree.only (Only.setCell wr h (k * 3) _) (fun i hi => .inl (by have := o.hl.2; omega))).only (Only.setCell _ h (k * 3 + 1) _) (fun i hi => .inl (by have := o.hl.2; omega))).only (Only.setCell _ h (k * 3 + 2) _) (fun i hi => .inl (by have := o.hl.2; omega))
  gl := o.gl
  hl := o.hl
  ne := o.ne
set_option maxRecDepth 10000 in
set_option maxHeartbeats 6400000 in
theorem propsTables_any (A : Nat → Addr) (L : List ByteArray) (ss : List Sp) (pts : List Int) (aN aS aP : Option Addr) (cN cS cP : Nat) (x : ByteArray) (w : World) (hcN : L.length ≤ 10000000) (hcS : ss.length ≤ 10000000) (hP : pts.length ≤ 10000000) (hnN : aN = none → cN = 0) (hnS : aS = none → cS = 0)
    (hz : ∀ s ∈ L, s.size ≤ 1000000000000) (ha : SA w aN L) (hb : PA w aS ss) (hp : IA w aP pts) (he : Sents w A) :
    Calls Tryd.prog 5 #[.agg #[.slice aN L.length cN, .slice aS ss.length cS, .slice aP pts.length cP, .string x]] w fun e w' => e = .returned (.bool true) ∧ Below w.heap.size w w' := by
  obtain ⟨w0, hw0⟩ : ∃ w0, w0 = w.alloc (.cells #[.slice aN L.length cN, .slice aS ss.length cS, .slice aP pts.length cP, .string x] 28) := ⟨_, rfl⟩
  have hB0 : Below w.heap.size w w0 := by rw [hw0]; exact (Below.refl _ _).alloc (Nat.le_refl _) _
  have hX0 : w0.heap[w.heap.size]? = some (.cells #[.slice aN L.length cN, .slice aS ss.length cS, .slice aP pts.length cP, .string x] 28 (0, 0)) := by rw [hw0]; exact heap_alloc_new w _
  have hs0 : w0.heap.size = w.heap.size + 1 := by rw [hw0]; simp
  have HXW : Hid (∀ W, Below w0.heap.size w0 W → W.cell? ⟨w.heap.size, 0, none⟩ = some (.slice aN L.length cN) ∧ W.cell? ⟨w.heap.size, 1, none⟩ = some (.slice aS ss.length cS) ∧ W.cell? ⟨w.heap.size, 2, none⟩ = some (.slice aP pts.length cP) ∧ W.cell? ⟨w.heap.size, 3, none⟩ = some (.string x)) := hid0 (fun W hW => by
    have hr := (hW.block w.heap.size (by omega)).trans hX0
    exact ⟨by rw [cell_of_row _ _ _ _ _ _ hr]; rfl, by rw [cell_of_row _ _ _ _ _ _ hr]; rfl, by rw [cell_of_row _ _ _ _ _ _ hr]; rfl, by rw [cell_of_row _ _ _ _ _ _ hr]; rfl⟩)
  have HA := hid0 (ha.below hB0)
  have HPA := hid0 (hb.below hB0)
  have HIA : Hid (IA w0 aP pts) := hid0 (hp.later' hB0)
  have HZ := hid0 hz
  have HE := hid0 (he.below hB0)
  have HB0 := hid0 hB0
  have HNN := hid0 hnN
  have HNS := hid0 hnS
  have HLT := hid0 (lent_any L ss aN aS cN cS w0 (by omega) (by omega) hnN hnS (ha.below hB0) (hb.below hB0))
  obtain ⟨y0, y1, y2, y3⟩ := HXW.out w0 (Below.refl _ _)
  have hfold := hw0.symm
  clear ha hb hp he hB0 hw0 hX0 hs0 hz hnN hnS
  have mk : Hid True := trivial
  go_enter Tryd.func5, Tryd.ntmps5
  go_wp2_with (first
    | (clear mk; go_at_call 17; refine HLT.out.mono ?_; rintro e w1 ⟨g, cap, h, cap', rfl, ho, hq, hne, hb1⟩
       obtain ⟨w2, hw2⟩ : ∃ w2, w2 = w1.alloc (.cells #[.slice (some ⟨g, 0, none⟩) L.length cap, .slice (some ⟨h, 0, none⟩) ss.length cap'] 25) := ⟨_, rfl⟩
       have h12 : Below w1.heap.size w1 w2 := by { rw [hw2]; exact (Below.refl _ _).alloc (Nat.le_refl _) _ }
       have hs2 : w2.heap.size = w1.heap.size + 1 := by { rw [hw2]; simp }
       have hr2 : w2.heap[w1.heap.size]? = some (.cells #[.slice (some ⟨g, 0, none⟩) L.length cap, .slice (some ⟨h, 0, none⟩) ss.length cap'] 25 (0, 0)) := by { rw [hw2]; exact heap_alloc_new w1 _ }
       have hgl := World.ownsRow.lt ho g rfl
       have hhl := World.ownsRow.lt hq h rfl
       have hb2 : Below w0.heap.size w0 w2 := Below.later hb1 h12
       have hfold2 := hw2.symm
       have HO2 := hid0 (OwnS.later ho h12)
       have HQ2 := hid0 (OwnP.later hq h12)
       have HB2 := hid0 hb2
       have HR2 := hid0 hr2
       have HS2 := hid0 hs2
       have HGL := hid0 hgl
       have HHL := hid0 hhl
       have HNE := hid0 hne
       obtain ⟨n1, n2, n3⟩ := ownS_two (OwnS.later ho h12)
       obtain ⟨m1, m2, m3⟩ := ownP_two (OwnP.later hq h12)
       have hc1 : L.length + 2 ≤ cap := (by omega)
       have hc2 : ss.length + 2 ≤ cap' := (by omega)
       have HNW := hid0 ((new_any A L ss (some ⟨g, 0, none⟩) (some ⟨h, 0, none⟩) cap cap' w2 (by omega) (by omega) (by omega) (by omega) HZ.out n1.front m1.front (fun p hp => by cases hp; exact Nat.lt_of_lt_of_le hhl.2 h12.size) ((HE.out.below hb2).five)).mono (fun e w' h => h.form))
       obtain ⟨x0, x1, x2, x3⟩ := HXW.out w2 hb2
       have p0 : w2.cell? ⟨w1.heap.size, 0, none⟩ = some (.slice (some ⟨g, 0, none⟩) L.length cap) := by { rw [cell_of_row _ _ _ _ _ _ hr2]; rfl }
       have p1 : w2.cell? ⟨w1.heap.size, 1, none⟩ = some (.slice (some ⟨h, 0, none⟩) ss.length cap') := by { rw [cell_of_row _ _ _ _ _ _ hr2]; rfl }
       clear HLT ho hq hb1 y0 y1 y2 y3 hw2 h12 hs2 hr2 hgl hhl hb2 n1 n2 n3 m1 m2 m3 hne)
    | (go_at_call 7; refine HNW.out.mono ?_; rintro e w3 ⟨tv, ev, rfl, hn3, hb3⟩
       obtain ⟨x0, x1, x2, x3⟩ := HXW.out w3 (Below.later HB2.out hb3)
       have HB23 := hid0 hb3
       have HB3 := hid0 (Below.later HB2.out hb3)
       have HN3 := hid0 hn3
       have HRN := hid0 ((refNew_any L ss aN aS cN cS w3 (by omega) (by omega) HZ.out HNN.out HNS.out (HA.out.below (Below.later HB2.out hb3)) (HPA.out.below (Below.later HB2.out hb3))).mono (fun e w' h => h.form))
       clear HNW hb3 hn3)
    | (go_at_call 18; refine HRN.out.mono ?_; rintro e w4 ⟨uv, fv, rfl, hn4, hb4⟩
       have h24 := Below.later HB23.out hb4
       obtain ⟨x0, x1, x2, x3⟩ := HXW.out w4 (Below.later HB3.out hb4)
       have HB34 := hid0 hb4
       have HB24 := hid0 h24
       have HB4 := hid0 (Below.later HB3.out hb4)
       have HN4 := hid0 hn4
       have HRT := hid0 (returned_any L ss aN aS cN cS g h cap cap' w4 (by omega) (by omega) hc1 hc2 (HA.out.below (Below.later HB3.out hb4)) (HPA.out.below (Below.later HB3.out hb4)) (ownS_two (HO2.out.later h24)).1 (ownP_two (HQ2.out.later h24)).1)
       clear HRN hb4 hn4 h24)
    | (go_at_call 19; refine HRT.out.mono ?_; rintro e w5 ⟨rfl, hb5⟩
       have HB45 := hid0 hb5
       have HB5 := hid0 (Below.later HB4.out hb5)
       have HB25 := hid0 (Below.later HB24.out hb5)
       clear HRT hb5 x0 x1 x2 x3))
  obtain ⟨LM, hLM⟩ : ∃ LM, LM = L ++ [markB, markB] := ⟨_, rfl⟩
  obtain ⟨SM, hSM⟩ : ∃ SM, SM = ss ++ [((0 : Int), (0 : Int), (77 : Int)), (0, 0, 77)] := ⟨_, rfl⟩
  have hLMl : LM.length = L.length + 2 := by rw [hLM]; simp
  have hSMl : SM.length = ss.length + 2 := by rw [hSM]; simp
  have HLM := hid0 hLMl
  have HSM := hid0 hSMl
  have HOV : Hid (Ov w0 w5 w1.heap.size g cap h cap' (L.length + 2) (ss.length + 2) (over overB 0 LM) SM w5) := hid0 ⟨by rw [hLM]; simpa [over] using HO2.out.later HB25.out, by rw [hSM]; exact HQ2.out.later HB25.out, HB5.out, Agree.refl _ _, HGL.out, HHL.out, HNE.out⟩
  clear hLM hSM hLMl hSMl
  go_loopw [11] (fun i wr => ∃ k : Nat, k ≤ L.length + 2 ∧ i = .int .i64 (k : Int) ∧ Hid (Ov w0 w5 w1.heap.size g cap h cap' (L.length + 2) (ss.length + 2) (over overB k LM) SM wr)) (fun i _ => L.length + 2 - (intOf i).toNat)
  case atStart => exact ⟨0, Nat.zero_le _, rfl, HOV⟩
  case round =>
    clear HOV
    obtain ⟨k, hk, rfl, HOV⟩ := hrel
    by_cases hlt : k < L.length + 2
    · obtain ⟨⟨u0, c0⟩, f0⟩ := HOV.out.nameAt k hlt
      have hkI : (k : Int) < (L.length : Int) + 2 := by omega
      have hkI0 : (0 : Int) ≤ (k : Int) := by omega
      have HV2 : Hid (Ov w0 w5 w1.heap.size g cap h cap' (L.length + 2) (ss.length + 2) (over overB (k + 1) LM) SM (wr.setCell ⟨g, k, none⟩ (.string ⟨#[111, 118, 101, 114]⟩))) := hid0 (by
        rw [over_next _ _ _ (by rw [HLM.out]; exact hlt)]
        exact HOV.out.name k overB)
      clear HOV
      go_wp2
      go_roundw
      case rel => exact ⟨k + 1, by omega, by go_num, HV2⟩
      case measure => simp [intOf]; omega
    · have hkI : ¬ (k : Int) < (L.length : Int) + 2 := by omega
      have HV1 : Hid (Ov w0 w5 w1.heap.size g cap h cap' (L.length + 2) (ss.length + 2) (List.replicate (L.length + 2) overB) (over (5, 9, 0) 0 SM) wr) := hid0 (by
        have h1 := HOV.out
        have e : over overB k LM = List.replicate (L.length + 2) overB := by rw [show k = LM.length by rw [HLM.out]; omega, over_all, HLM.out]
        rw [e] at h1
        simpa [over] using h1)
      clear HOV
      go_wp2
      go_loopw [12] (fun i wr => ∃ k : Nat, k ≤ ss.length + 2 ∧ i = .int .i64 (k : Int) ∧ Hid (Ov w0 w5 w1.heap.size g cap h cap' (L.length + 2) (ss.length + 2) (List.replicate (L.length + 2) overB) (over (5, 9, 0) k SM) wr)) (fun i _ => ss.length + 2 - (intOf i).toNat)
      case atStart => exact ⟨0, Nat.zero_le _, rfl, HV1⟩
      case round =>
        clear HV1
        obtain ⟨k2, hk2, rfl, HOV⟩ := hrel
        by_cases hlt2 : k2 < ss.length + 2
        · obtain ⟨⟨u0, c0⟩, ⟨u1, c1⟩, ⟨u2, c2⟩, f0, f1, f2⟩ := HOV.out.spanAt k2 hlt2
          have hkI2 : (k2 : Int) < (ss.length : Int) + 2 := by omega
          have hkI0 : (0 : Int) ≤ (k2 : Int) := by omega
          have HV2 : Hid (Ov w0 w5 w1.heap.size g cap h cap' (L.length + 2) (ss.length + 2) (List.replicate (L.length + 2) overB) (over (5, 9, 0) (k2 + 1) SM) (((wr.setCell ⟨h, k2 * 3, none⟩ (.int .i64 5)).setCell ⟨h, k2 * 3 + 1, none⟩ (.int .i64 9)).setCell ⟨h, k2 * 3 + 2, none⟩ (.int .i64 0))) := hid0 (by
            rw [over_next _ _ _ (by rw [HSM.out]; exact hlt2)]
            exact HOV.out.span k2 hlt2 5 9 0)
          clear HOV
          go_wp2
          go_roundw
          case rel => exact ⟨k2 + 1, by omega, by go_num, HV2⟩
          case measure => simp [intOf]; omega
        · have hkI2 : ¬ (k2 : Int) < (ss.length : Int) + 2 := by omega
          have HV3 : Hid (Ov w0 w5 w1.heap.size g cap h cap' (L.length + 2) (ss.length + 2) (List.replicate (L.length + 2) overB) (List.replicate (ss.length + 2) (5, 9, 0)) wr) := hid0 (by
            have h1 := HOV.out
            have e : over ((5 : Int), (9 : Int), (0 : Int)) k2 SM = List.replicate (ss.length + 2) (5, 9, 0) := by rw [show k2 = SM.length by rw [HSM.out]; omega, over_all, HSM.out]
            rw [e] at h1
            exact h1)
          clear HOV
          have hr5 := (HB25.out.block w1.heap.size (by have := HS2.out; omega)).trans HR2.out
          have hrr : wr.heap[w1.heap.size]? = some (.cells #[.slice (some ⟨g, 0, none⟩) L.length cap, .slice (some ⟨h, 0, none⟩) ss.length cap'] 25 (0, 0)) := (HV3.out.agree.block w1.heap.size (Nat.le_refl _) (Array.getElem?_eq_some_iff.1 hr5).1).trans hr5
          have p0 : wr.cell? ⟨w1.heap.size, 0, none⟩ = some (.slice (some ⟨g, 0, none⟩) L.length cap) := by rw [cell_of_row _ _ _ _ _ _ hrr]; rfl
          have p1 : wr.cell? ⟨w1.heap.size, 1, none⟩ = some (.slice (some ⟨h, 0, none⟩) ss.length cap') := by rw [cell_of_row _ _ _ _ _ _ hrr]; rfl
          have HRW : Hid (Calls Tryd.prog 20 #[.agg #[.slice (some ⟨g, 0, none⟩) L.length cap, .slice (some ⟨h, 0, none⟩) ss.length cap']] wr fun e w' => e = .returned (.bool true) ∧ Below wr.heap.size wr w') := hid0 (by
            have h1 := (ownS_two HV3.out.names).1
            have h2 := (ownP_two HV3.out.spans).1
            rw [show List.replicate (L.length + 2) overB = List.replicate L.length overB ++ List.replicate 2 overB by rw [List.replicate_append_replicate]] at h1
            rw [show List.replicate (ss.length + 2) ((5 : Int), (9 : Int), (0 : Int)) = List.replicate ss.length (5, 9, 0) ++ List.replicate 2 (5, 9, 0) by rw [List.replicate_append_replicate]] at h2
            have h3 := renewed_any A (List.replicate L.length overB) (List.replicate ss.length (5, 9, 0)) (some ⟨g, 0, none⟩) (some ⟨h, 0, none⟩) cap cap' wr (by simp; omega) (by simp; omega) (by simp; omega) (by simp; omega) (fun s hs => by rw [List.eq_of_mem_replicate hs]; decide) (fun e => nomatch e) (fun e => nomatch e) h1.front h2.front (fun p hp => by cases hp; exact (World.ownsRow.lt HV3.out.rowP h rfl).2) (HE.out.below HV3.out.below)
            rw [List.length_replicate, List.length_replicate] at h3
            exact h3)
          have HBR := hid0 HV3.out.below
          have hA3 : Agree w3 wr w2.heap.size := by
            have h1 := ((Agree.refl w3 w2.heap.size).below HB34.out).below HB45.out
            exact ⟨Nat.le_trans h1.size HV3.out.agree.size, fun k q1 q2 => (HV3.out.agree.block k (by have := HS2.out; omega) (Nat.lt_of_lt_of_le q2 h1.size)).trans (h1.block k q1 q2)⟩
          have hA4 : Agree w4 wr w3.heap.size := by
            have h1 := (Agree.refl w4 w3.heap.size).below HB45.out
            exact ⟨Nat.le_trans h1.size HV3.out.agree.size, fun k q1 q2 => (HV3.out.agree.block k (by have h1 := HS2.out; have h2 := HB23.out.size; omega) (Nat.lt_of_lt_of_le q2 h1.size)).trans (h1.block k q1 q2)⟩
          have HA3 := hid0 hA3
          have HA4 := hid0 hA4
          have HEW : Hid (∀ W, Below wr.heap.size wr W → Sents W A) := hid0 (fun W hW => (HE.out.below HBR.out).below hW)
          have HEND : Hid (∀ W, Below wr.heap.size wr W → Below w.heap.size w W) := hid0 (fun W hW => Below.later HB0.out (Below.later HBR.out hW))
          have HXR : Hid (∀ W, Below wr.heap.size wr W → W.cell? ⟨w.heap.size, 2, none⟩ = some (.slice aP pts.length cP) ∧ W.cell? ⟨w.heap.size, 3, none⟩ = some (.string x)) := hid0 (fun W hW => (HXW.out W (Below.later HBR.out hW)).2.2)
          have HIR : Hid (IA wr aP pts) := hid0 (HIA.out.later' HBR.out)
          clear hA3 hA4 hr5 hrr HV3 HIA HXW HE HBR HB0 HB2 HB3 HB4 HB5 HB23 HB24 HB25 HB34 HB45 HA HPA HZ HNN HNS HO2 HQ2 HR2 HS2 HGL HHL HNE HLM HSM
          rcases HN3.out with ⟨i, hpf, htv, _⟩ | ⟨hpf, T, c, vN, vB, htv, ht, _⟩
          · rcases HN4.out with ⟨j, hpg, huv, _⟩ | ⟨hpg, _⟩
            · rw [hpf] at hpg
              cases hpg
              simp only [Ending.returned.injEq, Value.tuple.injEq, Array.mk.injEq, List.cons.injEq, and_true] at htv huv
              obtain ⟨rfl, rfl⟩ := htv
              obtain ⟨rfl, rfl⟩ := huv
              obtain ⟨hi11, hrefn⟩ := refNo_few hpf
              have HNU : Hid (∀ W, Below wr.heap.size wr W → Calls Tryd.prog 21 #[.iface 96 (.pointer (some (A i)))] W fun e w' => e = .returned (.int .i64 (numO (some i))) ∧ w' = W) := hid0 (fun W hW => by rw [← hrefn]; exact kitNum_at W A (HEW.out W hW) i hi11)
              have hev : errV A i = .iface 96 (.pointer (some (A i))) := rfl
              clear HN3 HN4 hpf hrefn hi11
              rw [hev]
              generalize numO (some i) = q at *
              go_wp2_with (first
                | (go_at_call 20; refine HRW.out.mono ?_; rintro e w8 ⟨rfl, h8⟩; have HB8 := hid0 h8; clear h8)
                | (go_at_call 21; refine (HNU.out _ HB8.out).mono ?_; rintro e w9 ⟨rfl, rfl⟩))
              go_ret
              exact ⟨rfl, HEND.out _ HB8.out⟩
            · rw [hpf] at hpg; cases hpg
          · rcases HN4.out with ⟨j, hpg, huv, _⟩ | ⟨hpg, U, vM, vS, huv, hu, _⟩
            · rw [hpf] at hpg; cases hpg
            · simp only [Ending.returned.injEq, Value.tuple.injEq, Array.mk.injEq, List.cons.injEq, and_true] at htv huv
              obtain ⟨rfl, rfl⟩ := htv
              obtain ⟨rfl, rfl⟩ := huv
              have hfew := propF_few hpf
              have HR := hid0 (propF_rise hpf)
              have HT := hid0 (tab_agree ht HA3.out)
              have HU := hid0 (rtab_agree hu HA4.out)
              clear HN3 HN4 hpf ht hu hpg HA3 HA4
              go_wp2_with (first
                | (go_at_call 20; refine HRW.out.mono ?_; rintro e w8 ⟨rfl, h8⟩; have HB8 := hid0 h8; obtain ⟨x2, x3⟩ := HXR.out _ h8; clear h8)
                | (go_at_call 21; refine (kitNum_nil _).mono ?_; rintro e w9 ⟨rfl, hw9⟩; have hw9' := hw9.symm; subst hw9'))
              have HT8 := hid0 (HT.out.below HB8.out)
              have HU8 := hid0 (HU.out.below HB8.out)
              have HI8 := hid0 (HIR.out.later' HB8.out)
              have HE8 : Hid (∀ W, Below w8.heap.size w8 W → Below w.heap.size w W) := hid0 (fun W hW => HEND.out W (Below.later HB8.out hW))
              have HX8 : Hid (∀ W, Below w8.heap.size w8 W → W.cell? ⟨w.heap.size, 2, none⟩ = some (.slice aP pts.length cP) ∧ W.cell? ⟨w.heap.size, 3, none⟩ = some (.string x)) := hid0 (fun W hW => HXR.out W (Below.later HB8.out hW))
              clear HT HU HIR HEND HXR HB8 HRW HEW x2 x3 p0 p1
              go_loopw [14] (fun v wq => ∃ i : Nat, i ≤ pts.length ∧ v = .int .i64 (i : Int) ∧ Hid (Below w8.heap.size w8 wq)) (fun v _ => pts.length - (intOf v).toNat)
              case atStart => exact ⟨0, Nat.zero_le _, rfl, hid0 (Below.refl _ _)⟩
              case round =>
                obtain ⟨i, hi2, rfl, HBq⟩ := hrel
                obtain ⟨z2, z3⟩ := HX8.out wr HBq.out
                by_cases hlt3 : i < pts.length
                · obtain ⟨bp, op, rfl, hbp, dp⟩ := (HI8.out.later' HBq.out).at' i hlt3
                  have hiI : (i : Int) < (pts.length : Int) := by omega
                  have hiI0 : (0 : Int) ≤ (i : Int) := by omega
                  generalize pts[i] = pp at dp
                  have HSo2 : Hid (∀ W, Below wr.heap.size wr W → W.cell? ⟨w.heap.size, 2, none⟩ = some (.slice (some ⟨bp, op, none⟩) pts.length cP) ∧ W.cell? ⟨bp, op + i, none⟩ = some (.int .i64 pp) ∧ Below wr.heap.size wr W) := hid0 (fun W hW => ⟨(hW.cell (World.block_lt_of_cell? _ _ z2)).trans z2, (hW.cell (World.block_lt_of_cell? _ _ dp)).trans dp, hW⟩)
                  have HCC2 : Hid (∀ W p, Below wr.heap.size wr W → Calls Tryd.prog 10 #[.pointer (some ⟨T, 0, none⟩), .int .i64 p] W fun e w' => e = .returned (.int .i64 (cls ss p)) ∧ Below wr.heap.size wr w') := hid0 (fun W p hW =>
                    (class_any L.length W _ T _ ss c vN vB p HR.out (by omega) (by omega) ((HT8.out.below HBq.out).below hW)).mono (fun e w' h => ⟨h.1, Below.later hW h.2⟩))
                  have HDC2 : Hid (∀ W p, Below wr.heap.size wr W → Calls Tryd.prog 22 #[.pointer (some ⟨U, 0, none⟩), .int .i64 p] W fun e w' => e = .returned (.int .i64 (cls ss p)) ∧ Below wr.heap.size wr w') := hid0 (fun W p hW =>
                    (refClass_tab L.length W _ U L ss vM vS p (by omega) HR.out (by omega) ((HU8.out.below HBq.out).below hW)).mono (fun e w' h => ⟨h.1, by rw [h.2]; exact hW⟩))
                  have hBrr := Below.refl wr.heap.size wr
                  have HNXT : Hid (∀ W, Below wr.heap.size wr W → Below w8.heap.size w8 W) := hid0 (fun W hW => Below.later HBq.out hW)
                  generalize hcp : cls ss pp = cp
                  have HCP := hid0 hcp
                  clear hcp
                  go_wp2
                  go_region_held3 (fun W => W.cell? ⟨w.heap.size, 2, none⟩ = some (.slice (some ⟨bp, op, none⟩) pts.length cP) ∧ W.cell? ⟨bp, op + i, none⟩ = some (.int .i64 pp) ∧ Below wr.heap.size wr W) (first | exact HSo2.out _ (by go_grown) | (go_split_ands; exact HSo2.out _ (by go_grown)))
                    (first
                      | (go_at_call 10; go_split_ands; refine (HCC2.out _ _ (by go_grown)).mono ?_; rintro e w12 ⟨rfl, hb12⟩)
                      | (go_at_call 22; go_split_ands; refine (HDC2.out _ _ (by go_grown)).mono ?_; rintro e w12 ⟨rfl, hb12⟩))
                  all_goals
                    go_wp2
                    go_roundw
                    case rel => exact ⟨i + 1, by omega, by go_num, hid0 (HNXT.out _ (by assumption))⟩
                    case measure => simp [intOf]; omega
                · have hiI : ¬ (i : Int) < (pts.length : Int) := by omega
                  have HTq := hid0 (HT8.out.below HBq.out)
                  have HUq := hid0 (HU8.out.below HBq.out)
                  have HIq := hid0 (HI8.out.later' HBq.out)
                  have HEq : Hid (∀ W, Below wr.heap.size wr W → Below w.heap.size w W) := hid0 (fun W hW => HE8.out W (Below.later HBq.out hW))
                  have HXq : Hid (∀ W, Below wr.heap.size wr W → W.cell? ⟨w.heap.size, 2, none⟩ = some (.slice aP pts.length cP) ∧ W.cell? ⟨w.heap.size, 3, none⟩ = some (.string x)) := hid0 (fun W hW => HX8.out W (Below.later HBq.out hW))
                  clear HT8 HU8 HI8 HE8 HX8 HBq
                  go_wp2_with (first
                    | (go_at_call 8; refine (names_any wr _ T (otherB :: L) ss c vN vB (by simp) (by simp; omega) HTq.out).mono ?_; rintro e w4 ⟨vn, rfl, h1, h2⟩; have HO4 := hid0 h1; have HB4 := hid0 h2; have HU4 := hid0 (HUq.out.below h2); clear h1 h2)
                    | (go_at_call 23; refine (refTabNames_any w4 _ U L ss vM vS (by omega) HU4.out).mono ?_; rintro e w5 ⟨vm, rfl, h1, h2⟩; obtain ⟨an, cn, rfl, sn, hjk1⟩ := (HO4.out.later h2).sa; obtain ⟨am, cm, rfl, sm, hjk2⟩ := h1.sa; have HSM := hid0 (sameS (otherB :: L) an am cn cm w5 (by simp; omega) sn sm); have HB5 := hid0 (Below.later HB4.out h2); clear h1 h2 hjk1 hjk2 sn sm)
                    | (go_at_call 15; refine HSM.out.mono ?_; rintro e w6 ⟨rfl, nd, hw6⟩; have h6 : Below w5.heap.size w5 w6 := by { rw [hw6]; exact ⟨rfl, rfl, rfl, Nat.le_refl _, fun _ _ => rfl⟩ }; have HB6 := hid0 (Below.later HB5.out h6); obtain ⟨z2, z3⟩ := HXq.out w6 (Below.later HB5.out h6); clear h6 hw6)
                    | (go_at_call 24; refine (classed_any w6 _ T _ U L ss c vN vB vM vS pts aP cP (HTq.out.below HB6.out) (HUq.out.below HB6.out) HR.out (by omega) (by omega) (by omega) (HIq.out.later' HB6.out)).mono ?_; rintro e w7 ⟨rfl, h7⟩; have HB7 := hid0 (Below.later HB6.out h7); clear h7))
                  obtain ⟨nq, hnq⟩ : ∃ nq : Int, nq = Lib.idxOfS (otherB :: L) x := ⟨_, rfl⟩
                  obtain ⟨nz, hnz⟩ : ∃ nz : Nat, nz = (ord (blkOf (cls ss)) 8704).length := ⟨_, rfl⟩
                  have HT7 := hid0 (HTq.out.below HB7.out)
                  have HU7 := hid0 (HUq.out.below HB7.out)
                  have HK1 : Hid (∀ W, Below w7.heap.size w7 W → Calls Tryd.prog 25 #[.pointer (some ⟨T, 0, none⟩), .string x] W fun e w' => e = .returned (.int .i64 nq) ∧ Below w7.heap.size w7 w') := hid0 (fun W hW => (number_name W _ T _ ss c vN vB x (by simp; omega) (HT7.out.below hW)).mono (fun e w' h => ⟨by rw [h.1, hnq], by rw [h.2]; exact hW⟩))
                  have HK2 : Hid (∀ W, Below w7.heap.size w7 W → Calls Tryd.prog 26 #[.pointer (some ⟨U, 0, none⟩), .string x] W fun e w' => e = .returned (.int .i64 nq) ∧ Below w7.heap.size w7 w') := hid0 (fun W hW => (refNumber_any W _ U L ss vM vS x (by omega) (HU7.out.below hW)).mono (fun e w' h => ⟨by rw [h.1, hnq], Below.later hW h.2⟩))
                  have HK3 : Hid (∀ W, Below w7.heap.size w7 W → Calls Tryd.prog 9 #[.pointer (some ⟨T, 0, none⟩)] W fun e w' => e = .returned (.int .i64 (nz : Int)) ∧ Below w7.heap.size w7 w') := hid0 (fun W hW => (size_any W _ T _ ss c vN vB (HT7.out.below hW)).mono (fun e w' h => ⟨by rw [h.1, hnz], by rw [h.2]; exact hW⟩))
                  have HK4 : Hid (∀ W, Below w7.heap.size w7 W → Calls Tryd.prog 27 #[.pointer (some ⟨U, 0, none⟩)] W fun e w' => e = .returned (.int .i64 (nz : Int)) ∧ Below w7.heap.size w7 w') := hid0 (fun W hW => (refSize_any L.length W _ U L ss vM vS (by omega) HR.out (by omega) (HU7.out.below hW)).mono (fun e w' h => ⟨by rw [h.1, kinds_len, hnz], Below.later hW h.2⟩))
                  obtain ⟨z4, z5⟩ := HXq.out w7 HB7.out
                  have HSo3 : Hid (∀ W, Below w7.heap.size w7 W → W.cell? ⟨w.heap.size, 3, none⟩ = some (.string x) ∧ Below w7.heap.size w7 W) := hid0 (fun W hW => ⟨(hW.cell (World.block_lt_of_cell? _ _ z5)).trans z5, hW⟩)
                  have HEF : Hid (∀ W, Below w7.heap.size w7 W → Below w.heap.size w W) := hid0 (fun W hW => HEq.out W (Below.later HB7.out hW))
                  have hB77 := Below.refl w7.heap.size w7
                  have hn1 : (nq == nq) = true := by simp
                  have hn2 : ((nz : Int) == (nz : Int)) = true := by simp
                  clear hnq hnz HTq HUq HIq HEq HXq HB7 HB6 HB5 HB4 HT7 HU7 HU4 HO4 HSM z2 z3 z4
                  go_region_held3 (fun W => W.cell? ⟨w.heap.size, 3, none⟩ = some (.string x) ∧ Below w7.heap.size w7 W) (first | exact HSo3.out _ (by go_grown) | (go_split_ands; exact HSo3.out _ (by go_grown)))
                    (first
                      | (go_at_call 25; go_split_ands; refine (HK1.out _ (by go_grown)).mono ?_; rintro e w12 ⟨rfl, hb12⟩)
                      | (go_at_call 26; go_split_ands; refine (HK2.out _ (by go_grown)).mono ?_; rintro e w12 ⟨rfl, hb12⟩)
                      | (go_at_call 9; go_split_ands; refine (HK3.out _ (by go_grown)).mono ?_; rintro e w12 ⟨rfl, hb12⟩)
                      | (go_at_call 27; go_split_ands; refine (HK4.out _ (by go_grown)).mono ?_; rintro e w12 ⟨rfl, hb12⟩))
                  all_goals
                    go_wp2
                    go_ret
                    exact ⟨rfl, HEF.out _ (by assumption)⟩
end Go.Proofs.YtpimameogmkpcaaDoor
