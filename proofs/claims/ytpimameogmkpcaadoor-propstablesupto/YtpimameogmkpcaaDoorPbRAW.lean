/-
  The walk of caesuraref5's put.
-/
import Derived.Test.YtpimameogmkpcaaDoorPbR9M
import Derived.Test.YtpimameogmkpcaaDoorPbR4W
import Derived.WalkSmall
namespace Go.Proofs.YtpimameogmkpcaaDoor
open Go.RowKit Go.Shelf
def cellsQ (l : List Pc) : List Value := l.flatMap fun u => [.int .i64 u.1, .int .i64 u.2]
theorem cellsQ_append (l m : List Pc) : cellsQ (l ++ m) = cellsQ l ++ cellsQ m := by simp [cellsQ]
theorem cellsQ_length (l : List Pc) : (cellsQ l).length = l.length * 2 := by
  induction l with
  | nil => rfl
  | cons u l ih =>
    have e : cellsQ (u :: l) = .int .i64 u.1 :: .int .i64 u.2 :: cellsQ l := rfl
    rw [e]; simp [ih]; omega
theorem cellsQ_at (l : List Pc) : ∀ (k : Nat) (h : k < l.length), (cellsQ l)[k * 2]? = some (.int .i64 l[k].1) ∧ (cellsQ l)[k * 2 + 1]? = some (.int .i64 l[k].2) := by
  induction l with
  | nil => intro k h; simp at h
  | cons u l ih =>
    intro k h
    have e : cellsQ (u :: l) = .int .i64 u.1 :: .int .i64 u.2 :: cellsQ l := rfl
    cases k with
    | zero => rw [e]; simp
    | succ k =>
      obtain ⟨h1, h2⟩ := ih k (by simpa using h)
      rw [e, show (k + 1) * 2 = k * 2 + 1 + 1 by omega]
      exact ⟨by simpa using h1, by simpa using h2⟩
def OwnQ (w : World) (base : Nat) (v : Value) (l : List Pc) : Prop := w.ownsRow base 88 2 v l.length (cellsQ l)
theorem infoPc : (Tryd.prog.info? 88).map (fun i => (i.zero, i.size, i.bytes)) = some (some (.agg #[.int .i64 0, .int .i64 0]), 2, 16) := by kernel_rfl
/-- An own row of one piece or more: its last piece's cells, and the row without it. -/
theorem OwnQ.snoc {w : World} {base : Nat} {v : Value} {X : List Pc} {q : Pc} (h : OwnQ w base v (X ++ [q])) :
    ∃ g cap, v = .slice (some ⟨g, 0, none⟩) (X.length + 1) cap ∧ X.length + 1 ≤ cap ∧ base ≤ g ∧ g < w.heap.size ∧ w.cell? ⟨g, X.length * 2, none⟩ = some (.int .i64 q.1) ∧ w.cell? ⟨g, X.length * 2 + 1, none⟩ = some (.int .i64 q.2) ∧ OwnQ w base (.slice (some ⟨g, 0, none⟩) X.length cap) X := by
  have h0 := h
  rcases h.2 with ⟨_, hn⟩ | ⟨g, cap, cur, rfl, hg, hr, hc, _⟩
  · simp at hn
  · have hlen : (X ++ [q]).length = X.length + 1 := by simp
    have hx : X.length < (X ++ [q]).length := by simp
    have hq : (X ++ [q])[X.length] = q := by simp
    have hat := cellsQ_at (X ++ [q]) X.length hx
    rw [hq] at hat
    refine ⟨g, cap, by rw [hlen], by omega, hg, (World.ownsRow.lt h0 g rfl).2, ?_, ?_, ?_⟩
    · rw [World.ownsRow.cellAt h0 (X.length * 2) (by omega)]; exact hat.1
    · rw [World.ownsRow.cellAt h0 (X.length * 2 + 1) (by omega)]; exact hat.2
    · have h1 := h0
      unfold OwnQ at h1 ⊢
      rw [hlen, cellsQ_append] at h1
      exact ownsRow_pop (cellsQ_length X) h1
theorem putF_far (l : List Pc) (p : Pc) (h : 128 ≤ p.1) : putF l p = l := by unfold putF; rw [if_pos h]
theorem putF_snoc (X : List Pc) (q p : Pc) (h : ¬ 128 ≤ p.1) : putF (X ++ [q]) p = if q.1 = p.1 then (if X.getLast?.any (fun r => decide (r.2 = p.2)) = true then X else X ++ [p]) else (if q.2 = p.2 then X ++ [q] else X ++ [q] ++ [p]) := by
  unfold putF
  rw [if_neg h]
  simp only [List.getLast?_append, List.getLast?_singleton, Option.some_or, Option.any_some, decide_eq_true_eq]
  by_cases h1 : q.1 = p.1
  · simp only [if_pos h1, List.dropLast_concat]
  · simp only [if_neg h1, List.getLast?_append, List.getLast?_singleton, Option.some_or, Option.any_some, decide_eq_true_eq]
theorem cell2_new (w : World) (a b : Value) (t : TypeId) : ∀ j u, [a, b][j]? = some u → (w.alloc (.cells #[a, b] t)).cell? ((⟨w.heap.size, 0, none⟩ : Addr).add j) = some u := by
  intro j u hu
  rw [show (⟨w.heap.size, 0, none⟩ : Addr).add j = ⟨w.heap.size, j, none⟩ by rw [Addr.add_lit]; simp, cell_of_row _ _ _ _ _ _ (heap_alloc_new w _)]
  simpa using hu
theorem owns_snocQ {w wr w1 : World} {base : Nat} {v v' : Value} {L : List Pc} {c : Pc} {o : Obj} {n : Nat} (hn : n = L.length) (hown : OwnQ wr base v L)
    (hown' : w1.ownsRow base 88 2 v' (n + 1) (cellsQ L ++ [.int .i64 c.1, .int .i64 c.2])) (hgrow : (wr.alloc o).grownBy w1 v.ownBlock) (hbel : Below base w wr) (hb : base ≤ w.heap.size) :
    OwnQ w1 base v' (L ++ [c]) ∧ Below base w w1 := by
  subst hn
  have hsz := hbel.size
  refine ⟨?_, (hbel.alloc (by omega) o).grown hgrow (by simp; omega) (fun k hk => (World.ownsRow.lt hown k hk).1)⟩
  unfold OwnQ
  rw [List.length_append, List.length_singleton, cellsQ_append]
  exact hown'
set_option maxRecDepth 10000 in
set_option maxHeartbeats 1600000 in
theorem put_any (w : World) (base : Nat) (v : Value) (X : List Pc) (q : Pc) (at' c : Int) (hl : X.length ≤ 1000000) (hb : base ≤ w.heap.size) (h : OwnQ w base v (X ++ [q])) :
    Calls Tryd.prog 47 #[v, .agg #[.int .i64 at', .int .i64 c]] w fun e w' => ∃ v', e = .returned v' ∧ OwnQ w' base v' (putF (X ++ [q]) (at', c)) ∧ Below base w w' := by
  obtain ⟨i0, hi, hz0, hz1, hz2⟩ := info_parts infoPc
  obtain ⟨w0, hw0⟩ : ∃ w0, w0 = w.alloc (.cells #[.int .i64 at', .int .i64 c] 88) := ⟨_, rfl⟩
  have hB0 : Below w.heap.size w w0 := by rw [hw0]; exact (Below.refl _ _).alloc (Nat.le_refl _) _
  have hb0 : Below base w w0 := ⟨hB0.os, hB0.tape, hB0.output, hB0.size, fun k hk => hB0.block k (by omega)⟩
  have y0 : w0.cell? ⟨w.heap.size, 0, none⟩ = some (.int .i64 at') := by rw [hw0, cell_of_row _ _ _ _ _ _ (heap_alloc_new w _)]; rfl
  have y1 : w0.cell? ⟨w.heap.size, 1, none⟩ = some (.int .i64 c) := by rw [hw0, cell_of_row _ _ _ _ _ _ (heap_alloc_new w _)]; rfl
  have h0 : OwnQ w0 base v (X ++ [q]) := by rw [hw0]; exact World.ownsRow.alloc h _
  have hs0 : w0.heap.size = w.heap.size + 1 := by rw [hw0]; simp
  obtain ⟨g, cap, rfl, hcap, hgb, hgl, d0, d1, hX⟩ := h0.snoc
  have hfold := hw0.symm
  have HO := hid0 h0
  have HX := hid0 hX
  have HB0 := hid0 hb0
  have HS0 := hid0 hs0
  clear h hw0 hB0 hb0 h0 hX hs0
  by_cases hat : 128 ≤ at'
  · have HV := hid0 (putF_far (X ++ [q]) (at', c) hat)
    go_enter Tryd.func47, Tryd.ntmps47
    go_wp2
    go_ret
    exact ⟨_, rfl, by rw [HV.out]; have h := HO.out; exact h, HB0.out⟩
  · have HV := hid0 (putF_snoc X q (at', c) hat)
    obtain ⟨qa, qc⟩ := q
    simp only at d0 d1
    obtain ⟨n, hn⟩ : ∃ n, X.length = n := ⟨_, rfl⟩
    rw [hn] at d0 d1 hcap hl
    obtain ⟨m, hm⟩ : ∃ m, X.length + 1 = m := ⟨_, rfl⟩
    rw [hm]
    have hlen : (m : Int) - 1 = (n : Int) := by omega
    have hlw : IntKind.i64.wrap (n : Int) = (n : Int) := by simp [IntKind.wrap, IntKind.bits, IntKind.signed]; omega
    have hI0 : (0 : Int) ≤ (n : Int) := by omega
    have hIm : (n : Int) < (m : Int) := by omega
    have hm0 : (0 : Int) < (m : Int) := by omega
    have hmc : m ≤ cap := by omega
    have hm1 : 0 < m := by omega
    have HN := hid0 hn
    have HM := hid0 hm
    clear hn hm hcap
    by_cases t1 : qa = at'
    · rw [t1] at d0
      have HV2 : Hid (putF (X ++ [(qa, qc)]) (at', c) = if X.getLast?.any (fun r => decide (r.2 = c)) = true then X else X ++ [(at', c)]) := hid0 (by rw [HV.out, if_pos t1])
      have HOM : Hid (w0.ownsRow base 88 2 (.slice (some ⟨g, 0, none⟩) n cap) n (cellsQ X)) := hid0 (by have h := HX.out; unfold OwnQ at h; rw [HN.out] at h; exact h)
      have hnc : (n : Int) ≤ (cap : Int) := by omega
      clear HV t1 d1
      rcases List.eq_nil_or_concat X with hX0 | ⟨Y, r, hXY⟩
      · have hn0 : n = 0 := by have h := HN.out; rw [hX0] at h; simpa using h.symm
        have hn1 : ¬ 0 < n := by omega
        have HW : Hid (putF (X ++ [(qa, qc)]) (at', c) = X ++ [(at', c)]) := hid0 (by rw [HV2.out, hX0]; rfl)
        clear HV2 hX0 hn0
        go_enter Tryd.func47, Tryd.ntmps47
        go_wp2
        go_region_held3 (fun w' => w'.cell? ⟨w.heap.size, 0, none⟩ = some (.int .i64 at') ∧ w'.cell? ⟨g, n * 2, none⟩ = some (.int .i64 at')) (go_keep) (fail)
        go_wp2
        go_quiet ((fail))
        go_wp2_with (at_builtin; refine wpList_append_own _ rfl _ _ 77 rfl base 88 i0 (.agg #[.int .i64 0, .int .i64 0]) 2 16 Tryd.underlying77 hi hz0 hz1 hz2 rfl (by decide) _ _ _ rfl (World.ownsRow.alloc HOM.out _) ⟨w0.heap.size, 0, none⟩ 1 1 [.int .i64 at', .int .i64 c] rfl rfl (cell2_new _ _ _ _) ?c2b ?c3b ?c4b ?c5b ?_)
        case c2b => simp [Value.oneCell']
        case c3b => unfold maxLen; omega
        case c4b => omega
        case c5b => have h1 := HS0.out; simp; omega
        intro v' w4 hown' hgrow _
        obtain ⟨g1, g2⟩ := owns_snocQ (w := w) (wr := w0) (base := base) (L := X) (c := (at', c)) (n := n) HN.out.symm (by have h := HX.out; rw [HN.out] at h; exact h) hown' (o := .cells #[.int .i64 at', .int .i64 c] 88) ⟨hgrow.os, hgrow.tape, hgrow.output, hgrow.size, hgrow.block⟩ HB0.out hb
        have HO4 := hid0 g1
        have HB4 := hid0 g2
        clear hown' hgrow g1 g2
        go_wp2
        go_ret
        exact ⟨_, rfl, by rw [HW.out]; exact HO4.out, HB4.out⟩
      · obtain ⟨g', cap', he, _, _, _, _, r1, _⟩ := OwnQ.snoc (X := Y) (q := r) (by have h := HX.out; rw [hXY, List.concat_eq_append] at h; exact h)
        have hg' : g' = g := by simp only [Value.slice.injEq, Option.some.injEq, Addr.mk.injEq] at he; exact he.1.1.symm
        subst hg'
        obtain ⟨k, hk⟩ : ∃ k, Y.length = k := ⟨_, rfl⟩
        rw [hk] at r1
        have hnk : n = k + 1 := by have h := HN.out; rw [hXY] at h; simp at h; omega
        have hlk : (n : Int) - 1 = (k : Int) := by omega
        have hkw : IntKind.i64.wrap (k : Int) = (k : Int) := by simp [IntKind.wrap, IntKind.bits, IntKind.signed]; omega
        have hk0 : (0 : Int) ≤ (k : Int) := by omega
        have hkn : (k : Int) < (n : Int) := by omega
        have hn1 : 0 < n := by omega
        have HG : Hid (X.getLast?.any (fun u => decide (u.2 = c)) = decide (r.2 = c)) := hid0 (by rw [hXY]; simp)
        obtain ⟨ra, rc⟩ := r
        simp only at r1 HG
        clear he hXY hk hnk
        by_cases t3 : rc = c
        · have HW : Hid (putF (X ++ [(qa, qc)]) (at', c) = X) := hid0 (by rw [HV2.out, if_pos (by rw [HG.out]; simpa using t3)])
          clear HV2 HG
          rw [t3] at r1
          go_enter Tryd.func47, Tryd.ntmps47
          go_wp2
          go_region_held3 (fun w' => w'.cell? ⟨w.heap.size, 0, none⟩ = some (.int .i64 at') ∧ w'.cell? ⟨g', n * 2, none⟩ = some (.int .i64 at')) (go_keep) (fail)
          go_wp2
          go_region_held3 (fun w' => w'.cell? ⟨w.heap.size, 1, none⟩ = some (.int .i64 c) ∧ w'.cell? ⟨g', k * 2 + 1, none⟩ = some (.int .i64 c)) (go_keep) (fail)
          go_wp2
          go_ret
          exact ⟨_, rfl, by rw [HW.out]; have h := HX.out; rw [HN.out] at h; exact h, HB0.out.drew.drew⟩
        · have HW : Hid (putF (X ++ [(qa, qc)]) (at', c) = X ++ [(at', c)]) := hid0 (by rw [HV2.out, if_neg (by rw [HG.out]; simpa using t3)])
          clear HV2 HG
          go_enter Tryd.func47, Tryd.ntmps47
          go_wp2
          go_region_held3 (fun w' => w'.cell? ⟨w.heap.size, 0, none⟩ = some (.int .i64 at') ∧ w'.cell? ⟨g', n * 2, none⟩ = some (.int .i64 at')) (go_keep) (fail)
          go_wp2
          go_region_held3 (fun w' => w'.cell? ⟨w.heap.size, 1, none⟩ = some (.int .i64 c) ∧ w'.cell? ⟨g', k * 2 + 1, none⟩ = some (.int .i64 rc)) (go_keep) (fail)
          go_wp2_with (at_builtin; refine wpList_append_own _ rfl _ _ 77 rfl base 88 i0 (.agg #[.int .i64 0, .int .i64 0]) 2 16 Tryd.underlying77 hi hz0 hz1 hz2 rfl (by decide) _ _ _ rfl (World.ownsRow.alloc HOM.out _) ⟨w0.heap.size, 0, none⟩ 1 1 [.int .i64 at', .int .i64 c] rfl rfl (cell2_new _ _ _ _) ?c2b ?c3b ?c4b ?c5b ?_)
          case c2b => simp [Value.oneCell']
          case c3b => unfold maxLen; omega
          case c4b => omega
          case c5b => have h1 := HS0.out; simp; omega
          intro v' w4 hown' hgrow _
          obtain ⟨g1, g2⟩ := owns_snocQ (w := w) (wr := w0) (base := base) (L := X) (c := (at', c)) (n := n) HN.out.symm (by have h := HX.out; rw [HN.out] at h; exact h) hown' (o := .cells #[.int .i64 at', .int .i64 c] 88) ⟨hgrow.os, hgrow.tape, hgrow.output, hgrow.size, hgrow.block⟩ HB0.out hb
          have HO4 := hid0 g1
          have HB4 := hid0 g2
          clear hown' hgrow g1 g2
          go_wp2
          go_ret
          exact ⟨_, rfl, by rw [HW.out]; exact HO4.out, HB4.out⟩
    · by_cases t2 : qc = c
      · have HW : Hid (putF (X ++ [(qa, qc)]) (at', c) = X ++ [(qa, qc)]) := hid0 (by rw [HV.out, if_neg t1, if_pos t2])
        clear HV
        subst t2
        go_enter Tryd.func47, Tryd.ntmps47
        go_wp2
        go_region_held3 (fun w' => w'.cell? ⟨w.heap.size, 0, none⟩ = some (.int .i64 at') ∧ w'.cell? ⟨g, n * 2, none⟩ = some (.int .i64 qa)) (go_keep) (fail)
        go_wp2
        go_region_held3 (fun w' => w'.cell? ⟨w.heap.size, 1, none⟩ = some (.int .i64 qc) ∧ w'.cell? ⟨g, n * 2 + 1, none⟩ = some (.int .i64 qc)) (go_keep) (fail)
        go_wp2
        go_ret
        exact ⟨_, rfl, by rw [HW.out]; have h := HO.out; rw [HM.out] at h; exact h, HB0.out.drew.drew⟩
      · have HW : Hid (putF (X ++ [(qa, qc)]) (at', c) = X ++ [(qa, qc)] ++ [(at', c)]) := hid0 (by rw [HV.out, if_neg t1, if_neg t2])
        have HOM : Hid (w0.ownsRow base 88 2 (.slice (some ⟨g, 0, none⟩) m cap) m (cellsQ (X ++ [(qa, qc)]))) := hid0 (by have h := HO.out; unfold OwnQ at h; rw [List.length_append, List.length_singleton, HM.out] at h; exact h)
        clear HV
        go_enter Tryd.func47, Tryd.ntmps47
        go_wp2
        go_region_held3 (fun w' => w'.cell? ⟨w.heap.size, 0, none⟩ = some (.int .i64 at') ∧ w'.cell? ⟨g, n * 2, none⟩ = some (.int .i64 qa)) (go_keep) (fail)
        go_wp2
        go_region_held3 (fun w' => w'.cell? ⟨w.heap.size, 1, none⟩ = some (.int .i64 c) ∧ w'.cell? ⟨g, n * 2 + 1, none⟩ = some (.int .i64 qc)) (go_keep) (fail)
        go_wp2_with (at_builtin; refine wpList_append_own _ rfl _ _ 77 rfl base 88 i0 (.agg #[.int .i64 0, .int .i64 0]) 2 16 Tryd.underlying77 hi hz0 hz1 hz2 rfl (by decide) _ _ _ rfl (World.ownsRow.alloc HOM.out _) ⟨w0.heap.size, 0, none⟩ 1 1 [.int .i64 at', .int .i64 c] rfl rfl (cell2_new _ _ _ _) ?c2b ?c3b ?c4b ?c5b ?_)
        case c2b => simp [Value.oneCell']
        case c3b => unfold maxLen; omega
        case c4b => omega
        case c5b => have h1 := HS0.out; simp; omega
        intro v' w4 hown' hgrow _
        obtain ⟨g1, g2⟩ := owns_snocQ (w := w) (wr := w0) (base := base) (L := X ++ [(qa, qc)]) (c := (at', c)) (n := m) (by rw [List.length_append, List.length_singleton, HM.out]) (by have h := HO.out; rw [HM.out] at h; exact h) hown' (o := .cells #[.int .i64 at', .int .i64 c] 88) ⟨hgrow.os, hgrow.tape, hgrow.output, hgrow.size, hgrow.block⟩ HB0.out hb
        have HO4 := hid0 g1
        have HB4 := hid0 g2
        clear hown' hgrow g1 g2
        go_wp2
        go_ret
        exact ⟨_, rfl, by rw [HW.out]; exact HO4.out, HB4.out⟩
end Go.Proofs.YtpimameogmkpcaaDoor
