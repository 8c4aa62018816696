/-
  Spans in memory; the walk of caesuraref4.put.
-/
import Derived.Test.YthdmhelgmejicaaGreatDoorPfFdW
import Derived.Test.YthdmhelgmejicaaGreatDoorWalkW
namespace Go.Proofs.YthdmhelgmejicaaGreatDoor
open Go.RowKit Go.Shelf
abbrev Sp := Int × Int × Int
def cellsP (l : List Sp) : List Value := l.flatMap fun u => [.int .i64 u.1, .int .i64 u.2.1, .int .i64 u.2.2]
theorem cellsP_length (l : List Sp) : (cellsP l).length = l.length * 3 := by
  induction l with
  | nil => rfl
  | cons u l ih => rw [cellsP, List.flatMap_cons, List.length_append, List.length_cons]; rw [cellsP] at ih; rw [ih]; simp; omega
theorem cellsP_append (l m : List Sp) : cellsP (l ++ m) = cellsP l ++ cellsP m := by simp [cellsP]
theorem cellsP_at (l : List Sp) : ∀ (k : Nat) (h : k < l.length), (cellsP l)[k * 3]? = some (.int .i64 l[k].1) ∧ (cellsP l)[k * 3 + 1]? = some (.int .i64 l[k].2.1) ∧ (cellsP l)[k * 3 + 2]? = some (.int .i64 l[k].2.2) := by
  induction l with
  | nil => intro k h; simp at h
  | cons u l ih =>
    intro k h
    have e : cellsP (u :: l) = .int .i64 u.1 :: .int .i64 u.2.1 :: .int .i64 u.2.2 :: cellsP l := rfl
    cases k with
    | zero => rw [e]; simp
    | succ k =>
      obtain ⟨h1, h2, h3⟩ := ih k (by simpa using h)
      rw [e, show (k + 1) * 3 = k * 3 + 1 + 1 + 1 by omega]
      exact ⟨by simpa using h1, by simpa using h2, by simpa using h3⟩
def OwnP (w : World) (base : Nat) (v : Value) (l : List Sp) : Prop := w.ownsRow base 72 3 v l.length (cellsP l)
theorem infoSpan : (Tryz.prog.info? 72).map (fun i => (i.zero, i.size, i.bytes)) = some (some (.agg #[.int .i64 0, .int .i64 0, .int .i64 0]), 3, 24) := by kernel_rfl
theorem OwnP.nil (w : World) (base : Nat) : OwnP w base (.slice none 0 0) [] := World.ownsRow_nil _ _ _ _
theorem ownP_snoc {w wr w1 : World} {base : Nat} {v v' : Value} {us : List Sp} {u : Sp} {o : Obj} {n : Nat} (hn : n = us.length) (hown : OwnP wr base v us)
    (hown' : w1.ownsRow base 72 3 v' (n + 1) (cellsP us ++ [.int .i64 u.1, .int .i64 u.2.1, .int .i64 u.2.2])) (hgrow : (wr.alloc o).grownBy w1 v.ownBlock) (hbel : Below base w wr) (hb : base ≤ w.heap.size) :
    OwnP w1 base v' (us ++ [u]) ∧ Below base w w1 := by
  subst hn
  have hsz := hbel.size
  refine ⟨?_, (hbel.alloc (by omega) o).grown hgrow (by simp; omega) (fun k hk => (World.ownsRow.lt hown k hk).1)⟩
  have e2 : cellsP (us ++ [u]) = cellsP us ++ [.int .i64 u.1, .int .i64 u.2.1, .int .i64 u.2.2] := by rw [cellsP_append]; rfl
  unfold OwnP
  rw [List.length_append, e2]
  exact hown'
theorem OwnP.base {w : World} {base base' : Nat} {v : Value} {l : List Sp} (h : OwnP w base v l) (hb : base' ≤ base) : OwnP w base' v l := by
  obtain ⟨h1, h2⟩ := h
  refine ⟨h1, ?_⟩
  rcases h2 with h2 | ⟨g, cap, cur, hv, hg, r⟩
  · exact .inl h2
  · exact .inr ⟨g, cap, cur, hv, Nat.le_trans hb hg, r⟩
theorem cell3p_new (w : World) (a b c : Value) (t : TypeId) : ∀ j u, [a, b, c][j]? = some u → (w.alloc (.cells #[a, b, c] t)).cell? ((⟨w.heap.size, 0, none⟩ : Addr).add j) = some u := by
  intro j u h
  rw [Addr.add_lit, cell_of_row _ w.heap.size _ _ _ _ (heap_alloc_new w _), Nat.zero_add]
  simpa using h
/-- Spans in memory, each where it is asked. -/
structure PA (w : World) (a : Option Addr) (l : List Sp) : Prop where
  at' : ∀ k (h : k < l.length), ∃ b off, a = some ⟨b, off, none⟩ ∧ b < w.heap.size ∧ w.cell? ⟨b, off + k * 3, none⟩ = some (.int .i64 l[k].1) ∧ w.cell? ⟨b, off + k * 3 + 1, none⟩ = some (.int .i64 l[k].2.1) ∧ w.cell? ⟨b, off + k * 3 + 2, none⟩ = some (.int .i64 l[k].2.2)
theorem PA.later {w w' : World} {a : Option Addr} {l : List Sp} (h : PA w a l) (hb : Below w.heap.size w w') : PA w' a l := ⟨fun k hk => by
  obtain ⟨b, off, rfl, hlt, h0, h1, h2⟩ := h.at' k hk
  exact ⟨b, off, rfl, Nat.lt_of_lt_of_le hlt hb.size, (hb.cell (p := ⟨b, off + k * 3, none⟩) hlt).trans h0, (hb.cell (p := ⟨b, off + k * 3 + 1, none⟩) hlt).trans h1, (hb.cell (p := ⟨b, off + k * 3 + 2, none⟩) hlt).trans h2⟩⟩
/-- Do two spans have a point in common? -/
def meets (s t : Sp) : Bool := decide (t.1 ≤ s.2.1) && decide (s.1 ≤ t.2.1)
/-- A span among rising ones. -/
def putS : List Sp → Sp → List Sp
  | [], s => [s]
  | t :: r, s => if s.2.1 < t.1 then s :: t :: r else t :: putS r s
theorem putS_len (l : List Sp) (s : Sp) : (putS l s).length = l.length + 1 := by
  induction l with
  | nil => rfl
  | cons t r ih => rw [putS]; split <;> simp [ih]
set_option maxRecDepth 10000 in
set_option maxHeartbeats 800000 in
theorem putS_any (l : List Sp) (xl xh xn : Int) (a : Option Addr) (cap : Nat) (hl : l.length ≤ 50000000) (w : World) (ha : PA w a l) :
    Calls Tryz.prog 32 #[.slice a l.length cap, .agg #[.int .i64 xl, .int .i64 xh, .int .i64 xn]] w fun e w' => ((∃ v, e = .returned (.tuple #[v, .bool true]) ∧ OwnP w' w.heap.size v (putS l (xl, xh, xn)) ∧ ∀ t ∈ l, meets (xl, xh, xn) t = false) ∨ (e = .returned (.tuple #[.slice a l.length cap, .bool false]) ∧ ∃ t ∈ l, meets (xl, xh, xn) t = true)) ∧ Below w.heap.size w w' := by
  obtain ⟨i0, hi, hz0, hz1, hz2⟩ := info_parts infoSpan
  have HA := hid0 ha
  have M1 : Hid True := trivial
  clear ha
  go_enter Tryz.func32, Tryz.ntmps32
  go_wp2
  generalize hW0 : w.alloc (.cells #[.int .i64 xl, .int .i64 xh, .int .i64 xn] 72) = W0
  have hz : W0.heap.size = w.heap.size + 1 := by rw [← hW0]; simp
  have HX : Hid (∀ wr, Below (w.heap.size + 1) W0 wr → wr.cell? ⟨w.heap.size, 0, none⟩ = some (.int .i64 xl) ∧ wr.cell? ⟨w.heap.size, 1, none⟩ = some (.int .i64 xh) ∧ wr.cell? ⟨w.heap.size, 2, none⟩ = some (.int .i64 xn) ∧ Below w.heap.size w wr) := fun wr hb => by
    have hw : Below w.heap.size w W0 := by rw [← hW0]; exact (Below.refl _ w).alloc (Nat.le_refl _) _
    refine ⟨(hb.cell (p := ⟨w.heap.size, 0, none⟩) (Nat.lt_succ_self _)).trans (by rw [← hW0]; simp), (hb.cell (p := ⟨w.heap.size, 1, none⟩) (Nat.lt_succ_self _)).trans (by rw [← hW0]; simp), (hb.cell (p := ⟨w.heap.size, 2, none⟩) (Nat.lt_succ_self _)).trans (by rw [← hW0]; simp), hw.trans (hb.mono (Nat.le_succ _))⟩
  clear hW0
  have hpl := putS_len l (xl, xh, xn)
  go_loopw [6, 7, 8] (fun v d i wr => ∃ (k : Nat) (dn : Bool) (o : List Sp), k ≤ l.length ∧ i = .int .i64 (k : Int) ∧ d = .bool dn ∧ OwnP wr (w.heap.size + 1) v o ∧ o ++ (if dn then l.drop k else putS (l.drop k) (xl, xh, xn)) = putS l (xl, xh, xn) ∧ (∀ j (h : j < l.length), j < k → meets (xl, xh, xn) l[j] = false) ∧ Below (w.heap.size + 1) W0 wr) (fun _ _ i _ => l.length - (intOf i).toNat)
  case atStart => exact ⟨0, false, [], Nat.zero_le _, rfl, rfl, OwnP.nil _ _, rfl, fun j h hj => absurd hj (Nat.not_lt_zero _), Below.refl _ _⟩
  case round =>
    obtain ⟨k, dn, o, hk, rfl, rfl, hown, heq, hno, hB⟩ := hrel
    have HO := hid0 hown
    have HQ := hid0 heq
    have HNo := hid0 hno
    have hol : o.length ≤ l.length + 1 := by have := congrArg List.length heq; rw [List.length_append, hpl] at this; omega
    obtain ⟨x0, x1, x2, hB0⟩ := HX.out wr hB
    have hs := hB.size
    clear hown heq hno
    by_cases hlt : k < l.length
    · obtain ⟨b1, o1, rfl, _, d0, d1, d2⟩ := (HA.out.later hB0).at' k hlt
      have HD := hid0 (List.drop_eq_getElem_cons hlt)
      have HAw := hid0 (fun wr' (hb : Below w.heap.size w wr') => (HA.out.later hb).at' k hlt)
      have HMem := hid0 (List.getElem_mem hlt)
      have HN1 : Hid (meets (xl, xh, xn) l[k] = false → ∀ j (h : j < l.length), j < k + 1 → meets (xl, xh, xn) l[j] = false) := hid0 (fun h0 j h hj => by
        by_cases e : j = k
        · subst e; exact h0
        · exact HNo.out j h (by omega))
      generalize l[k] = r at *
      obtain ⟨lo, hi', nm⟩ := r
      simp only at d0 d1 d2
      have hO2 : wr.ownsRow (w.heap.size + 1) 72 3 u6 o.length (cellsP o) := HO.out
      have HOO := hid0 hO2
      clear hO2
      by_cases hm : lo ≤ xh ∧ xl ≤ hi'
      · have HM : Hid (meets (xl, xh, xn) (lo, hi', nm) = true) := hid0 (by simp [meets, hm])
        have g1 : decide (lo ≤ xh) = true := decide_eq_true hm.1
        have g2 : decide (xl ≤ hi') = true := decide_eq_true hm.2
        clear hm
        go_wp2
        go_big_quiet (fail)
        go_wp2
        go_ret2
        exact ⟨.inr ⟨rfl, _, HMem.out, HM.out⟩, below_drewN hB0 _⟩
      · have HM : Hid (meets (xl, xh, xn) (lo, hi', nm) = false) := hid0 (by
          rw [Bool.eq_false_iff]; simpa [meets] using hm)
        have HN2 := hid0 (HN1.out HM.out)
        have hB0' := hB0
        clear hB0' hB0 HO
        by_cases h1 : lo ≤ xh
        · have g1 : decide (lo ≤ xh) = true := decide_eq_true h1
          have g2 : decide (xl ≤ hi') = false := decide_eq_false (fun h => hm ⟨h1, h⟩)
          have g3 : decide (xh < lo) = false := decide_eq_false (by omega)
          have G3 : Hid (¬ xh < lo) := hid0 (by omega)
          clear hm h1 HM HN1
          cases dn with
          | true =>
            go_wp2
            go_big_quiet (fail)
            have HOq : Hid ((wr.drewN nq).ownsRow (w.heap.size + 1) 72 3 u6 o.length (cellsP o)) := HOO.out
            have hB1 := below_drewN hB nq
            have qd0 : (wr.drewN nq).cell? ⟨b1, o1 + k * 3, none⟩ = some (.int .i64 lo) := d0
            have qd1 : (wr.drewN nq).cell? ⟨b1, o1 + k * 3 + 1, none⟩ = some (.int .i64 hi') := d1
            have qd2 : (wr.drewN nq).cell? ⟨b1, o1 + k * 3 + 2, none⟩ = some (.int .i64 nm) := d2
            have qx0 : (wr.drewN nq).cell? ⟨w.heap.size, 0, none⟩ = some (.int .i64 xl) := x0
            have qx1 : (wr.drewN nq).cell? ⟨w.heap.size, 1, none⟩ = some (.int .i64 xh) := x1
            have qx2 : (wr.drewN nq).cell? ⟨w.heap.size, 2, none⟩ = some (.int .i64 xn) := x2
            clear d0 d1 d2 x0 x1 x2 HOO hB
            have d0 := qd0
            have d1 := qd1
            have d2 := qd2
            have x0 := qx0
            have x1 := qx1
            have x2 := qx2
            have HOO := HOq
            clear qd0 qd1 qd2 qx0 qx1 qx2 HOq
            generalize wr.drewN nq = wq at *
            have hs1 := hB1.size
            go_wp2
            go_big_quiet (fail)
            have HOq : Hid ((wq.drewN nq).ownsRow (w.heap.size + 1) 72 3 u6 o.length (cellsP o)) := HOO.out
            have hB2 := below_drewN hB1 nq
            have qd0 : (wq.drewN nq).cell? ⟨b1, o1 + k * 3, none⟩ = some (.int .i64 lo) := d0
            have qd1 : (wq.drewN nq).cell? ⟨b1, o1 + k * 3 + 1, none⟩ = some (.int .i64 hi') := d1
            have qd2 : (wq.drewN nq).cell? ⟨b1, o1 + k * 3 + 2, none⟩ = some (.int .i64 nm) := d2
            have qx0 : (wq.drewN nq).cell? ⟨w.heap.size, 0, none⟩ = some (.int .i64 xl) := x0
            have qx1 : (wq.drewN nq).cell? ⟨w.heap.size, 1, none⟩ = some (.int .i64 xh) := x1
            have qx2 : (wq.drewN nq).cell? ⟨w.heap.size, 2, none⟩ = some (.int .i64 xn) := x2
            clear d0 d1 d2 x0 x1 x2 HOO hB1
            have d0 := qd0
            have d1 := qd1
            have d2 := qd2
            have x0 := qx0
            have x1 := qx1
            have x2 := qx2
            have HOO := HOq
            clear qd0 qd1 qd2 qx0 qx1 qx2 HOq
            generalize wq.drewN nq = wz at *
            have hs2 := hB2.size
            clear hs hs1
            go_wp2_with (at_builtin; refine wpList_append_own _ rfl _ _ 23 rfl (w.heap.size + 1) 72 i0 (.agg #[.int .i64 0, .int .i64 0, .int .i64 0]) 3 24 Tryz.underlying23 hi hz0 hz1 hz2 rfl (by decide) _ _ _ rfl (HOO.out.alloc _) ⟨wz.heap.size, 0, none⟩ 1 1 [.int .i64 lo, .int .i64 hi', .int .i64 nm] rfl rfl (cell3p_new _ _ _ _ _) (by simp [Value.oneCell']) (by unfold maxLen; omega) (by omega) (by simp; omega) ?_; intro v1 w1 hown' hgrow _; have R := ownP_snoc (w := W0) (us := o) (u := (lo, hi', nm)) (n := o.length) rfl (show OwnP wz _ _ o from HOO.out) (by simpa using hown') hgrow hB2 (by omega); have HR1 := hid0 R; clear hown' hgrow R)
            go_roundw
            case rel => exact ⟨k + 1, true, o ++ [(lo, hi', nm)], by omega, by go_num, rfl, HR1.out.1, by rw [← HQ.out, HD.out]; simp, HN2.out, HR1.out.2⟩
            case measure => simp [intOf]; omega
          | false =>
            go_wp2
            go_big_quiet (fail)
            have HOq : Hid ((wr.drewN nq).ownsRow (w.heap.size + 1) 72 3 u6 o.length (cellsP o)) := HOO.out
            have hB1 := below_drewN hB nq
            have qd0 : (wr.drewN nq).cell? ⟨b1, o1 + k * 3, none⟩ = some (.int .i64 lo) := d0
            have qd1 : (wr.drewN nq).cell? ⟨b1, o1 + k * 3 + 1, none⟩ = some (.int .i64 hi') := d1
            have qd2 : (wr.drewN nq).cell? ⟨b1, o1 + k * 3 + 2, none⟩ = some (.int .i64 nm) := d2
            have qx0 : (wr.drewN nq).cell? ⟨w.heap.size, 0, none⟩ = some (.int .i64 xl) := x0
            have qx1 : (wr.drewN nq).cell? ⟨w.heap.size, 1, none⟩ = some (.int .i64 xh) := x1
            have qx2 : (wr.drewN nq).cell? ⟨w.heap.size, 2, none⟩ = some (.int .i64 xn) := x2
            clear d0 d1 d2 x0 x1 x2 HOO hB
            have d0 := qd0
            have d1 := qd1
            have d2 := qd2
            have x0 := qx0
            have x1 := qx1
            have x2 := qx2
            have HOO := HOq
            clear qd0 qd1 qd2 qx0 qx1 qx2 HOq
            generalize wr.drewN nq = wq at *
            have hs1 := hB1.size
            go_wp2
            go_big_quiet (fail)
            have HOq : Hid ((wq.drewN nq).ownsRow (w.heap.size + 1) 72 3 u6 o.length (cellsP o)) := HOO.out
            have hB2 := below_drewN hB1 nq
            have qd0 : (wq.drewN nq).cell? ⟨b1, o1 + k * 3, none⟩ = some (.int .i64 lo) := d0
            have qd1 : (wq.drewN nq).cell? ⟨b1, o1 + k * 3 + 1, none⟩ = some (.int .i64 hi') := d1
            have qd2 : (wq.drewN nq).cell? ⟨b1, o1 + k * 3 + 2, none⟩ = some (.int .i64 nm) := d2
            have qx0 : (wq.drewN nq).cell? ⟨w.heap.size, 0, none⟩ = some (.int .i64 xl) := x0
            have qx1 : (wq.drewN nq).cell? ⟨w.heap.size, 1, none⟩ = some (.int .i64 xh) := x1
            have qx2 : (wq.drewN nq).cell? ⟨w.heap.size, 2, none⟩ = some (.int .i64 xn) := x2
            clear d0 d1 d2 x0 x1 x2 HOO hB1
            have d0 := qd0
            have d1 := qd1
            have d2 := qd2
            have x0 := qx0
            have x1 := qx1
            have x2 := qx2
            have HOO := HOq
            clear qd0 qd1 qd2 qx0 qx1 qx2 HOq
            generalize wq.drewN nq = wz at *
            have hs2 := hB2.size
            clear hs hs1
            go_wp2_with (at_builtin; refine wpList_append_own _ rfl _ _ 23 rfl (w.heap.size + 1) 72 i0 (.agg #[.int .i64 0, .int .i64 0, .int .i64 0]) 3 24 Tryz.underlying23 hi hz0 hz1 hz2 rfl (by decide) _ _ _ rfl (HOO.out.alloc _) ⟨wz.heap.size, 0, none⟩ 1 1 [.int .i64 lo, .int .i64 hi', .int .i64 nm] rfl rfl (cell3p_new _ _ _ _ _) (by simp [Value.oneCell']) (by unfold maxLen; omega) (by omega) (by simp; omega) ?_; intro v1 w1 hown' hgrow _; have R := ownP_snoc (w := W0) (us := o) (u := (lo, hi', nm)) (n := o.length) rfl (show OwnP wz _ _ o from HOO.out) (by simpa using hown') hgrow hB2 (by omega); have HR1 := hid0 R; clear hown' hgrow R)
            go_roundw
            case rel => exact ⟨k + 1, false, o ++ [(lo, hi', nm)], by omega, by go_num, rfl, HR1.out.1, by { rw [← HQ.out, HD.out]; simp only [putS, List.append_assoc]; rw [if_neg (Int.not_lt.2 G3.out)]; rfl }, HN2.out, HR1.out.2⟩
            case measure => simp [intOf]; omega
        · have g1 : decide (lo ≤ xh) = false := decide_eq_false h1
          have g3 : decide (xh < lo) = true := decide_eq_true (by omega)
          have G3 : Hid (xh < lo) := hid0 (by omega)
          clear hm h1 HM HN1
          cases dn with
          | true =>
            go_wp2
            go_big_quiet (fail)
            have HOq : Hid ((wr.drewN nq).ownsRow (w.heap.size + 1) 72 3 u6 o.length (cellsP o)) := HOO.out
            have hB1 := below_drewN hB nq
            have qd0 : (wr.drewN nq).cell? ⟨b1, o1 + k * 3, none⟩ = some (.int .i64 lo) := d0
            have qd1 : (wr.drewN nq).cell? ⟨b1, o1 + k * 3 + 1, none⟩ = some (.int .i64 hi') := d1
            have qd2 : (wr.drewN nq).cell? ⟨b1, o1 + k * 3 + 2, none⟩ = some (.int .i64 nm) := d2
            have qx0 : (wr.drewN nq).cell? ⟨w.heap.size, 0, none⟩ = some (.int .i64 xl) := x0
            have qx1 : (wr.drewN nq).cell? ⟨w.heap.size, 1, none⟩ = some (.int .i64 xh) := x1
            have qx2 : (wr.drewN nq).cell? ⟨w.heap.size, 2, none⟩ = some (.int .i64 xn) := x2
            clear d0 d1 d2 x0 x1 x2 HOO hB
            have d0 := qd0
            have d1 := qd1
            have d2 := qd2
            have x0 := qx0
            have x1 := qx1
            have x2 := qx2
            have HOO := HOq
            clear qd0 qd1 qd2 qx0 qx1 qx2 HOq
            generalize wr.drewN nq = wq at *
            have hs1 := hB1.size
            go_wp2
            go_big_quiet (fail)
            have HOq : Hid ((wq.drewN nq).ownsRow (w.heap.size + 1) 72 3 u6 o.length (cellsP o)) := HOO.out
            have hB2 := below_drewN hB1 nq
            have qd0 : (wq.drewN nq).cell? ⟨b1, o1 + k * 3, none⟩ = some (.int .i64 lo) := d0
            have qd1 : (wq.drewN nq).cell? ⟨b1, o1 + k * 3 + 1, none⟩ = some (.int .i64 hi') := d1
            have qd2 : (wq.drewN nq).cell? ⟨b1, o1 + k * 3 + 2, none⟩ = some (.int .i64 nm) := d2
            have qx0 : (wq.drewN nq).cell? ⟨w.heap.size, 0, none⟩ = some (.int .i64 xl) := x0
            have qx1 : (wq.drewN nq).cell? ⟨w.heap.size, 1, none⟩ = some (.int .i64 xh) := x1
            have qx2 : (wq.drewN nq).cell? ⟨w.heap.size, 2, none⟩ = some (.int .i64 xn) := x2
            clear d0 d1 d2 x0 x1 x2 HOO hB1
            have d0 := qd0
            have d1 := qd1
            have d2 := qd2
            have x0 := qx0
            have x1 := qx1
            have x2 := qx2
            have HOO := HOq
            clear qd0 qd1 qd2 qx0 qx1 qx2 HOq
            generalize wq.drewN nq = wz at *
            have hs2 := hB2.size
            clear hs hs1
            go_wp2_with (at_builtin; refine wpList_append_own _ rfl _ _ 23 rfl (w.heap.size + 1) 72 i0 (.agg #[.int .i64 0, .int .i64 0, .int .i64 0]) 3 24 Tryz.underlying23 hi hz0 hz1 hz2 rfl (by decide) _ _ _ rfl (HOO.out.alloc _) ⟨wz.heap.size, 0, none⟩ 1 1 [.int .i64 lo, .int .i64 hi', .int .i64 nm] rfl rfl (cell3p_new _ _ _ _ _) (by simp [Value.oneCell']) (by unfold maxLen; omega) (by omega) (by simp; omega) ?_; intro v1 w1 hown' hgrow _; have R := ownP_snoc (w := W0) (us := o) (u := (lo, hi', nm)) (n := o.length) rfl (show OwnP wz _ _ o from HOO.out) (by simpa using hown') hgrow hB2 (by omega); have HR1 := hid0 R; clear hown' hgrow R)
            go_roundw
            case rel => exact ⟨k + 1, true, o ++ [(lo, hi', nm)], by omega, by go_num, rfl, HR1.out.1, by rw [← HQ.out, HD.out]; simp, HN2.out, HR1.out.2⟩
            case measure => simp [intOf]; omega
          | false =>
            go_wp2
            go_big_quiet (fail)
            have HOq : Hid ((wr.drewN nq).ownsRow (w.heap.size + 1) 72 3 u6 o.length (cellsP o)) := HOO.out
            have hB1 := below_drewN hB nq
            have qd0 : (wr.drewN nq).cell? ⟨b1, o1 + k * 3, none⟩ = some (.int .i64 lo) := d0
            have qd1 : (wr.drewN nq).cell? ⟨b1, o1 + k * 3 + 1, none⟩ = some (.int .i64 hi') := d1
            have qd2 : (wr.drewN nq).cell? ⟨b1, o1 + k * 3 + 2, none⟩ = some (.int .i64 nm) := d2
            have qx0 : (wr.drewN nq).cell? ⟨w.heap.size, 0, none⟩ = some (.int .i64 xl) := x0
            have qx1 : (wr.drewN nq).cell? ⟨w.heap.size, 1, none⟩ = some (.int .i64 xh) := x1
            have qx2 : (wr.drewN nq).cell? ⟨w.heap.size, 2, none⟩ = some (.int .i64 xn) := x2
            clear d0 d1 d2 x0 x1 x2 HOO hB
            have d0 := qd0
            have d1 := qd1
            have d2 := qd2
            have x0 := qx0
            have x1 := qx1
            have x2 := qx2
            have HOO := HOq
            clear qd0 qd1 qd2 qx0 qx1 qx2 HOq
            generalize wr.drewN nq = wq at *
            have hs1 := hB1.size
            go_wp2
            go_big_quiet (fail)
            have HOq : Hid ((wq.drewN nq).ownsRow (w.heap.size + 1) 72 3 u6 o.length (cellsP o)) := HOO.out
            have hB2 := below_drewN hB1 nq
            have qd0 : (wq.drewN nq).cell? ⟨b1, o1 + k * 3, none⟩ = some (.int .i64 lo) := d0
            have qd1 : (wq.drewN nq).cell? ⟨b1, o1 + k * 3 + 1, none⟩ = some (.int .i64 hi') := d1
            have qd2 : (wq.drewN nq).cell? ⟨b1, o1 + k * 3 + 2, none⟩ = some (.int .i64 nm) := d2
            have qx0 : (wq.drewN nq).cell? ⟨w.heap.size, 0, none⟩ = some (.int .i64 xl) := x0
            have qx1 : (wq.drewN nq).cell? ⟨w.heap.size, 1, none⟩ = some (.int .i64 xh) := x1
            have qx2 : (wq.drewN nq).cell? ⟨w.heap.size, 2, none⟩ = some (.int .i64 xn) := x2
            clear d0 d1 d2 x0 x1 x2 HOO hB1
            have d0 := qd0
            have d1 := qd1
            have d2 := qd2
            have x0 := qx0
            have x1 := qx1
            have x2 := qx2
            have HOO := HOq
            clear qd0 qd1 qd2 qx0 qx1 qx2 HOq
            generalize wq.drewN nq = wz at *
            have hs2 := hB2.size
            clear hs hs1
            go_wp2_with (first
              | (at_builtin; clear M1; refine wpList_append_own _ rfl _ _ 23 rfl (w.heap.size + 1) 72 i0 (.agg #[.int .i64 0, .int .i64 0, .int .i64 0]) 3 24 Tryz.underlying23 hi hz0 hz1 hz2 rfl (by decide) _ _ _ rfl (HOO.out.alloc _) ⟨wz.heap.size, 0, none⟩ 1 1 [.int .i64 xl, .int .i64 xh, .int .i64 xn] rfl rfl (cell3p_new _ _ _ _ _) (by simp [Value.oneCell']) (by unfold maxLen; omega) (by omega) (by simp; omega) ?_; intro v1 w1 hown' hgrow _; have R := ownP_snoc (w := W0) (us := o) (u := (xl, xh, xn)) (n := o.length) rfl (show OwnP wz _ _ o from HOO.out) (by simpa using hown') hgrow hB2 (by omega); have HR1 := hid0 R; have hs3 := R.2.size; obtain ⟨_, _, _, hB3⟩ := HX.out w1 R.2; obtain ⟨b2, o2, he, _, e0, e1, e2⟩ := HAw.out w1 hB3; have HO1 : Hid (w1.ownsRow (w.heap.size + 1) 72 3 v1 (o.length + 1) (cellsP (o ++ [(xl, xh, xn)]))) := (by have := R.1; unfold OwnP at this; rw [List.length_append] at this; exact this); obtain ⟨rfl, rfl⟩ : b1 = b2 ∧ o1 = o2 := (by simpa using he); clear he; clear hown' hgrow R)
              | (at_builtin; refine wpList_append_own _ rfl _ _ 23 rfl (w.heap.size + 1) 72 i0 (.agg #[.int .i64 0, .int .i64 0, .int .i64 0]) 3 24 Tryz.underlying23 hi hz0 hz1 hz2 rfl (by decide) _ _ _ rfl (HO1.out.alloc _) ⟨w1.heap.size, 0, none⟩ 1 1 [.int .i64 lo, .int .i64 hi', .int .i64 nm] rfl rfl (cell3p_new _ _ _ _ _) (by simp [Value.oneCell']) (by unfold maxLen; omega) (by omega) (by simp; omega) ?_; intro v2 w2 hown' hgrow _; have R := ownP_snoc (w := W0) (us := o ++ [(xl, xh, xn)]) (u := (lo, hi', nm)) (n := o.length + 1) (by simp) HR1.out.1 (by simpa using hown') hgrow HR1.out.2 (by omega); have HR2 := hid0 R; clear hown' hgrow R)
              | fail)
            go_roundw
            case rel => exact ⟨k + 1, true, o ++ [(xl, xh, xn)] ++ [(lo, hi', nm)], by omega, by go_num, rfl, HR2.out.1, by { rw [← HQ.out, HD.out]; simp only [putS, List.append_assoc]; rw [if_pos G3.out]; rfl }, HN2.out, HR2.out.2⟩
            case measure => simp [intOf]; omega
    · have hki : ¬ (k : Int) < (l.length : Int) := by omega
      have hdr : l.drop k = [] := List.drop_eq_nil_of_le (by omega)
      have HNf : Hid (∀ t ∈ l, meets (xl, xh, xn) t = false) := hid0 (fun t ht => by
        obtain ⟨j, hj, rfl⟩ := List.getElem_of_mem ht
        exact HNo.out j hj (by omega))
      have hO2 : wr.ownsRow (w.heap.size + 1) 72 3 u6 o.length (cellsP o) := HO.out
      have HOO := hid0 hO2
      have HDR := hid0 hdr
      clear hO2 hdr
      cases dn with
      | true =>
        go_wp2
        go_ret2
        refine ⟨.inl ⟨_, rfl, ?_, fun a b c ht => HNf.out (a, b, c) ht⟩, hB0⟩
        have := HQ.out
        rw [HDR.out] at this
        rw [← this]
        simpa using HO.out.base (Nat.le_succ _)
      | false =>
        go_wp2_with (at_builtin; refine wpList_append_own _ rfl _ _ 23 rfl (w.heap.size + 1) 72 i0 (.agg #[.int .i64 0, .int .i64 0, .int .i64 0]) 3 24 Tryz.underlying23 hi hz0 hz1 hz2 rfl (by decide) _ _ _ rfl (HOO.out.alloc _) ⟨wr.heap.size, 0, none⟩ 1 1 [.int .i64 xl, .int .i64 xh, .int .i64 xn] rfl rfl (cell3p_new _ _ _ _ _) (by simp [Value.oneCell']) (by unfold maxLen; omega) (by omega) (by simp; omega) ?_; intro v1 w1 hown' hgrow _; have R := ownP_snoc (w := W0) (us := o) (u := (xl, xh, xn)) (n := o.length) rfl HO.out (by simpa using hown') hgrow hB (by omega); have HR1 := hid0 R; clear hown' hgrow R)
        go_ret2
        refine ⟨.inl ⟨_, rfl, ?_, fun a b c ht => HNf.out (a, b, c) ht⟩, (HX.out _ HR1.out.2).2.2.2⟩
        have := HQ.out
        rw [HDR.out] at this
        rw [← this]
        simpa [putS] using HR1.out.1.base (Nat.le_succ _)
end Go.Proofs.YthdmhelgmejicaaGreatDoor
