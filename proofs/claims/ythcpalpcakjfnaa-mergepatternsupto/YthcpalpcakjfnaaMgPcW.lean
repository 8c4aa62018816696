/-
  merge.Patterns.
-/
import Derived.Test.YthcpalpcakjfnaaMgPcM
import Derived.Maps.OwnIn
namespace Go.Proofs.Ythcpalpcakjfnaa
open Go.RowKit Go.Shelf Go.Lib Go.Maps
attribute [local go_sem] Oper.semAt_some
theorem laid1 {w w' : World} {o : Array Value} {t : TypeId} (h : w.alloc (.cells o t) = w') : Below w.heap.size w w' ∧ w'.heap[w.heap.size]? = some (.cells o t (0, 0)) ∧ w'.heap.size = w.heap.size + 1 := by
  subst h
  exact ⟨(Below.refl _ _).alloc (Nat.le_refl _) _, heap_alloc_new w _, by simp⟩
theorem laid2 {w w' : World} {o o' : Array Value} {t t' : TypeId} (h : (w.alloc (.cells o t)).alloc (.cells o' t') = w') : Below w.heap.size w w' ∧ w'.heap[w.heap.size]? = some (.cells o t (0, 0)) ∧ w'.heap[w.heap.size + 1]? = some (.cells o' t' (0, 0)) ∧ w'.heap.size = w.heap.size + 2 := by
  obtain ⟨wa, hwa⟩ : ∃ wa, w.alloc (.cells o t) = wa := ⟨_, rfl⟩
  rw [hwa] at h
  obtain ⟨b1, r1, s1⟩ := laid1 hwa
  obtain ⟨b2, r2, s2⟩ := laid1 h
  refine ⟨Below.later b1 b2, (b2.block _ (by omega)).trans r1, ?_, by omega⟩
  rw [← s1]; exact r2
theorem cellC3_new (w : World) (x : P3) (t : TypeId) : ∀ j u, (c3 x)[j]? = some u → (w.alloc (.cells #[.int .i64 x.1, .int .i64 x.2.1, .int .i64 x.2.2] t)).cell? ((⟨w.heap.size, 0, none⟩ : Addr).add j) = some u := by
  intro j u h
  rw [Addr.add_mid, cell_of_row _ _ _ _ _ _ (heap_alloc_new w _)]
  simpa [c3] using h
theorem c3_one (x : P3) : ∀ u, u ∈ c3 x → u.oneCell' = true := by
  intro u hu
  simp only [c3, List.mem_cons, List.not_mem_nil, or_false] at hu
  rcases hu with rfl | rfl | rfl <;> rfl
set_option maxRecDepth 100000 in
set_option maxHeartbeats 2000000 in
theorem patterns_some (n : Nat) (b : Nat) (a : Option Addr) (Ls : List Nat) (cc : Nat) (vr v2 v3 v4 v5 : Value) (w : World) (hn : n ≤ 100000000) (hvr : ∃ ar cr, vr = .slice ar n cr) (hb : b ≤ n) (hL : LenA w a Ls) (hl : Ls.length ≤ 100000000) (hm : ∀ m ∈ Ls, m ≤ 100000000) (hbd : (cutX Ls Ls.length).length ≤ 1999000000000) :
    Calls Try.prog 15 #[.agg #[vr, .int .i64 (b : Int), v2, v3, v4, v5], .slice a Ls.length cc] w fun e w' => PatR w ((ruX 0 b) ++ (cutX Ls Ls.length) ++ (ruX b (n - b))) e w' := by
  obtain ⟨i0, hi, hz0, hz1, hz2⟩ := info_parts info3
  obtain ⟨ar, cr, rfl⟩ := hvr
  have q1 : ¬ ((b : Int) < 0) := by omega
  have q2 : ¬ ((n : Int) < (b : Int)) := by omega
  have q1d : decide ((b : Int) < 0) = false := decide_eq_false q1
  have HL := hid0 hL
  have HM := hid0 hm
  have HBnd : Hid (n + (cutX Ls Ls.length).length ≤ 1999900000000 ∧ b ≤ n) := hid0 ⟨by omega, hb⟩
  clear hL hm hbd
  obtain ⟨w0, hw0⟩ : ∃ w0, w.alloc (.cells #[.slice ar n cr, .int .i64 (b : Int), v2, v3, v4, v5] 31) = w0 := ⟨_, rfl⟩
  obtain ⟨bb0, hr0, hs0⟩ := laid1 hw0
  have e0 : w0.cell? ⟨w.heap.size, 0, none⟩ = some (.slice ar n cr) := by rw [cell_of_row _ _ _ _ _ _ hr0]; rfl
  have e1 : w0.cell? ⟨w.heap.size, 1, none⟩ = some (.int .i64 (b : Int)) := by rw [cell_of_row _ _ _ _ _ _ hr0]; rfl
  obtain ⟨w1, hw1⟩ : ∃ w1, w0.alloc (.cells #[.slice none 0 0] 52) = w1 := ⟨_, rfl⟩
  obtain ⟨bb1, hr1, hs1⟩ := laid1 hw1
  obtain ⟨w2, hw2⟩ : ∃ w2, (w1.alloc (.cells #[.int .i64 0] 3)).alloc (.cells #[.int .i64 (b : Int)] 3) = w2 := ⟨_, rfl⟩
  obtain ⟨bb2, hr2, hr3, hs2⟩ := laid2 hw2
  have HJ0 : Hid (PJ w w2 w0.heap.size (.slice none 0 0) [] []) := hid0 ⟨(bb2.block _ (by omega)).trans hr1, World.ownsRow_nil _ _ _ _, Below.later (Below.later bb0 bb1) bb2, bb0.size, fun _ h => nomatch h⟩
  have HR2 := hid0 (And.intro hr2 hr3)
  have HLt1 : Hid (w.heap.size ≤ w0.heap.size ∧ w0.heap.size < w1.heap.size ∧ w2.heap.size = w1.heap.size + 2) := hid0 (by omega)
  have HDs1 : Hid (∀ d ∈ ([] : List Nat), d < w2.heap.size) := hid0 (fun _ h => nomatch h)
  clear bb0 hr0 hs0 bb1 hr1 hs1 bb2 hr2 hr3 hs2
  refine (callsIn_wide (n := 8)).1 ?_
  refine callsIn_of_wp_marks Try.func15 rfl trivial ?_ rfl
  simp only [Try.ntmps15, List.size_toArray, List.length_cons, List.length_nil, Nat.reduceAdd, Nat.reduceSub, Array.replicate_succ, Array.replicate_zero, List.push_toArray, List.append_toArray, List.nil_append, List.cons_append]
  gi_wp2_with (first
    | (refine ⟨trivial, ?_⟩; gi_at_call 24; refine (rulesFrom_in _ _ _ _).mono ?_; rintro e w' ⟨rfl, hw'⟩; rw [hw2] at hw'; subst hw')
    | fail)
  clear hw0 hw1 hw2 e0 e1
  refine wpIn_rangeRu' 8 8 (by omega) w1.heap.size (w1.heap.size + 1) (ruX 0 b) _ (rulesFrom1_in 7 (by omega) w1.heap.size (w1.heap.size + 1) 0 b (by omega)) rfl (fun k W => ∃ v : Value, PJ w W w0.heap.size v ([] ++ (ruX 0 b).take k) [] ∧ (W.heap[w1.heap.size]? = some (.cells #[.int .i64 0] 3 (0, 0)) ∧ W.heap[(w1.heap.size + 1)]? = some (.cells #[.int .i64 (b : Int)] 3 (0, 0))) ∧ (∀ g, v.ownBlock = some g → g ≠ w'.heap.size ∧ g ≠ w'.heap.size + 1)) ?keep1 ?inv1 ?start1 ?assign1 ?body1 ?done1
  case keep1 =>
    rintro k A B ⟨v, h1, ⟨hx0, hx1⟩, h4⟩ ho
    have hl := HLt1.out
    exact ⟨v, h1.only ho (fun k hk => by omega) (by omega) (fun g hg q => by have := h4 g hg; omega) (fun d hd q => by have := HDs1.out d hd; omega), ⟨(ho.block _ (Array.getElem?_eq_some_iff.1 hx0).1 (by have := HLt1.out; omega)).trans hx0, (ho.block _ (Array.getElem?_eq_some_iff.1 hx1).1 (by have := HLt1.out; omega)).trans hx1⟩, h4⟩
  case inv1 =>
    rintro k A ⟨v, h1, ⟨hx0, hx1⟩, _⟩
    exact ⟨by rw [cell_of_row _ _ _ _ _ _ hx0]; rfl, by rw [cell_of_row _ _ _ _ _ _ hx1, Nat.zero_add]; rfl⟩
  case start1 => exact ⟨.slice none 0 0, by rw [List.take_zero]; exact HJ0.out, ⟨HR2.out.1, HR2.out.2⟩, fun g hg => by cases hg⟩
  case assign1 =>
    intro l x W K hK
    simp only [actB, val3, List.setIfInBounds_toArray, List.set_cons_succ, List.set_cons_zero] at hK ⊢
    gi_wp2
    exact hK
  case body1 =>
    rintro l k hk Bx W ⟨v, h1, ⟨hx0, hx1⟩, h4⟩ hBx ⟨hd1, rc, hd2⟩
    simp only [actB, val3, List.setIfInBounds_toArray, List.set_cons_succ, List.set_cons_zero]
    have HTk : Hid ([] ++ (ruX 0 b).take (k + 1) = ([] ++ (ruX 0 b).take k) ++ [(ruX 0 b)[k]]) := hid0 (by rw [List.take_add_one, List.getElem?_eq_getElem hk]; exact (List.append_assoc _ _ _).symm)
    have hbnd : ([] ++ (ruX 0 b).take k).length ≤ 2000000000000 := by
      have := HBnd.out
      rw [List.length_append, List.length_take]
      simp only [List.length_nil, ruX_len]; omega
    generalize [] ++ (ruX 0 b).take k = L2 at *
    generalize (ruX 0 b)[k] = x at *
    obtain ⟨av, cv, hvf⟩ := h1.own.form
    subst hvf
    have c5 : W.cell? ⟨w0.heap.size, 0, none⟩ = some (.slice av L2.length cv) := by rw [cell_of_row _ _ _ _ _ _ h1.box]; rfl
    have x0 : W.cell? ⟨Bx, 0, none⟩ = some (.int .i64 x.1) := by rw [cell_of_row _ _ _ _ _ _ hBx]; rfl
    have x1 : W.cell? ⟨Bx, 1, none⟩ = some (.int .i64 x.2.1) := by rw [cell_of_row _ _ _ _ _ _ hBx]; rfl
    have x2 : W.cell? ⟨Bx, 2, none⟩ = some (.int .i64 x.2.2) := by rw [cell_of_row _ _ _ _ _ _ hBx]; rfl
    have HOk : Hid (W.ownsRow w.heap.size 54 3 (.slice av L2.length cv) L2.length (cells3 L2)) := hid0 h1.own
    have HWs : Hid (w.heap.size ≤ W.heap.size) := hid0 h1.bel.size
    have HJx := hid0 h1
    have H4 := hid0 h4
    have HBs : Hid (W.heap[w1.heap.size]? = some (.cells #[.int .i64 0] 3 (0, 0)) ∧ W.heap[(w1.heap.size + 1)]? = some (.cells #[.int .i64 (b : Int)] 3 (0, 0))) := hid0 ⟨hx0, hx1⟩
    have HDd := hid0 (And.intro hd1 hd2)
    clear h1 h4 hBx hd1 hd2 hx0 hx1
    gi_wp2_with (gi_at_builtin; go_loud ((refine wpListIn_append_own_at _ rfl _ _ 52 rfl w.heap.size 54 i0 (.agg #[.int .i64 0, .int .i64 0, .int .i64 0]) 3 24 Try.underlying52 hi hz0 hz1 hz2 rfl (by decide) (.slice av L2.length cv) L2.length (cells3 L2) rfl (World.ownsRow.alloc HOk.out _) ⟨W.heap.size, 0, none⟩ 1 1 (c3 x) rfl rfl (cellC3_new W x _) (c3_one x) (by unfold maxLen; omega) (by omega) (by have := HWs.out; simp; omega) ?_; intro v4' w4 hown4 hgrow4 _ hat4; have hst := PJ.step HJx.out hgrow4 hat4 hown4; have c4 : w4.cell? ⟨w0.heap.size, 0, none⟩ = some (.slice av L2.length cv) := (by rw [cell_of_row _ _ _ _ _ _ hst.2.2]; rfl); have f4 : w4.frozen? ⟨w0.heap.size, 0, none⟩ = false := (by simp [World.frozen?, hst.2.2]); have HST := hid0 hst; obtain ⟨g4, cp4, rfl⟩ := Go.Joins.ownsRow_form hown4 (by omega); clear hown4 hgrow4 hat4 hst)))
    obtain ⟨hp, ho, _⟩ := HST.out
    have hBs := HBs.out
    obtain ⟨hx0, hx1⟩ := hBs
    have hne : ∀ (b : Nat) (cs : Array Value) (t : TypeId), t ≠ 54 → W.heap[b]? = some (.cells cs t (0, 0)) → b ≠ w0.heap.size → ¬ (b = w0.heap.size ∨ (Value.slice av L2.length cv).ownBlock = some b) := fun b cs t ht hr hb => by
      rintro (e | e)
      · exact hb e
      · obtain ⟨cur, fr, hr2⟩ := HJx.out.row e
        rw [hr] at hr2
        injection hr2 with hr2
        injection hr2 with _ hr2
        exact ht hr2
    have hS : ∀ k, (k = w0.heap.size ∨ (Value.slice av L2.length cv).ownBlock = some k) → k ≠ w'.heap.size ∧ k ≠ w'.heap.size + 1 := by
      have hl := HLt1.out
      rintro k (e | e)
      · omega
      · exact H4.out k e
    have hk1 := (ho.block w'.heap.size (Array.getElem?_eq_some_iff.1 HDd.out.1).1 (fun q => (hS _ q).1 rfl)).trans HDd.out.1
    have hk2 := (ho.block (w'.heap.size + 1) (Array.getElem?_eq_some_iff.1 HDd.out.2).1 (fun q => (hS _ q).2 rfl)).trans HDd.out.2
    refine ⟨⟨_, (by first | (rw [HTk.out]; exact hp) | (have h := hp; rw [← HTk.out] at h; simpa only [List.nil_append] using h)), ⟨(ho.block _ (Array.getElem?_eq_some_iff.1 hx0).1 (hne _ _ _ (by decide) hx0 (by have := HLt1.out; omega))).trans hx0, (ho.block _ (Array.getElem?_eq_some_iff.1 hx1).1 (hne _ _ _ (by decide) hx1 (by have := HLt1.out; omega))).trans hx1⟩, fun g hg => ?_⟩, ho.mono hS⟩
    obtain ⟨cur, fr, hr2⟩ := hp.row hg
    refine ⟨fun e => ?_, fun e => ?_⟩
    · rw [e, hk1] at hr2; cases hr2
    · rw [e, hk2] at hr2; cases hr2
  case done1 =>
    rintro Wa ⟨va, hja, _, _⟩ hda
    rw [List.take_of_length_le (Nat.le_refl _), List.nil_append] at hja
    have hja := hja.mark (d := w'.heap.size) (by have := HLt1.out; omega) hda
    obtain ⟨wB, hwB⟩ : ∃ wB, Wa.alloc (.cells #[.slice a Ls.length cc] 32) = wB := ⟨_, rfl⟩
    obtain ⟨bbB, hrB, hsB⟩ := laid1 hwB
    have HJa := hid0 (hja.past bbB)
    have HJA := hid0 hja
    have HRb := hid0 hrB
    have HLt2 : Hid (w.heap.size ≤ w0.heap.size ∧ w0.heap.size < Wa.heap.size ∧ wB.heap.size = Wa.heap.size + 1) := hid0 ⟨HLt1.out.1, hja.lt, hsB⟩
    have HDs2 : Hid (∀ d ∈ [w'.heap.size], d < wB.heap.size) := hid0 (fun d hd => by
      have := (Array.getElem?_eq_some_iff.1 (HJa.out.ds d hd).2).1
      exact this)
    clear hja hda bbB hrB hsB HJ0 HR2 HDs1
    gi_wp2_with (first
      | (refine ⟨trivial, ?_⟩; gi_at_call 25; refine (cutsOf_in _ _ _ _ _).mono ?_; rintro e wb ⟨rfl, hwb⟩; rw [hwB] at hwb; subst hwb)
      | fail)
    clear hwB
    refine wpIn_rangeCut' 9 8 (by omega) Wa.heap.size (cutX Ls Ls.length) _ (cutsOf1_in 7 (by omega) Wa.heap.size a Ls cc (by omega) (by exact HM.out)) rfl (fun k W => ∃ v : Value, PJ w W w0.heap.size v ((ruX 0 b) ++ (cutX Ls Ls.length).take k) [w'.heap.size] ∧ (W.heap[Wa.heap.size]? = some (.cells #[.slice a Ls.length cc] 32 (0, 0))) ∧ (∀ g, v.ownBlock = some g → g ≠ wb.heap.size ∧ g ≠ wb.heap.size + 1)) ?keep2 ?inv2 ?start2 ?assign2 ?body2 ?done2
    case keep2 =>
      rintro k A B ⟨v, h1, hx0, h4⟩ ho
      have hl := HLt2.out
      exact ⟨v, h1.only ho (fun k hk => by omega) (by omega) (fun g hg q => by have := h4 g hg; omega) (fun d hd q => by have := HDs2.out d hd; omega), (ho.block _ (Array.getElem?_eq_some_iff.1 hx0).1 (by have := HLt2.out; omega)).trans hx0, h4⟩
    case inv2 =>
      rintro k A ⟨v, h1, hx0, _⟩
      exact ⟨by rw [cell_of_row _ _ _ _ _ _ hx0]; rfl, HL.out.past h1.bel⟩
    case start2 => exact ⟨va, by rw [List.take_zero, List.append_nil]; exact HJa.out, HRb.out, fun g hg => by have := (World.ownsRow.lt HJA.out.own g hg).2; have := HLt2.out; omega⟩
    case assign2 =>
      intro l x W K hK
      simp only [actB, val3, List.setIfInBounds_toArray, List.set_cons_succ, List.set_cons_zero] at hK ⊢
      gi_wp2
      exact hK
    case body2 =>
      rintro l k hk Bx W ⟨v, h1, hx0, h4⟩ hBx ⟨hd1, rc, hd2⟩
      simp only [actB, val3, List.setIfInBounds_toArray, List.set_cons_succ, List.set_cons_zero]
      have HTk : Hid ((ruX 0 b) ++ (cutX Ls Ls.length).take (k + 1) = ((ruX 0 b) ++ (cutX Ls Ls.length).take k) ++ [(cutX Ls Ls.length)[k]]) := hid0 (by rw [List.take_add_one, List.getElem?_eq_getElem hk]; exact (List.append_assoc _ _ _).symm)
      have hbnd : ((ruX 0 b) ++ (cutX Ls Ls.length).take k).length ≤ 2000000000000 := by
        have := HBnd.out
        rw [List.length_append, List.length_take]
        rw [ruX_len]; omega
      generalize (ruX 0 b) ++ (cutX Ls Ls.length).take k = L2 at *
      generalize (cutX Ls Ls.length)[k] = x at *
      obtain ⟨av, cv, hvf⟩ := h1.own.form
      subst hvf
      have c5 : W.cell? ⟨w0.heap.size, 0, none⟩ = some (.slice av L2.length cv) := by rw [cell_of_row _ _ _ _ _ _ h1.box]; rfl
      have x0 : W.cell? ⟨Bx, 0, none⟩ = some (.int .i64 x.1) := by rw [cell_of_row _ _ _ _ _ _ hBx]; rfl
      have x1 : W.cell? ⟨Bx, 1, none⟩ = some (.int .i64 x.2.1) := by rw [cell_of_row _ _ _ _ _ _ hBx]; rfl
      have x2 : W.cell? ⟨Bx, 2, none⟩ = some (.int .i64 x.2.2) := by rw [cell_of_row _ _ _ _ _ _ hBx]; rfl
      have HOk : Hid (W.ownsRow w.heap.size 54 3 (.slice av L2.length cv) L2.length (cells3 L2)) := hid0 h1.own
      have HWs : Hid (w.heap.size ≤ W.heap.size) := hid0 h1.bel.size
      have HJx := hid0 h1
      have H4 := hid0 h4
      have HBs : Hid (W.heap[Wa.heap.size]? = some (.cells #[.slice a Ls.length cc] 32 (0, 0))) := hid0 hx0
      have HDd := hid0 (And.intro hd1 hd2)
      clear h1 h4 hBx hd1 hd2 hx0
      gi_wp2_with (gi_at_builtin; go_loud ((refine wpListIn_append_own_at _ rfl _ _ 52 rfl w.heap.size 54 i0 (.agg #[.int .i64 0, .int .i64 0, .int .i64 0]) 3 24 Try.underlying52 hi hz0 hz1 hz2 rfl (by decide) (.slice av L2.length cv) L2.length (cells3 L2) rfl (World.ownsRow.alloc HOk.out _) ⟨W.heap.size, 0, none⟩ 1 1 (c3 x) rfl rfl (cellC3_new W x _) (c3_one x) (by unfold maxLen; omega) (by omega) (by have := HWs.out; simp; omega) ?_; intro v4' w4 hown4 hgrow4 _ hat4; have hst := PJ.step HJx.out hgrow4 hat4 hown4; have c4 : w4.cell? ⟨w0.heap.size, 0, none⟩ = some (.slice av L2.length cv) := (by rw [cell_of_row _ _ _ _ _ _ hst.2.2]; rfl); have f4 : w4.frozen? ⟨w0.heap.size, 0, none⟩ = false := (by simp [World.frozen?, hst.2.2]); have HST := hid0 hst; obtain ⟨g4, cp4, rfl⟩ := Go.Joins.ownsRow_form hown4 (by omega); clear hown4 hgrow4 hat4 hst)))
      obtain ⟨hp, ho, _⟩ := HST.out
      have hBs := HBs.out
      have hx0 := hBs
      have hne : ∀ (b : Nat) (cs : Array Value) (t : TypeId), t ≠ 54 → W.heap[b]? = some (.cells cs t (0, 0)) → b ≠ w0.heap.size → ¬ (b = w0.heap.size ∨ (Value.slice av L2.length cv).ownBlock = some b) := fun b cs t ht hr hb => by
        rintro (e | e)
        · exact hb e
        · obtain ⟨cur, fr, hr2⟩ := HJx.out.row e
          rw [hr] at hr2
          injection hr2 with hr2
          injection hr2 with _ hr2
          exact ht hr2
      have hS : ∀ k, (k = w0.heap.size ∨ (Value.slice av L2.length cv).ownBlock = some k) → k ≠ wb.heap.size ∧ k ≠ wb.heap.size + 1 := by
        have hl := HLt2.out
        rintro k (e | e)
        · omega
        · exact H4.out k e
      have hk1 := (ho.block wb.heap.size (Array.getElem?_eq_some_iff.1 HDd.out.1).1 (fun q => (hS _ q).1 rfl)).trans HDd.out.1
      have hk2 := (ho.block (wb.heap.size + 1) (Array.getElem?_eq_some_iff.1 HDd.out.2).1 (fun q => (hS _ q).2 rfl)).trans HDd.out.2
      refine ⟨⟨_, (by first | (rw [HTk.out]; exact hp) | (have h := hp; rw [← HTk.out] at h; simpa only [List.nil_append] using h)), (ho.block _ (Array.getElem?_eq_some_iff.1 hx0).1 (hne _ _ _ (by decide) hx0 (by have := HLt2.out; omega))).trans hx0, fun g hg => ?_⟩, ho.mono hS⟩
      obtain ⟨cur, fr, hr2⟩ := hp.row hg
      refine ⟨fun e => ?_, fun e => ?_⟩
      · rw [e, hk1] at hr2; cases hr2
      · rw [e, hk2] at hr2; cases hr2
    case done2 =>
      rintro Wc ⟨vc, hjc, _, _⟩ hdc
      rw [List.take_of_length_le (Nat.le_refl _)] at hjc
      generalize hLQ : (ruX 0 b) ++ (cutX Ls Ls.length) = LQ at hjc
      have HLQ := hid0 hLQ
      clear hLQ
      have hjc := hjc.mark (d := wb.heap.size) (by have := HLt2.out; omega) hdc
      obtain ⟨wD, hwD⟩ : ∃ wD, (Wc.alloc (.cells #[.int .i64 (b : Int)] 3)).alloc (.cells #[.int .i64 (n : Int)] 3) = wD := ⟨_, rfl⟩
      obtain ⟨bbD, hrD, hrE, hsD⟩ := laid2 hwD
      have HJc := hid0 (hjc.past bbD)
      have HJC := hid0 hjc
      have HRd := hid0 (And.intro hrD hrE)
      have HNb : Hid (b + (n - b) = n) := hid0 (by omega)
      have HNd : Hid (wb.heap.size ≠ w'.heap.size) := hid0 (by have := HDs2.out _ (.head _); omega)
      have HLt3 : Hid (w.heap.size ≤ w0.heap.size ∧ w0.heap.size < Wc.heap.size ∧ wD.heap.size = Wc.heap.size + 2) := hid0 ⟨HLt1.out.1, hjc.lt, hsD⟩
      have HDs3 : Hid (∀ d ∈ [wb.heap.size, w'.heap.size], d < wD.heap.size) := hid0 (fun d hd => by
        have := (Array.getElem?_eq_some_iff.1 (HJc.out.ds d hd).2).1
        exact this)
      clear hjc hdc bbD hrD hrE hsD HJa HJA HRb HDs2
      gi_wp2_with (first
        | (refine ⟨trivial, ?_⟩; gi_at_call 24; refine (rulesFrom_in _ _ _ _).mono ?_; rintro e wd ⟨rfl, hwd⟩; rw [hwD] at hwd; subst hwd)
        | fail)
      clear hwD
      refine wpIn_rangeRu' 10 8 (by omega) Wc.heap.size (Wc.heap.size + 1) (ruX b (n - b)) _ (rulesFrom1_in 7 (by omega) Wc.heap.size (Wc.heap.size + 1) b (n - b) (by omega)) rfl (fun k W => ∃ v : Value, PJ w W w0.heap.size v (LQ ++ (ruX b (n - b)).take k) [wb.heap.size, w'.heap.size] ∧ (W.heap[Wc.heap.size]? = some (.cells #[.int .i64 (b : Int)] 3 (0, 0)) ∧ W.heap[(Wc.heap.size + 1)]? = some (.cells #[.int .i64 (n : Int)] 3 (0, 0))) ∧ (∀ g, v.ownBlock = some g → g ≠ wd.heap.size ∧ g ≠ wd.heap.size + 1)) ?keep3 ?inv3 ?start3 ?assign3 ?body3 ?done3
      case keep3 =>
        rintro k A B ⟨v, h1, ⟨hx0, hx1⟩, h4⟩ ho
        have hl := HLt3.out
        exact ⟨v, h1.only ho (fun k hk => by omega) (by omega) (fun g hg q => by have := h4 g hg; omega) (fun d hd q => by have := HDs3.out d hd; omega), ⟨(ho.block _ (Array.getElem?_eq_some_iff.1 hx0).1 (by have := HLt3.out; omega)).trans hx0, (ho.block _ (Array.getElem?_eq_some_iff.1 hx1).1 (by have := HLt3.out; omega)).trans hx1⟩, h4⟩
      case inv3 =>
        rintro k A ⟨v, h1, ⟨hx0, hx1⟩, _⟩
        exact ⟨by rw [cell_of_row _ _ _ _ _ _ hx0]; rfl, by rw [cell_of_row _ _ _ _ _ _ hx1, HNb.out]; rfl⟩
      case start3 => exact ⟨vc, by rw [List.take_zero, List.append_nil]; exact HJc.out, HRd.out, fun g hg => by have := (World.ownsRow.lt HJC.out.own g hg).2; have := HLt3.out; omega⟩
      case assign3 =>
        intro l x W K hK
        simp only [actB, val3, List.setIfInBounds_toArray, List.set_cons_succ, List.set_cons_zero] at hK ⊢
        gi_wp2
        exact hK
      case body3 =>
        rintro l k hk Bx W ⟨v, h1, ⟨hx0, hx1⟩, h4⟩ hBx ⟨hd1, rc, hd2⟩
        simp only [actB, val3, List.setIfInBounds_toArray, List.set_cons_succ, List.set_cons_zero]
        have HTk : Hid (LQ ++ (ruX b (n - b)).take (k + 1) = (LQ ++ (ruX b (n - b)).take k) ++ [(ruX b (n - b))[k]]) := hid0 (by rw [List.take_add_one, List.getElem?_eq_getElem hk]; exact (List.append_assoc _ _ _).symm)
        have hbnd : (LQ ++ (ruX b (n - b)).take k).length ≤ 2000000000000 := by
          have := HBnd.out
          rw [List.length_append, List.length_take]
          rw [← HLQ.out, List.length_append, ruX_len, ruX_len]; omega
        generalize LQ ++ (ruX b (n - b)).take k = L2 at *
        generalize (ruX b (n - b))[k] = x at *
        obtain ⟨av, cv, hvf⟩ := h1.own.form
        subst hvf
        have c5 : W.cell? ⟨w0.heap.size, 0, none⟩ = some (.slice av L2.length cv) := by rw [cell_of_row _ _ _ _ _ _ h1.box]; rfl
        have x0 : W.cell? ⟨Bx, 0, none⟩ = some (.int .i64 x.1) := by rw [cell_of_row _ _ _ _ _ _ hBx]; rfl
        have x1 : W.cell? ⟨Bx, 1, none⟩ = some (.int .i64 x.2.1) := by rw [cell_of_row _ _ _ _ _ _ hBx]; rfl
        have x2 : W.cell? ⟨Bx, 2, none⟩ = some (.int .i64 x.2.2) := by rw [cell_of_row _ _ _ _ _ _ hBx]; rfl
        have HOk : Hid (W.ownsRow w.heap.size 54 3 (.slice av L2.length cv) L2.length (cells3 L2)) := hid0 h1.own
        have HWs : Hid (w.heap.size ≤ W.heap.size) := hid0 h1.bel.size
        have HJx := hid0 h1
        have H4 := hid0 h4
        have HBs : Hid (W.heap[Wc.heap.size]? = some (.cells #[.int .i64 (b : Int)] 3 (0, 0)) ∧ W.heap[(Wc.heap.size + 1)]? = some (.cells #[.int .i64 (n : Int)] 3 (0, 0))) := hid0 ⟨hx0, hx1⟩
        have HDd := hid0 (And.intro hd1 hd2)
        clear h1 h4 hBx hd1 hd2 hx0 hx1
        gi_wp2_with (gi_at_builtin; go_loud ((refine wpListIn_append_own_at _ rfl _ _ 52 rfl w.heap.size 54 i0 (.agg #[.int .i64 0, .int .i64 0, .int .i64 0]) 3 24 Try.underlying52 hi hz0 hz1 hz2 rfl (by decide) (.slice av L2.length cv) L2.length (cells3 L2) rfl (World.ownsRow.alloc HOk.out _) ⟨W.heap.size, 0, none⟩ 1 1 (c3 x) rfl rfl (cellC3_new W x _) (c3_one x) (by unfold maxLen; omega) (by omega) (by have := HWs.out; simp; omega) ?_; intro v4' w4 hown4 hgrow4 _ hat4; have hst := PJ.step HJx.out hgrow4 hat4 hown4; have c4 : w4.cell? ⟨w0.heap.size, 0, none⟩ = some (.slice av L2.length cv) := (by rw [cell_of_row _ _ _ _ _ _ hst.2.2]; rfl); have f4 : w4.frozen? ⟨w0.heap.size, 0, none⟩ = false := (by simp [World.frozen?, hst.2.2]); have HST := hid0 hst; obtain ⟨g4, cp4, rfl⟩ := Go.Joins.ownsRow_form hown4 (by omega); clear hown4 hgrow4 hat4 hst)))
        obtain ⟨hp, ho, _⟩ := HST.out
        have hBs := HBs.out
        obtain ⟨hx0, hx1⟩ := hBs
        have hne : ∀ (b : Nat) (cs : Array Value) (t : TypeId), t ≠ 54 → W.heap[b]? = some (.cells cs t (0, 0)) → b ≠ w0.heap.size → ¬ (b = w0.heap.size ∨ (Value.slice av L2.length cv).ownBlock = some b) := fun b cs t ht hr hb => by
          rintro (e | e)
          · exact hb e
          · obtain ⟨cur, fr, hr2⟩ := HJx.out.row e
            rw [hr] at hr2
            injection hr2 with hr2
            injection hr2 with _ hr2
            exact ht hr2
        have hS : ∀ k, (k = w0.heap.size ∨ (Value.slice av L2.length cv).ownBlock = some k) → k ≠ wd.heap.size ∧ k ≠ wd.heap.size + 1 := by
          have hl := HLt3.out
          rintro k (e | e)
          · omega
          · exact H4.out k e
        have hk1 := (ho.block wd.heap.size (Array.getElem?_eq_some_iff.1 HDd.out.1).1 (fun q => (hS _ q).1 rfl)).trans HDd.out.1
        have hk2 := (ho.block (wd.heap.size + 1) (Array.getElem?_eq_some_iff.1 HDd.out.2).1 (fun q => (hS _ q).2 rfl)).trans HDd.out.2
        refine ⟨⟨_, (by first | (rw [HTk.out]; exact hp) | (have h := hp; rw [← HTk.out] at h; simpa only [List.nil_append] using h)), ⟨(ho.block _ (Array.getElem?_eq_some_iff.1 hx0).1 (hne _ _ _ (by decide) hx0 (by have := HLt3.out; omega))).trans hx0, (ho.block _ (Array.getElem?_eq_some_iff.1 hx1).1 (hne _ _ _ (by decide) hx1 (by have := HLt3.out; omega))).trans hx1⟩, fun g hg => ?_⟩, ho.mono hS⟩
        obtain ⟨cur, fr, hr2⟩ := hp.row hg
        refine ⟨fun e => ?_, fun e => ?_⟩
        · rw [e, hk1] at hr2; cases hr2
        · rw [e, hk2] at hr2; cases hr2
      case done3 =>
        rintro We ⟨ve, hje, _, _⟩ hde
        rw [List.take_of_length_le (Nat.le_refl _)] at hje
        have hje := hje.mark (d := wd.heap.size) (by have := HLt3.out; omega) hde
        have HJe := hid0 hje
        obtain ⟨av, cv, hvf⟩ := hje.own.form
        subst hvf
        have c5 : We.cell? ⟨w0.heap.size, 0, none⟩ = some (.slice av (LQ ++ (ruX b (n - b))).length cv) := by rw [cell_of_row _ _ _ _ _ _ hje.box]; rfl
        have HNd3 : Hid ([wd.heap.size, wb.heap.size, w'.heap.size].Nodup) := hid0 (by
          have h1 := HDs3.out _ (.head _)
          have h2 := HDs3.out _ (.tail _ (.head _))
          have h3 := HNd.out
          simp only [List.nodup_cons, List.mem_cons, List.not_mem_nil, or_false, not_false_eq_true, List.nodup_nil, and_true]
          omega)
        clear hje hde HJc HJC HRd HDs3
        have HLL : Hid ((ruX 0 b) ++ (cutX Ls Ls.length) ++ (ruX b (n - b)) = LQ ++ (ruX b (n - b))) := hid0 (by rw [← HLQ.out])
        generalize LQ ++ (ruX b (n - b)) = LL at *
        gi_wp2
        refine leaves_marks w.heap.size [wd.heap.size, wb.heap.size, w'.heap.size] We HJe.out.ds HNd3.out (fun W hW => ?_)
        refine ⟨_, results_tmp rfl _ _ _, ?_⟩
        have hj := HJe.out.less.only hW (fun d hd => (HJe.out.ds d hd).1) (fun hd => (HJe.out.offD hd).2 rfl) (fun g hg hd => (HJe.out.offD hd).1 hg) (fun _ hd => nomatch hd)
        rw [HLL.out]
        exact ⟨.slice av LL.length cv, rfl, hj.own, hj.bel⟩
set_option maxRecDepth 100000 in
set_option maxHeartbeats 2000000 in
theorem patterns_neg (n : Nat) (s : Int) (a : Option Addr) (Ls : List Nat) (cc : Nat) (vr v2 v3 v4 v5 : Value) (w : World) (hn : n ≤ 100000000) (hvr : ∃ ar cr, vr = .slice ar n cr) (Le : List Nat) (d : Nat) (HLe : Hid (Le = [])) (HD0 : Hid (d = 0)) (hs : s < 0) :
    Calls Try.prog 15 #[.agg #[vr, .int .i64 s, v2, v3, v4, v5], .slice a Ls.length cc] w fun e w' => PatR w ((ruX 0 n) ++ (cutX Le Le.length) ++ (ruX n d)) e w' := by
  obtain ⟨i0, hi, hz0, hz1, hz2⟩ := info_parts info3
  obtain ⟨ar, cr, rfl⟩ := hvr
  have q1d : decide (s < 0) = true := decide_eq_true hs
  have HBnd : Hid (n + (cutX Le Le.length).length ≤ 1999900000000 ∧ d ≤ 0) := hid0 ⟨by rw [HLe.out]; simp [cutX]; omega, by have := HD0.out; omega⟩
  obtain ⟨w0, hw0⟩ : ∃ w0, w.alloc (.cells #[.slice ar n cr, .int .i64 s, v2, v3, v4, v5] 31) = w0 := ⟨_, rfl⟩
  obtain ⟨bb0, hr0, hs0⟩ := laid1 hw0
  have e0 : w0.cell? ⟨w.heap.size, 0, none⟩ = some (.slice ar n cr) := by rw [cell_of_row _ _ _ _ _ _ hr0]; rfl
  have e1 : w0.cell? ⟨w.heap.size, 1, none⟩ = some (.int .i64 s) := by rw [cell_of_row _ _ _ _ _ _ hr0]; rfl
  obtain ⟨w1, hw1⟩ : ∃ w1, w0.alloc (.cells #[.slice none 0 0] 52) = w1 := ⟨_, rfl⟩
  obtain ⟨bb1, hr1, hs1⟩ := laid1 hw1
  obtain ⟨w2, hw2⟩ : ∃ w2, (w1.alloc (.cells #[.int .i64 0] 3)).alloc (.cells #[.int .i64 (n : Int)] 3) = w2 := ⟨_, rfl⟩
  obtain ⟨bb2, hr2, hr3, hs2⟩ := laid2 hw2
  have HJ0 : Hid (PJ w w2 w0.heap.size (.slice none 0 0) [] []) := hid0 ⟨(bb2.block _ (by omega)).trans hr1, World.ownsRow_nil _ _ _ _, Below.later (Below.later bb0 bb1) bb2, bb0.size, fun _ h => nomatch h⟩
  have HR2 := hid0 (And.intro hr2 hr3)
  have HLt1 : Hid (w.heap.size ≤ w0.heap.size ∧ w0.heap.size < w1.heap.size ∧ w2.heap.size = w1.heap.size + 2) := hid0 (by omega)
  have HDs1 : Hid (∀ d ∈ ([] : List Nat), d < w2.heap.size) := hid0 (fun _ h => nomatch h)
  clear bb0 hr0 hs0 bb1 hr1 hs1 bb2 hr2 hr3 hs2
  refine (callsIn_wide (n := 8)).1 ?_
  refine callsIn_of_wp_marks Try.func15 rfl trivial ?_ rfl
  simp only [Try.ntmps15, List.size_toArray, List.length_cons, List.length_nil, Nat.reduceAdd, Nat.reduceSub, Array.replicate_succ, Array.replicate_zero, List.push_toArray, List.append_toArray, List.nil_append, List.cons_append]
  gi_wp2_with (first
    | (refine ⟨trivial, ?_⟩; gi_at_call 24; refine (rulesFrom_in _ _ _ _).mono ?_; rintro e w' ⟨rfl, hw'⟩; rw [hw2] at hw'; subst hw')
    | fail)
  clear hw0 hw1 hw2 e0 e1
  refine wpIn_rangeRu' 8 8 (by omega) w1.heap.size (w1.heap.size + 1) (ruX 0 n) _ (rulesFrom1_in 7 (by omega) w1.heap.size (w1.heap.size + 1) 0 n (by omega)) rfl (fun k W => ∃ v : Value, PJ w W w0.heap.size v ([] ++ (ruX 0 n).take k) [] ∧ (W.heap[w1.heap.size]? = some (.cells #[.int .i64 0] 3 (0, 0)) ∧ W.heap[(w1.heap.size + 1)]? = some (.cells #[.int .i64 (n : Int)] 3 (0, 0))) ∧ (∀ g, v.ownBlock = some g → g ≠ w'.heap.size ∧ g ≠ w'.heap.size + 1)) ?keep1 ?inv1 ?start1 ?assign1 ?body1 ?done1
  case keep1 =>
    rintro k A B ⟨v, h1, ⟨hx0, hx1⟩, h4⟩ ho
    have hl := HLt1.out
    exact ⟨v, h1.only ho (fun k hk => by omega) (by omega) (fun g hg q => by have := h4 g hg; omega) (fun d hd q => by have := HDs1.out d hd; omega), ⟨(ho.block _ (Array.getElem?_eq_some_iff.1 hx0).1 (by have := HLt1.out; omega)).trans hx0, (ho.block _ (Array.getElem?_eq_some_iff.1 hx1).1 (by have := HLt1.out; omega)).trans hx1⟩, h4⟩
  case inv1 =>
    rintro k A ⟨v, h1, ⟨hx0, hx1⟩, _⟩
    exact ⟨by rw [cell_of_row _ _ _ _ _ _ hx0]; rfl, by rw [cell_of_row _ _ _ _ _ _ hx1, Nat.zero_add]; rfl⟩
  case start1 => exact ⟨.slice none 0 0, by rw [List.take_zero]; exact HJ0.out, ⟨HR2.out.1, HR2.out.2⟩, fun g hg => by cases hg⟩
  case assign1 =>
    intro l x W K hK
    simp only [actB, val3, List.setIfInBounds_toArray, List.set_cons_succ, List.set_cons_zero] at hK ⊢
    gi_wp2
    exact hK
  case body1 =>
    rintro l k hk Bx W ⟨v, h1, ⟨hx0, hx1⟩, h4⟩ hBx ⟨hd1, rc, hd2⟩
    simp only [actB, val3, List.setIfInBounds_toArray, List.set_cons_succ, List.set_cons_zero]
    have HTk : Hid ([] ++ (ruX 0 n).take (k + 1) = ([] ++ (ruX 0 n).take k) ++ [(ruX 0 n)[k]]) := hid0 (by rw [List.take_add_one, List.getElem?_eq_getElem hk]; exact (List.append_assoc _ _ _).symm)
    have hbnd : ([] ++ (ruX 0 n).take k).length ≤ 2000000000000 := by
      have := HBnd.out
      rw [List.length_append, List.length_take]
      simp only [List.length_nil, ruX_len]; omega
    generalize [] ++ (ruX 0 n).take k = L2 at *
    generalize (ruX 0 n)[k] = x at *
    obtain ⟨av, cv, hvf⟩ := h1.own.form
    subst hvf
    have c5 : W.cell? ⟨w0.heap.size, 0, none⟩ = some (.slice av L2.length cv) := by rw [cell_of_row _ _ _ _ _ _ h1.box]; rfl
    have x0 : W.cell? ⟨Bx, 0, none⟩ = some (.int .i64 x.1) := by rw [cell_of_row _ _ _ _ _ _ hBx]; rfl
    have x1 : W.cell? ⟨Bx, 1, none⟩ = some (.int .i64 x.2.1) := by rw [cell_of_row _ _ _ _ _ _ hBx]; rfl
    have x2 : W.cell? ⟨Bx, 2, none⟩ = some (.int .i64 x.2.2) := by rw [cell_of_row _ _ _ _ _ _ hBx]; rfl
    have HOk : Hid (W.ownsRow w.heap.size 54 3 (.slice av L2.length cv) L2.length (cells3 L2)) := hid0 h1.own
    have HWs : Hid (w.heap.size ≤ W.heap.size) := hid0 h1.bel.size
    have HJx := hid0 h1
    have H4 := hid0 h4
    have HBs : Hid (W.heap[w1.heap.size]? = some (.cells #[.int .i64 0] 3 (0, 0)) ∧ W.heap[(w1.heap.size + 1)]? = some (.cells #[.int .i64 (n : Int)] 3 (0, 0))) := hid0 ⟨hx0, hx1⟩
    have HDd := hid0 (And.intro hd1 hd2)
    clear h1 h4 hBx hd1 hd2 hx0 hx1
    gi_wp2_with (gi_at_builtin; go_loud ((refine wpListIn_append_own_at _ rfl _ _ 52 rfl w.heap.size 54 i0 (.agg #[.int .i64 0, .int .i64 0, .int .i64 0]) 3 24 Try.underlying52 hi hz0 hz1 hz2 rfl (by decide) (.slice av L2.length cv) L2.length (cells3 L2) rfl (World.ownsRow.alloc HOk.out _) ⟨W.heap.size, 0, none⟩ 1 1 (c3 x) rfl rfl (cellC3_new W x _) (c3_one x) (by unfold maxLen; omega) (by omega) (by have := HWs.out; simp; omega) ?_; intro v4' w4 hown4 hgrow4 _ hat4; have hst := PJ.step HJx.out hgrow4 hat4 hown4; have c4 : w4.cell? ⟨w0.heap.size, 0, none⟩ = some (.slice av L2.length cv) := (by rw [cell_of_row _ _ _ _ _ _ hst.2.2]; rfl); have f4 : w4.frozen? ⟨w0.heap.size, 0, none⟩ = false := (by simp [World.frozen?, hst.2.2]); have HST := hid0 hst; obtain ⟨g4, cp4, rfl⟩ := Go.Joins.ownsRow_form hown4 (by omega); clear hown4 hgrow4 hat4 hst)))
    obtain ⟨hp, ho, _⟩ := HST.out
    have hBs := HBs.out
    obtain ⟨hx0, hx1⟩ := hBs
    have hne : ∀ (b : Nat) (cs : Array Value) (t : TypeId), t ≠ 54 → W.heap[b]? = some (.cells cs t (0, 0)) → b ≠ w0.heap.size → ¬ (b = w0.heap.size ∨ (Value.slice av L2.length cv).ownBlock = some b) := fun b cs t ht hr hb => by
      rintro (e | e)
      · exact hb e
      · obtain ⟨cur, fr, hr2⟩ := HJx.out.row e
        rw [hr] at hr2
        injection hr2 with hr2
        injection hr2 with _ hr2
        exact ht hr2
    have hS : ∀ k, (k = w0.heap.size ∨ (Value.slice av L2.length cv).ownBlock = some k) → k ≠ w'.heap.size ∧ k ≠ w'.heap.size + 1 := by
      have hl := HLt1.out
      rintro k (e | e)
      · omega
      · exact H4.out k e
    have hk1 := (ho.block w'.heap.size (Array.getElem?_eq_some_iff.1 HDd.out.1).1 (fun q => (hS _ q).1 rfl)).trans HDd.out.1
    have hk2 := (ho.block (w'.heap.size + 1) (Array.getElem?_eq_some_iff.1 HDd.out.2).1 (fun q => (hS _ q).2 rfl)).trans HDd.out.2
    refine ⟨⟨_, (by first | (rw [HTk.out]; exact hp) | (have h := hp; rw [← HTk.out] at h; simpa only [List.nil_append] using h)), ⟨(ho.block _ (Array.getElem?_eq_some_iff.1 hx0).1 (hne _ _ _ (by decide) hx0 (by have := HLt1.out; omega))).trans hx0, (ho.block _ (Array.getElem?_eq_some_iff.1 hx1).1 (hne _ _ _ (by decide) hx1 (by have := HLt1.out; omega))).trans hx1⟩, fun g hg => ?_⟩, ho.mono hS⟩
    obtain ⟨cur, fr, hr2⟩ := hp.row hg
    refine ⟨fun e => ?_, fun e => ?_⟩
    · rw [e, hk1] at hr2; cases hr2
    · rw [e, hk2] at hr2; cases hr2
  case done1 =>
    rintro Wa ⟨va, hja, _, _⟩ hda
    rw [List.take_of_length_le (Nat.le_refl _), List.nil_append] at hja
    have hja := hja.mark (d := w'.heap.size) (by have := HLt1.out; omega) hda
    obtain ⟨wB, hwB⟩ : ∃ wB, Wa.alloc (.cells #[.slice none 0 0] 32) = wB := ⟨_, rfl⟩
    obtain ⟨bbB, hrB, hsB⟩ := laid1 hwB
    have HJa := hid0 (hja.past bbB)
    have HJA := hid0 hja
    have HRb := hid0 hrB
    have HLt2 : Hid (w.heap.size ≤ w0.heap.size ∧ w0.heap.size < Wa.heap.size ∧ wB.heap.size = Wa.heap.size + 1) := hid0 ⟨HLt1.out.1, hja.lt, hsB⟩
    have HDs2 : Hid (∀ d ∈ [w'.heap.size], d < wB.heap.size) := hid0 (fun d hd => by
      have := (Array.getElem?_eq_some_iff.1 (HJa.out.ds d hd).2).1
      exact this)
    clear hja hda bbB hrB hsB HJ0 HR2 HDs1
    gi_wp2_with (first
      | (refine ⟨trivial, ?_⟩; gi_at_call 25; refine (cutsOf_in _ _ _ _ _).mono ?_; rintro e wb ⟨rfl, hwb⟩; rw [hwB] at hwb; subst hwb)
      | fail)
    clear hwB
    refine wpIn_rangeCut' 9 8 (by omega) Wa.heap.size (cutX Le Le.length) _ (cutsOf1_in 7 (by omega) Wa.heap.size none Le 0 (by rw [HLe.out]; simp) (by rw [HLe.out]; simp)) rfl (fun k W => ∃ v : Value, PJ w W w0.heap.size v ((ruX 0 n) ++ (cutX Le Le.length).take k) [w'.heap.size] ∧ (W.heap[Wa.heap.size]? = some (.cells #[.slice none 0 0] 32 (0, 0))) ∧ (∀ g, v.ownBlock = some g → g ≠ wb.heap.size ∧ g ≠ wb.heap.size + 1)) ?keep2 ?inv2 ?start2 ?assign2 ?body2 ?done2
    case keep2 =>
      rintro k A B ⟨v, h1, hx0, h4⟩ ho
      have hl := HLt2.out
      exact ⟨v, h1.only ho (fun k hk => by omega) (by omega) (fun g hg q => by have := h4 g hg; omega) (fun d hd q => by have := HDs2.out d hd; omega), (ho.block _ (Array.getElem?_eq_some_iff.1 hx0).1 (by have := HLt2.out; omega)).trans hx0, h4⟩
    case inv2 =>
      rintro k A ⟨v, h1, hx0, _⟩
      exact ⟨by rw [cell_of_row _ _ _ _ _ _ hx0, HLe.out]; rfl, by rw [HLe.out]; exact ⟨fun k hk => absurd hk (Nat.not_lt_zero _)⟩⟩
    case start2 => exact ⟨va, by rw [List.take_zero, List.append_nil]; exact HJa.out, HRb.out, fun g hg => by have := (World.ownsRow.lt HJA.out.own g hg).2; have := HLt2.out; omega⟩
    case assign2 =>
      intro l x W K hK
      simp only [actB, val3, List.setIfInBounds_toArray, List.set_cons_succ, List.set_cons_zero] at hK ⊢
      gi_wp2
      exact hK
    case body2 =>
      rintro l k hk Bx W ⟨v, h1, hx0, h4⟩ hBx ⟨hd1, rc, hd2⟩
      simp only [actB, val3, List.setIfInBounds_toArray, List.set_cons_succ, List.set_cons_zero]
      have HTk : Hid ((ruX 0 n) ++ (cutX Le Le.length).take (k + 1) = ((ruX 0 n) ++ (cutX Le Le.length).take k) ++ [(cutX Le Le.length)[k]]) := hid0 (by rw [List.take_add_one, List.getElem?_eq_getElem hk]; exact (List.append_assoc _ _ _).symm)
      have hbnd : ((ruX 0 n) ++ (cutX Le Le.length).take k).length ≤ 2000000000000 := by
        have := HBnd.out
        rw [List.length_append, List.length_take]
        rw [ruX_len]; omega
      generalize (ruX 0 n) ++ (cutX Le Le.length).take k = L2 at *
      generalize (cutX Le Le.length)[k] = x at *
      obtain ⟨av, cv, hvf⟩ := h1.own.form
      subst hvf
      have c5 : W.cell? ⟨w0.heap.size, 0, none⟩ = some (.slice av L2.length cv) := by rw [cell_of_row _ _ _ _ _ _ h1.box]; rfl
      have x0 : W.cell? ⟨Bx, 0, none⟩ = some (.int .i64 x.1) := by rw [cell_of_row _ _ _ _ _ _ hBx]; rfl
      have x1 : W.cell? ⟨Bx, 1, none⟩ = some (.int .i64 x.2.1) := by rw [cell_of_row _ _ _ _ _ _ hBx]; rfl
      have x2 : W.cell? ⟨Bx, 2, none⟩ = some (.int .i64 x.2.2) := by rw [cell_of_row _ _ _ _ _ _ hBx]; rfl
      have HOk : Hid (W.ownsRow w.heap.size 54 3 (.slice av L2.length cv) L2.length (cells3 L2)) := hid0 h1.own
      have HWs : Hid (w.heap.size ≤ W.heap.size) := hid0 h1.bel.size
      have HJx := hid0 h1
      have H4 := hid0 h4
      have HBs : Hid (W.heap[Wa.heap.size]? = some (.cells #[.slice none 0 0] 32 (0, 0))) := hid0 hx0
      have HDd := hid0 (And.intro hd1 hd2)
      clear h1 h4 hBx hd1 hd2 hx0
      gi_wp2_with (gi_at_builtin; go_loud ((refine wpListIn_append_own_at _ rfl _ _ 52 rfl w.heap.size 54 i0 (.agg #[.int .i64 0, .int .i64 0, .int .i64 0]) 3 24 Try.underlying52 hi hz0 hz1 hz2 rfl (by decide) (.slice av L2.length cv) L2.length (cells3 L2) rfl (World.ownsRow.alloc HOk.out _) ⟨W.heap.size, 0, none⟩ 1 1 (c3 x) rfl rfl (cellC3_new W x _) (c3_one x) (by unfold maxLen; omega) (by omega) (by have := HWs.out; simp; omega) ?_; intro v4' w4 hown4 hgrow4 _ hat4; have hst := PJ.step HJx.out hgrow4 hat4 hown4; have c4 : w4.cell? ⟨w0.heap.size, 0, none⟩ = some (.slice av L2.length cv) := (by rw [cell_of_row _ _ _ _ _ _ hst.2.2]; rfl); have f4 : w4.frozen? ⟨w0.heap.size, 0, none⟩ = false := (by simp [World.frozen?, hst.2.2]); have HST := hid0 hst; obtain ⟨g4, cp4, rfl⟩ := Go.Joins.ownsRow_form hown4 (by omega); clear hown4 hgrow4 hat4 hst)))
      obtain ⟨hp, ho, _⟩ := HST.out
      have hBs := HBs.out
      have hx0 := hBs
      have hne : ∀ (b : Nat) (cs : Array Value) (t : TypeId), t ≠ 54 → W.heap[b]? = some (.cells cs t (0, 0)) → b ≠ w0.heap.size → ¬ (b = w0.heap.size ∨ (Value.slice av L2.length cv).ownBlock = some b) := fun b cs t ht hr hb => by
        rintro (e | e)
        · exact hb e
        · obtain ⟨cur, fr, hr2⟩ := HJx.out.row e
          rw [hr] at hr2
          injection hr2 with hr2
          injection hr2 with _ hr2
          exact ht hr2
      have hS : ∀ k, (k = w0.heap.size ∨ (Value.slice av L2.length cv).ownBlock = some k) → k ≠ wb.heap.size ∧ k ≠ wb.heap.size + 1 := by
        have hl := HLt2.out
        rintro k (e | e)
        · omega
        · exact H4.out k e
      have hk1 := (ho.block wb.heap.size (Array.getElem?_eq_some_iff.1 HDd.out.1).1 (fun q => (hS _ q).1 rfl)).trans HDd.out.1
      have hk2 := (ho.block (wb.heap.size + 1) (Array.getElem?_eq_some_iff.1 HDd.out.2).1 (fun q => (hS _ q).2 rfl)).trans HDd.out.2
      refine ⟨⟨_, (by first | (rw [HTk.out]; exact hp) | (have h := hp; rw [← HTk.out] at h; simpa only [List.nil_append] using h)), (ho.block _ (Array.getElem?_eq_some_iff.1 hx0).1 (hne _ _ _ (by decide) hx0 (by have := HLt2.out; omega))).trans hx0, fun g hg => ?_⟩, ho.mono hS⟩
      obtain ⟨cur, fr, hr2⟩ := hp.row hg
      refine ⟨fun e => ?_, fun e => ?_⟩
      · rw [e, hk1] at hr2; cases hr2
      · rw [e, hk2] at hr2; cases hr2
    case done2 =>
      rintro Wc ⟨vc, hjc, _, _⟩ hdc
      rw [List.take_of_length_le (Nat.le_refl _)] at hjc
      generalize hLQ : (ruX 0 n) ++ (cutX Le Le.length) = LQ at hjc
      have HLQ := hid0 hLQ
      clear hLQ
      have hjc := hjc.mark (d := wb.heap.size) (by have := HLt2.out; omega) hdc
      obtain ⟨wD, hwD⟩ : ∃ wD, (Wc.alloc (.cells #[.int .i64 (n : Int)] 3)).alloc (.cells #[.int .i64 (n : Int)] 3) = wD := ⟨_, rfl⟩
      obtain ⟨bbD, hrD, hrE, hsD⟩ := laid2 hwD
      have HJc := hid0 (hjc.past bbD)
      have HJC := hid0 hjc
      have HRd := hid0 (And.intro hrD hrE)
      have HNb : Hid (n + d = n) := hid0 (by have := HD0.out; omega)
      have HNd : Hid (wb.heap.size ≠ w'.heap.size) := hid0 (by have := HDs2.out _ (.head _); omega)
      have HLt3 : Hid (w.heap.size ≤ w0.heap.size ∧ w0.heap.size < Wc.heap.size ∧ wD.heap.size = Wc.heap.size + 2) := hid0 ⟨HLt1.out.1, hjc.lt, hsD⟩
      have HDs3 : Hid (∀ d ∈ [wb.heap.size, w'.heap.size], d < wD.heap.size) := hid0 (fun d hd => by
        have := (Array.getElem?_eq_some_iff.1 (HJc.out.ds d hd).2).1
        exact this)
      clear hjc hdc bbD hrD hrE hsD HJa HJA HRb HDs2
      gi_wp2_with (first
        | (refine ⟨trivial, ?_⟩; gi_at_call 24; refine (rulesFrom_in _ _ _ _).mono ?_; rintro e wd ⟨rfl, hwd⟩; rw [hwD] at hwd; subst hwd)
        | fail)
      clear hwD
      refine wpIn_rangeRu' 10 8 (by omega) Wc.heap.size (Wc.heap.size + 1) (ruX n d) _ (rulesFrom1_in 7 (by omega) Wc.heap.size (Wc.heap.size + 1) n d (by have := HD0.out; omega)) rfl (fun k W => ∃ v : Value, PJ w W w0.heap.size v (LQ ++ (ruX n d).take k) [wb.heap.size, w'.heap.size] ∧ (W.heap[Wc.heap.size]? = some (.cells #[.int .i64 (n : Int)] 3 (0, 0)) ∧ W.heap[(Wc.heap.size + 1)]? = some (.cells #[.int .i64 (n : Int)] 3 (0, 0))) ∧ (∀ g, v.ownBlock = some g → g ≠ wd.heap.size ∧ g ≠ wd.heap.size + 1)) ?keep3 ?inv3 ?start3 ?assign3 ?body3 ?done3
      case keep3 =>
        rintro k A B ⟨v, h1, ⟨hx0, hx1⟩, h4⟩ ho
        have hl := HLt3.out
        exact ⟨v, h1.only ho (fun k hk => by omega) (by omega) (fun g hg q => by have := h4 g hg; omega) (fun d hd q => by have := HDs3.out d hd; omega), ⟨(ho.block _ (Array.getElem?_eq_some_iff.1 hx0).1 (by have := HLt3.out; omega)).trans hx0, (ho.block _ (Array.getElem?_eq_some_iff.1 hx1).1 (by have := HLt3.out; omega)).trans hx1⟩, h4⟩
      case inv3 =>
        rintro k A ⟨v, h1, ⟨hx0, hx1⟩, _⟩
        exact ⟨by rw [cell_of_row _ _ _ _ _ _ hx0]; rfl, by rw [cell_of_row _ _ _ _ _ _ hx1, HNb.out]; rfl⟩
      case start3 => exact ⟨vc, by rw [List.take_zero, List.append_nil]; exact HJc.out, HRd.out, fun g hg => by have := (World.ownsRow.lt HJC.out.own g hg).2; have := HLt3.out; omega⟩
      case assign3 =>
        intro l x W K hK
        simp only [actB, val3, List.setIfInBounds_toArray, List.set_cons_succ, List.set_cons_zero] at hK ⊢
        gi_wp2
        exact hK
      case body3 =>
        rintro l k hk Bx W ⟨v, h1, ⟨hx0, hx1⟩, h4⟩ hBx ⟨hd1, rc, hd2⟩
        simp only [actB, val3, List.setIfInBounds_toArray, List.set_cons_succ, List.set_cons_zero]
        have HTk : Hid (LQ ++ (ruX n d).take (k + 1) = (LQ ++ (ruX n d).take k) ++ [(ruX n d)[k]]) := hid0 (by rw [List.take_add_one, List.getElem?_eq_getElem hk]; exact (List.append_assoc _ _ _).symm)
        have hbnd : (LQ ++ (ruX n d).take k).length ≤ 2000000000000 := by
          have := HBnd.out
          rw [List.length_append, List.length_take]
          rw [← HLQ.out, List.length_append, ruX_len, ruX_len]; omega
        generalize LQ ++ (ruX n d).take k = L2 at *
        generalize (ruX n d)[k] = x at *
        obtain ⟨av, cv, hvf⟩ := h1.own.form
        subst hvf
        have c5 : W.cell? ⟨w0.heap.size, 0, none⟩ = some (.slice av L2.length cv) := by rw [cell_of_row _ _ _ _ _ _ h1.box]; rfl
        have x0 : W.cell? ⟨Bx, 0, none⟩ = some (.int .i64 x.1) := by rw [cell_of_row _ _ _ _ _ _ hBx]; rfl
        have x1 : W.cell? ⟨Bx, 1, none⟩ = some (.int .i64 x.2.1) := by rw [cell_of_row _ _ _ _ _ _ hBx]; rfl
        have x2 : W.cell? ⟨Bx, 2, none⟩ = some (.int .i64 x.2.2) := by rw [cell_of_row _ _ _ _ _ _ hBx]; rfl
        have HOk : Hid (W.ownsRow w.heap.size 54 3 (.slice av L2.length cv) L2.length (cells3 L2)) := hid0 h1.own
        have HWs : Hid (w.heap.size ≤ W.heap.size) := hid0 h1.bel.size
        have HJx := hid0 h1
        have H4 := hid0 h4
        have HBs : Hid (W.heap[Wc.heap.size]? = some (.cells #[.int .i64 (n : Int)] 3 (0, 0)) ∧ W.heap[(Wc.heap.size + 1)]? = some (.cells #[.int .i64 (n : Int)] 3 (0, 0))) := hid0 ⟨hx0, hx1⟩
        have HDd := hid0 (And.intro hd1 hd2)
        clear h1 h4 hBx hd1 hd2 hx0 hx1
        gi_wp2_with (gi_at_builtin; go_loud ((refine wpListIn_append_own_at _ rfl _ _ 52 rfl w.heap.size 54 i0 (.agg #[.int .i64 0, .int .i64 0, .int .i64 0]) 3 24 Try.underlying52 hi hz0 hz1 hz2 rfl (by decide) (.slice av L2.length cv) L2.length (cells3 L2) rfl (World.ownsRow.alloc HOk.out _) ⟨W.heap.size, 0, none⟩ 1 1 (c3 x) rfl rfl (cellC3_new W x _) (c3_one x) (by unfold maxLen; omega) (by omega) (by have := HWs.out; simp; omega) ?_; intro v4' w4 hown4 hgrow4 _ hat4; have hst := PJ.step HJx.out hgrow4 hat4 hown4; have c4 : w4.cell? ⟨w0.heap.size, 0, none⟩ = some (.slice av L2.length cv) := (by rw [cell_of_row _ _ _ _ _ _ hst.2.2]; rfl); have f4 : w4.frozen? ⟨w0.heap.size, 0, none⟩ = false := (by simp [World.frozen?, hst.2.2]); have HST := hid0 hst; obtain ⟨g4, cp4, rfl⟩ := Go.Joins.ownsRow_form hown4 (by omega); clear hown4 hgrow4 hat4 hst)))
        obtain ⟨hp, ho, _⟩ := HST.out
        have hBs := HBs.out
        obtain ⟨hx0, hx1⟩ := hBs
        have hne : ∀ (b : Nat) (cs : Array Value) (t : TypeId), t ≠ 54 → W.heap[b]? = some (.cells cs t (0, 0)) → b ≠ w0.heap.size → ¬ (b = w0.heap.size ∨ (Value.slice av L2.length cv).ownBlock = some b) := fun b cs t ht hr hb => by
          rintro (e | e)
          · exact hb e
          · obtain ⟨cur, fr, hr2⟩ := HJx.out.row e
            rw [hr] at hr2
            injection hr2 with hr2
            injection hr2 with _ hr2
            exact ht hr2
        have hS : ∀ k, (k = w0.heap.size ∨ (Value.slice av L2.length cv).ownBlock = some k) → k ≠ wd.heap.size ∧ k ≠ wd.heap.size + 1 := by
          have hl := HLt3.out
          rintro k (e | e)
          · omega
          · exact H4.out k e
        have hk1 := (ho.block wd.heap.size (Array.getElem?_eq_some_iff.1 HDd.out.1).1 (fun q => (hS _ q).1 rfl)).trans HDd.out.1
        have hk2 := (ho.block (wd.heap.size + 1) (Array.getElem?_eq_some_iff.1 HDd.out.2).1 (fun q => (hS _ q).2 rfl)).trans HDd.out.2
        refine ⟨⟨_, (by first | (rw [HTk.out]; exact hp) | (have h := hp; rw [← HTk.out] at h; simpa only [List.nil_append] using h)), ⟨(ho.block _ (Array.getElem?_eq_some_iff.1 hx0).1 (hne _ _ _ (by decide) hx0 (by have := HLt3.out; omega))).trans hx0, (ho.block _ (Array.getElem?_eq_some_iff.1 hx1).1 (hne _ _ _ (by decide) hx1 (by have := HLt3.out; omega))).trans hx1⟩, fun g hg => ?_⟩, ho.mono hS⟩
        obtain ⟨cur, fr, hr2⟩ := hp.row hg
        refine ⟨fun e => ?_, fun e => ?_⟩
        · rw [e, hk1] at hr2; cases hr2
        · rw [e, hk2] at hr2; cases hr2
      case done3 =>
        rintro We ⟨ve, hje, _, _⟩ hde
        rw [List.take_of_length_le (Nat.le_refl _)] at hje
        have hje := hje.mark (d := wd.heap.size) (by have := HLt3.out; omega) hde
        have HJe := hid0 hje
        obtain ⟨av, cv, hvf⟩ := hje.own.form
        subst hvf
        have c5 : We.cell? ⟨w0.heap.size, 0, none⟩ = some (.slice av (LQ ++ (ruX n d)).length cv) := by rw [cell_of_row _ _ _ _ _ _ hje.box]; rfl
        have HNd3 : Hid ([wd.heap.size, wb.heap.size, w'.heap.size].Nodup) := hid0 (by
          have h1 := HDs3.out _ (.head _)
          have h2 := HDs3.out _ (.tail _ (.head _))
          have h3 := HNd.out
          simp only [List.nodup_cons, List.mem_cons, List.not_mem_nil, or_false, not_false_eq_true, List.nodup_nil, and_true]
          omega)
        clear hje hde HJc HJC HRd HDs3
        have HLL : Hid ((ruX 0 n) ++ (cutX Le Le.length) ++ (ruX n d) = LQ ++ (ruX n d)) := hid0 (by rw [← HLQ.out])
        generalize LQ ++ (ruX n d) = LL at *
        gi_wp2
        refine leaves_marks w.heap.size [wd.heap.size, wb.heap.size, w'.heap.size] We HJe.out.ds HNd3.out (fun W hW => ?_)
        refine ⟨_, results_tmp rfl _ _ _, ?_⟩
        have hj := HJe.out.less.only hW (fun d hd => (HJe.out.ds d hd).1) (fun hd => (HJe.out.offD hd).2 rfl) (fun g hg hd => (HJe.out.offD hd).1 hg) (fun _ hd => nomatch hd)
        rw [HLL.out]
        exact ⟨.slice av LL.length cv, rfl, hj.own, hj.bel⟩
set_option maxRecDepth 100000 in
set_option maxHeartbeats 2000000 in
theorem patterns_big (n : Nat) (s : Int) (a : Option Addr) (Ls : List Nat) (cc : Nat) (vr v2 v3 v4 v5 : Value) (w : World) (hn : n ≤ 100000000) (hvr : ∃ ar cr, vr = .slice ar n cr) (Le : List Nat) (d : Nat) (HLe : Hid (Le = [])) (HD0 : Hid (d = 0)) (hs : (n : Int) < s) :
    Calls Try.prog 15 #[.agg #[vr, .int .i64 s, v2, v3, v4, v5], .slice a Ls.length cc] w fun e w' => PatR w ((ruX 0 n) ++ (cutX Le Le.length) ++ (ruX n d)) e w' := by
  obtain ⟨i0, hi, hz0, hz1, hz2⟩ := info_parts info3
  obtain ⟨ar, cr, rfl⟩ := hvr
  have q1 : ¬ (s < 0) := by omega
  have q1d : decide (s < 0) = false := decide_eq_false q1
  have HBnd : Hid (n + (cutX Le Le.length).length ≤ 1999900000000 ∧ d ≤ 0) := hid0 ⟨by rw [HLe.out]; simp [cutX]; omega, by have := HD0.out; omega⟩
  obtain ⟨w0, hw0⟩ : ∃ w0, w.alloc (.cells #[.slice ar n cr, .int .i64 s, v2, v3, v4, v5] 31) = w0 := ⟨_, rfl⟩
  obtain ⟨bb0, hr0, hs0⟩ := laid1 hw0
  have e0 : w0.cell? ⟨w.heap.size, 0, none⟩ = some (.slice ar n cr) := by rw [cell_of_row _ _ _ _ _ _ hr0]; rfl
  have e1 : w0.cell? ⟨w.heap.size, 1, none⟩ = some (.int .i64 s) := by rw [cell_of_row _ _ _ _ _ _ hr0]; rfl
  obtain ⟨w1, hw1⟩ : ∃ w1, w0.alloc (.cells #[.slice none 0 0] 52) = w1 := ⟨_, rfl⟩
  obtain ⟨bb1, hr1, hs1⟩ := laid1 hw1
  obtain ⟨w2, hw2⟩ : ∃ w2, (w1.alloc (.cells #[.int .i64 0] 3)).alloc (.cells #[.int .i64 (n : Int)] 3) = w2 := ⟨_, rfl⟩
  obtain ⟨bb2, hr2, hr3, hs2⟩ := laid2 hw2
  have HJ0 : Hid (PJ w w2 w0.heap.size (.slice none 0 0) [] []) := hid0 ⟨(bb2.block _ (by omega)).trans hr1, World.ownsRow_nil _ _ _ _, Below.later (Below.later bb0 bb1) bb2, bb0.size, fun _ h => nomatch h⟩
  have HR2 := hid0 (And.intro hr2 hr3)
  have HLt1 : Hid (w.heap.size ≤ w0.heap.size ∧ w0.heap.size < w1.heap.size ∧ w2.heap.size = w1.heap.size + 2) := hid0 (by omega)
  have HDs1 : Hid (∀ d ∈ ([] : List Nat), d < w2.heap.size) := hid0 (fun _ h => nomatch h)
  clear bb0 hr0 hs0 bb1 hr1 hs1 bb2 hr2 hr3 hs2
  refine (callsIn_wide (n := 8)).1 ?_
  refine callsIn_of_wp_marks Try.func15 rfl trivial ?_ rfl
  simp only [Try.ntmps15, List.size_toArray, List.length_cons, List.length_nil, Nat.reduceAdd, Nat.reduceSub, Array.replicate_succ, Array.replicate_zero, List.push_toArray, List.append_toArray, List.nil_append, List.cons_append]
  gi_wp2_with (first
    | (refine ⟨trivial, ?_⟩; gi_at_call 24; refine (rulesFrom_in _ _ _ _).mono ?_; rintro e w' ⟨rfl, hw'⟩; rw [hw2] at hw'; subst hw')
    | fail)
  clear hw0 hw1 hw2 e0 e1
  refine wpIn_rangeRu' 8 8 (by omega) w1.heap.size (w1.heap.size + 1) (ruX 0 n) _ (rulesFrom1_in 7 (by omega) w1.heap.size (w1.heap.size + 1) 0 n (by omega)) rfl (fun k W => ∃ v : Value, PJ w W w0.heap.size v ([] ++ (ruX 0 n).take k) [] ∧ (W.heap[w1.heap.size]? = some (.cells #[.int .i64 0] 3 (0, 0)) ∧ W.heap[(w1.heap.size + 1)]? = some (.cells #[.int .i64 (n : Int)] 3 (0, 0))) ∧ (∀ g, v.ownBlock = some g → g ≠ w'.heap.size ∧ g ≠ w'.heap.size + 1)) ?keep1 ?inv1 ?start1 ?assign1 ?body1 ?done1
  case keep1 =>
    rintro k A B ⟨v, h1, ⟨hx0, hx1⟩, h4⟩ ho
    have hl := HLt1.out
    exact ⟨v, h1.only ho (fun k hk => by omega) (by omega) (fun g hg q => by have := h4 g hg; omega) (fun d hd q => by have := HDs1.out d hd; omega), ⟨(ho.block _ (Array.getElem?_eq_some_iff.1 hx0).1 (by have := HLt1.out; omega)).trans hx0, (ho.block _ (Array.getElem?_eq_some_iff.1 hx1).1 (by have := HLt1.out; omega)).trans hx1⟩, h4⟩
  case inv1 =>
    rintro k A ⟨v, h1, ⟨hx0, hx1⟩, _⟩
    exact ⟨by rw [cell_of_row _ _ _ _ _ _ hx0]; rfl, by rw [cell_of_row _ _ _ _ _ _ hx1, Nat.zero_add]; rfl⟩
  case start1 => exact ⟨.slice none 0 0, by rw [List.take_zero]; exact HJ0.out, ⟨HR2.out.1, HR2.out.2⟩, fun g hg => by cases hg⟩
  case assign1 =>
    intro l x W K hK
    simp only [actB, val3, List.setIfInBounds_toArray, List.set_cons_succ, List.set_cons_zero] at hK ⊢
    gi_wp2
    exact hK
  case body1 =>
    rintro l k hk Bx W ⟨v, h1, ⟨hx0, hx1⟩, h4⟩ hBx ⟨hd1, rc, hd2⟩
    simp only [actB, val3, List.setIfInBounds_toArray, List.set_cons_succ, List.set_cons_zero]
    have HTk : Hid ([] ++ (ruX 0 n).take (k + 1) = ([] ++ (ruX 0 n).take k) ++ [(ruX 0 n)[k]]) := hid0 (by rw [List.take_add_one, List.getElem?_eq_getElem hk]; exact (List.append_assoc _ _ _).symm)
    have hbnd : ([] ++ (ruX 0 n).take k).length ≤ 2000000000000 := by
      have := HBnd.out
      rw [List.length_append, List.length_take]
      simp only [List.length_nil, ruX_len]; omega
    generalize [] ++ (ruX 0 n).take k = L2 at *
    generalize (ruX 0 n)[k] = x at *
    obtain ⟨av, cv, hvf⟩ := h1.own.form
    subst hvf
    have c5 : W.cell? ⟨w0.heap.size, 0, none⟩ = some (.slice av L2.length cv) := by rw [cell_of_row _ _ _ _ _ _ h1.box]; rfl
    have x0 : W.cell? ⟨Bx, 0, none⟩ = some (.int .i64 x.1) := by rw [cell_of_row _ _ _ _ _ _ hBx]; rfl
    have x1 : W.cell? ⟨Bx, 1, none⟩ = some (.int .i64 x.2.1) := by rw [cell_of_row _ _ _ _ _ _ hBx]; rfl
    have x2 : W.cell? ⟨Bx, 2, none⟩ = some (.int .i64 x.2.2) := by rw [cell_of_row _ _ _ _ _ _ hBx]; rfl
    have HOk : Hid (W.ownsRow w.heap.size 54 3 (.slice av L2.length cv) L2.length (cells3 L2)) := hid0 h1.own
    have HWs : Hid (w.heap.size ≤ W.heap.size) := hid0 h1.bel.size
    have HJx := hid0 h1
    have H4 := hid0 h4
    have HBs : Hid (W.heap[w1.heap.size]? = some (.cells #[.int .i64 0] 3 (0, 0)) ∧ W.heap[(w1.heap.size + 1)]? = some (.cells #[.int .i64 (n : Int)] 3 (0, 0))) := hid0 ⟨hx0, hx1⟩
    have HDd := hid0 (And.intro hd1 hd2)
    clear h1 h4 hBx hd1 hd2 hx0 hx1
    gi_wp2_with (gi_at_builtin; go_loud ((refine wpListIn_append_own_at _ rfl _ _ 52 rfl w.heap.size 54 i0 (.agg #[.int .i64 0, .int .i64 0, .int .i64 0]) 3 24 Try.underlying52 hi hz0 hz1 hz2 rfl (by decide) (.slice av L2.length cv) L2.length (cells3 L2) rfl (World.ownsRow.alloc HOk.out _) ⟨W.heap.size, 0, none⟩ 1 1 (c3 x) rfl rfl (cellC3_new W x _) (c3_one x) (by unfold maxLen; omega) (by omega) (by have := HWs.out; simp; omega) ?_; intro v4' w4 hown4 hgrow4 _ hat4; have hst := PJ.step HJx.out hgrow4 hat4 hown4; have c4 : w4.cell? ⟨w0.heap.size, 0, none⟩ = some (.slice av L2.length cv) := (by rw [cell_of_row _ _ _ _ _ _ hst.2.2]; rfl); have f4 : w4.frozen? ⟨w0.heap.size, 0, none⟩ = false := (by simp [World.frozen?, hst.2.2]); have HST := hid0 hst; obtain ⟨g4, cp4, rfl⟩ := Go.Joins.ownsRow_form hown4 (by omega); clear hown4 hgrow4 hat4 hst)))
    obtain ⟨hp, ho, _⟩ := HST.out
    have hBs := HBs.out
    obtain ⟨hx0, hx1⟩ := hBs
    have hne : ∀ (b : Nat) (cs : Array Value) (t : TypeId), t ≠ 54 → W.heap[b]? = some (.cells cs t (0, 0)) → b ≠ w0.heap.size → ¬ (b = w0.heap.size ∨ (Value.slice av L2.length cv).ownBlock = some b) := fun b cs t ht hr hb => by
      rintro (e | e)
      · exact hb e
      · obtain ⟨cur, fr, hr2⟩ := HJx.out.row e
        rw [hr] at hr2
        injection hr2 with hr2
        injection hr2 with _ hr2
        exact ht hr2
    have hS : ∀ k, (k = w0.heap.size ∨ (Value.slice av L2.length cv).ownBlock = some k) → k ≠ w'.heap.size ∧ k ≠ w'.heap.size + 1 := by
      have hl := HLt1.out
      rintro k (e | e)
      · omega
      · exact H4.out k e
    have hk1 := (ho.block w'.heap.size (Array.getElem?_eq_some_iff.1 HDd.out.1).1 (fun q => (hS _ q).1 rfl)).trans HDd.out.1
    have hk2 := (ho.block (w'.heap.size + 1) (Array.getElem?_eq_some_iff.1 HDd.out.2).1 (fun q => (hS _ q).2 rfl)).trans HDd.out.2
    refine ⟨⟨_, (by first | (rw [HTk.out]; exact hp) | (have h := hp; rw [← HTk.out] at h; simpa only [List.nil_append] using h)), ⟨(ho.block _ (Array.getElem?_eq_some_iff.1 hx0).1 (hne _ _ _ (by decide) hx0 (by have := HLt1.out; omega))).trans hx0, (ho.block _ (Array.getElem?_eq_some_iff.1 hx1).1 (hne _ _ _ (by decide) hx1 (by have := HLt1.out; omega))).trans hx1⟩, fun g hg => ?_⟩, ho.mono hS⟩
    obtain ⟨cur, fr, hr2⟩ := hp.row hg
    refine ⟨fun e => ?_, fun e => ?_⟩
    · rw [e, hk1] at hr2; cases hr2
    · rw [e, hk2] at hr2; cases hr2
  case done1 =>
    rintro Wa ⟨va, hja, _, _⟩ hda
    rw [List.take_of_length_le (Nat.le_refl _), List.nil_append] at hja
    have hja := hja.mark (d := w'.heap.size) (by have := HLt1.out; omega) hda
    obtain ⟨wB, hwB⟩ : ∃ wB, Wa.alloc (.cells #[.slice none 0 0] 32) = wB := ⟨_, rfl⟩
    obtain ⟨bbB, hrB, hsB⟩ := laid1 hwB
    have HJa := hid0 (hja.past bbB)
    have HJA := hid0 hja
    have HRb := hid0 hrB
    have HLt2 : Hid (w.heap.size ≤ w0.heap.size ∧ w0.heap.size < Wa.heap.size ∧ wB.heap.size = Wa.heap.size + 1) := hid0 ⟨HLt1.out.1, hja.lt, hsB⟩
    have HDs2 : Hid (∀ d ∈ [w'.heap.size], d < wB.heap.size) := hid0 (fun d hd => by
      have := (Array.getElem?_eq_some_iff.1 (HJa.out.ds d hd).2).1
      exact this)
    clear hja hda bbB hrB hsB HJ0 HR2 HDs1
    gi_wp2_with (first
      | (refine ⟨trivial, ?_⟩; gi_at_call 25; refine (cutsOf_in _ _ _ _ _).mono ?_; rintro e wb ⟨rfl, hwb⟩; rw [hwB] at hwb; subst hwb)
      | fail)
    clear hwB
    refine wpIn_rangeCut' 9 8 (by omega) Wa.heap.size (cutX Le Le.length) _ (cutsOf1_in 7 (by omega) Wa.heap.size none Le 0 (by rw [HLe.out]; simp) (by rw [HLe.out]; simp)) rfl (fun k W => ∃ v : Value, PJ w W w0.heap.size v ((ruX 0 n) ++ (cutX Le Le.length).take k) [w'.heap.size] ∧ (W.heap[Wa.heap.size]? = some (.cells #[.slice none 0 0] 32 (0, 0))) ∧ (∀ g, v.ownBlock = some g → g ≠ wb.heap.size ∧ g ≠ wb.heap.size + 1)) ?keep2 ?inv2 ?start2 ?assign2 ?body2 ?done2
    case keep2 =>
      rintro k A B ⟨v, h1, hx0, h4⟩ ho
      have hl := HLt2.out
      exact ⟨v, h1.only ho (fun k hk => by omega) (by omega) (fun g hg q => by have := h4 g hg; omega) (fun d hd q => by have := HDs2.out d hd; omega), (ho.block _ (Array.getElem?_eq_some_iff.1 hx0).1 (by have := HLt2.out; omega)).trans hx0, h4⟩
    case inv2 =>
      rintro k A ⟨v, h1, hx0, _⟩
      exact ⟨by rw [cell_of_row _ _ _ _ _ _ hx0, HLe.out]; rfl, by rw [HLe.out]; exact ⟨fun k hk => absurd hk (Nat.not_lt_zero _)⟩⟩
    case start2 => exact ⟨va, by rw [List.take_zero, List.append_nil]; exact HJa.out, HRb.out, fun g hg => by have := (World.ownsRow.lt HJA.out.own g hg).2; have := HLt2.out; omega⟩
    case assign2 =>
      intro l x W K hK
      simp only [actB, val3, List.setIfInBounds_toArray, List.set_cons_succ, List.set_cons_zero] at hK ⊢
      gi_wp2
      exact hK
    case body2 =>
      rintro l k hk Bx W ⟨v, h1, hx0, h4⟩ hBx ⟨hd1, rc, hd2⟩
      simp only [actB, val3, List.setIfInBounds_toArray, List.set_cons_succ, List.set_cons_zero]
      have HTk : Hid ((ruX 0 n) ++ (cutX Le Le.length).take (k + 1) = ((ruX 0 n) ++ (cutX Le Le.length).take k) ++ [(cutX Le Le.length)[k]]) := hid0 (by rw [List.take_add_one, List.getElem?_eq_getElem hk]; exact (List.append_assoc _ _ _).symm)
      have hbnd : ((ruX 0 n) ++ (cutX Le Le.length).take k).length ≤ 2000000000000 := by
        have := HBnd.out
        rw [List.length_append, List.length_take]
        rw [ruX_len]; omega
      generalize (ruX 0 n) ++ (cutX Le Le.length).take k = L2 at *
      generalize (cutX Le Le.length)[k] = x at *
      obtain ⟨av, cv, hvf⟩ := h1.own.form
      subst hvf
      have c5 : W.cell? ⟨w0.heap.size, 0, none⟩ = some (.slice av L2.length cv) := by rw [cell_of_row _ _ _ _ _ _ h1.box]; rfl
      have x0 : W.cell? ⟨Bx, 0, none⟩ = some (.int .i64 x.1) := by rw [cell_of_row _ _ _ _ _ _ hBx]; rfl
      have x1 : W.cell? ⟨Bx, 1, none⟩ = some (.int .i64 x.2.1) := by rw [cell_of_row _ _ _ _ _ _ hBx]; rfl
      have x2 : W.cell? ⟨Bx, 2, none⟩ = some (.int .i64 x.2.2) := by rw [cell_of_row _ _ _ _ _ _ hBx]; rfl
      have HOk : Hid (W.ownsRow w.heap.size 54 3 (.slice av L2.length cv) L2.length (cells3 L2)) := hid0 h1.own
      have HWs : Hid (w.heap.size ≤ W.heap.size) := hid0 h1.bel.size
      have HJx := hid0 h1
      have H4 := hid0 h4
      have HBs : Hid (W.heap[Wa.heap.size]? = some (.cells #[.slice none 0 0] 32 (0, 0))) := hid0 hx0
      have HDd := hid0 (And.intro hd1 hd2)
      clear h1 h4 hBx hd1 hd2 hx0
      gi_wp2_with (gi_at_builtin; go_loud ((refine wpListIn_append_own_at _ rfl _ _ 52 rfl w.heap.size 54 i0 (.agg #[.int .i64 0, .int .i64 0, .int .i64 0]) 3 24 Try.underlying52 hi hz0 hz1 hz2 rfl (by decide) (.slice av L2.length cv) L2.length (cells3 L2) rfl (World.ownsRow.alloc HOk.out _) ⟨W.heap.size, 0, none⟩ 1 1 (c3 x) rfl rfl (cellC3_new W x _) (c3_one x) (by unfold maxLen; omega) (by omega) (by have := HWs.out; simp; omega) ?_; intro v4' w4 hown4 hgrow4 _ hat4; have hst := PJ.step HJx.out hgrow4 hat4 hown4; have c4 : w4.cell? ⟨w0.heap.size, 0, none⟩ = some (.slice av L2.length cv) := (by rw [cell_of_row _ _ _ _ _ _ hst.2.2]; rfl); have f4 : w4.frozen? ⟨w0.heap.size, 0, none⟩ = false := (by simp [World.frozen?, hst.2.2]); have HST := hid0 hst; obtain ⟨g4, cp4, rfl⟩ := Go.Joins.ownsRow_form hown4 (by omega); clear hown4 hgrow4 hat4 hst)))
      obtain ⟨hp, ho, _⟩ := HST.out
      have hBs := HBs.out
      have hx0 := hBs
      have hne : ∀ (b : Nat) (cs : Array Value) (t : TypeId), t ≠ 54 → W.heap[b]? = some (.cells cs t (0, 0)) → b ≠ w0.heap.size → ¬ (b = w0.heap.size ∨ (Value.slice av L2.length cv).ownBlock = some b) := fun b cs t ht hr hb => by
        rintro (e | e)
        · exact hb e
        · obtain ⟨cur, fr, hr2⟩ := HJx.out.row e
          rw [hr] at hr2
          injection hr2 with hr2
          injection hr2 with _ hr2
          exact ht hr2
      have hS : ∀ k, (k = w0.heap.size ∨ (Value.slice av L2.length cv).ownBlock = some k) → k ≠ wb.heap.size ∧ k ≠ wb.heap.size + 1 := by
        have hl := HLt2.out
        rintro k (e | e)
        · omega
        · exact H4.out k e
      have hk1 := (ho.block wb.heap.size (Array.getElem?_eq_some_iff.1 HDd.out.1).1 (fun q => (hS _ q).1 rfl)).trans HDd.out.1
      have hk2 := (ho.block (wb.heap.size + 1) (Array.getElem?_eq_some_iff.1 HDd.out.2).1 (fun q => (hS _ q).2 rfl)).trans HDd.out.2
      refine ⟨⟨_, (by first | (rw [HTk.out]; exact hp) | (have h := hp; rw [← HTk.out] at h; simpa only [List.nil_append] using h)), (ho.block _ (Array.getElem?_eq_some_iff.1 hx0).1 (hne _ _ _ (by decide) hx0 (by have := HLt2.out; omega))).trans hx0, fun g hg => ?_⟩, ho.mono hS⟩
      obtain ⟨cur, fr, hr2⟩ := hp.row hg
      refine ⟨fun e => ?_, fun e => ?_⟩
      · rw [e, hk1] at hr2; cases hr2
      · rw [e, hk2] at hr2; cases hr2
    case done2 =>
      rintro Wc ⟨vc, hjc, _, _⟩ hdc
      rw [List.take_of_length_le (Nat.le_refl _)] at hjc
      generalize hLQ : (ruX 0 n) ++ (cutX Le Le.length) = LQ at hjc
      have HLQ := hid0 hLQ
      clear hLQ
      have hjc := hjc.mark (d := wb.heap.size) (by have := HLt2.out; omega) hdc
      obtain ⟨wD, hwD⟩ : ∃ wD, (Wc.alloc (.cells #[.int .i64 (n : Int)] 3)).alloc (.cells #[.int .i64 (n : Int)] 3) = wD := ⟨_, rfl⟩
      obtain ⟨bbD, hrD, hrE, hsD⟩ := laid2 hwD
      have HJc := hid0 (hjc.past bbD)
      have HJC := hid0 hjc
      have HRd := hid0 (And.intro hrD hrE)
      have HNb : Hid (n + d = n) := hid0 (by have := HD0.out; omega)
      have HNd : Hid (wb.heap.size ≠ w'.heap.size) := hid0 (by have := HDs2.out _ (.head _); omega)
      have HLt3 : Hid (w.heap.size ≤ w0.heap.size ∧ w0.heap.size < Wc.heap.size ∧ wD.heap.size = Wc.heap.size + 2) := hid0 ⟨HLt1.out.1, hjc.lt, hsD⟩
      have HDs3 : Hid (∀ d ∈ [wb.heap.size, w'.heap.size], d < wD.heap.size) := hid0 (fun d hd => by
        have := (Array.getElem?_eq_some_iff.1 (HJc.out.ds d hd).2).1
        exact this)
      clear hjc hdc bbD hrD hrE hsD HJa HJA HRb HDs2
      gi_wp2_with (first
        | (refine ⟨trivial, ?_⟩; gi_at_call 24; refine (rulesFrom_in _ _ _ _).mono ?_; rintro e wd ⟨rfl, hwd⟩; rw [hwD] at hwd; subst hwd)
        | fail)
      clear hwD
      refine wpIn_rangeRu' 10 8 (by omega) Wc.heap.size (Wc.heap.size + 1) (ruX n d) _ (rulesFrom1_in 7 (by omega) Wc.heap.size (Wc.heap.size + 1) n d (by have := HD0.out; omega)) rfl (fun k W => ∃ v : Value, PJ w W w0.heap.size v (LQ ++ (ruX n d).take k) [wb.heap.size, w'.heap.size] ∧ (W.heap[Wc.heap.size]? = some (.cells #[.int .i64 (n : Int)] 3 (0, 0)) ∧ W.heap[(Wc.heap.size + 1)]? = some (.cells #[.int .i64 (n : Int)] 3 (0, 0))) ∧ (∀ g, v.ownBlock = some g → g ≠ wd.heap.size ∧ g ≠ wd.heap.size + 1)) ?keep3 ?inv3 ?start3 ?assign3 ?body3 ?done3
      case keep3 =>
        rintro k A B ⟨v, h1, ⟨hx0, hx1⟩, h4⟩ ho
        have hl := HLt3.out
        exact ⟨v, h1.only ho (fun k hk => by omega) (by omega) (fun g hg q => by have := h4 g hg; omega) (fun d hd q => by have := HDs3.out d hd; omega), ⟨(ho.block _ (Array.getElem?_eq_some_iff.1 hx0).1 (by have := HLt3.out; omega)).trans hx0, (ho.block _ (Array.getElem?_eq_some_iff.1 hx1).1 (by have := HLt3.out; omega)).trans hx1⟩, h4⟩
      case inv3 =>
        rintro k A ⟨v, h1, ⟨hx0, hx1⟩, _⟩
        exact ⟨by rw [cell_of_row _ _ _ _ _ _ hx0]; rfl, by rw [cell_of_row _ _ _ _ _ _ hx1, HNb.out]; rfl⟩
      case start3 => exact ⟨vc, by rw [List.take_zero, List.append_nil]; exact HJc.out, HRd.out, fun g hg => by have := (World.ownsRow.lt HJC.out.own g hg).2; have := HLt3.out; omega⟩
      case assign3 =>
        intro l x W K hK
        simp only [actB, val3, List.setIfInBounds_toArray, List.set_cons_succ, List.set_cons_zero] at hK ⊢
        gi_wp2
        exact hK
      case body3 =>
        rintro l k hk Bx W ⟨v, h1, ⟨hx0, hx1⟩, h4⟩ hBx ⟨hd1, rc, hd2⟩
        simp only [actB, val3, List.setIfInBounds_toArray, List.set_cons_succ, List.set_cons_zero]
        have HTk : Hid (LQ ++ (ruX n d).take (k + 1) = (LQ ++ (ruX n d).take k) ++ [(ruX n d)[k]]) := hid0 (by rw [List.take_add_one, List.getElem?_eq_getElem hk]; exact (List.append_assoc _ _ _).symm)
        have hbnd : (LQ ++ (ruX n d).take k).length ≤ 2000000000000 := by
          have := HBnd.out
          rw [List.length_append, List.length_take]
          rw [← HLQ.out, List.length_append, ruX_len, ruX_len]; omega
        generalize LQ ++ (ruX n d).take k = L2 at *
        generalize (ruX n d)[k] = x at *
        obtain ⟨av, cv, hvf⟩ := h1.own.form
        subst hvf
        have c5 : W.cell? ⟨w0.heap.size, 0, none⟩ = some (.slice av L2.length cv) := by rw [cell_of_row _ _ _ _ _ _ h1.box]; rfl
        have x0 : W.cell? ⟨Bx, 0, none⟩ = some (.int .i64 x.1) := by rw [cell_of_row _ _ _ _ _ _ hBx]; rfl
        have x1 : W.cell? ⟨Bx, 1, none⟩ = some (.int .i64 x.2.1) := by rw [cell_of_row _ _ _ _ _ _ hBx]; rfl
        have x2 : W.cell? ⟨Bx, 2, none⟩ = some (.int .i64 x.2.2) := by rw [cell_of_row _ _ _ _ _ _ hBx]; rfl
        have HOk : Hid (W.ownsRow w.heap.size 54 3 (.slice av L2.length cv) L2.length (cells3 L2)) := hid0 h1.own
        have HWs : Hid (w.heap.size ≤ W.heap.size) := hid0 h1.bel.size
        have HJx := hid0 h1
        have H4 := hid0 h4
        have HBs : Hid (W.heap[Wc.heap.size]? = some (.cells #[.int .i64 (n : Int)] 3 (0, 0)) ∧ W.heap[(Wc.heap.size + 1)]? = some (.cells #[.int .i64 (n : Int)] 3 (0, 0))) := hid0 ⟨hx0, hx1⟩
        have HDd := hid0 (And.intro hd1 hd2)
        clear h1 h4 hBx hd1 hd2 hx0 hx1
        gi_wp2_with (gi_at_builtin; go_loud ((refine wpListIn_append_own_at _ rfl _ _ 52 rfl w.heap.size 54 i0 (.agg #[.int .i64 0, .int .i64 0, .int .i64 0]) 3 24 Try.underlying52 hi hz0 hz1 hz2 rfl (by decide) (.slice av L2.length cv) L2.length (cells3 L2) rfl (World.ownsRow.alloc HOk.out _) ⟨W.heap.size, 0, none⟩ 1 1 (c3 x) rfl rfl (cellC3_new W x _) (c3_one x) (by unfold maxLen; omega) (by omega) (by have := HWs.out; simp; omega) ?_; intro v4' w4 hown4 hgrow4 _ hat4; have hst := PJ.step HJx.out hgrow4 hat4 hown4; have c4 : w4.cell? ⟨w0.heap.size, 0, none⟩ = some (.slice av L2.length cv) := (by rw [cell_of_row _ _ _ _ _ _ hst.2.2]; rfl); have f4 : w4.frozen? ⟨w0.heap.size, 0, none⟩ = false := (by simp [World.frozen?, hst.2.2]); have HST := hid0 hst; obtain ⟨g4, cp4, rfl⟩ := Go.Joins.ownsRow_form hown4 (by omega); clear hown4 hgrow4 hat4 hst)))
        obtain ⟨hp, ho, _⟩ := HST.out
        have hBs := HBs.out
        obtain ⟨hx0, hx1⟩ := hBs
        have hne : ∀ (b : Nat) (cs : Array Value) (t : TypeId), t ≠ 54 → W.heap[b]? = some (.cells cs t (0, 0)) → b ≠ w0.heap.size → ¬ (b = w0.heap.size ∨ (Value.slice av L2.length cv).ownBlock = some b) := fun b cs t ht hr hb => by
          rintro (e | e)
          · exact hb e
          · obtain ⟨cur, fr, hr2⟩ := HJx.out.row e
            rw [hr] at hr2
            injection hr2 with hr2
            injection hr2 with _ hr2
            exact ht hr2
        have hS : ∀ k, (k = w0.heap.size ∨ (Value.slice av L2.length cv).ownBlock = some k) → k ≠ wd.heap.size ∧ k ≠ wd.heap.size + 1 := by
          have hl := HLt3.out
          rintro k (e | e)
          · omega
          · exact H4.out k e
        have hk1 := (ho.block wd.heap.size (Array.getElem?_eq_some_iff.1 HDd.out.1).1 (fun q => (hS _ q).1 rfl)).trans HDd.out.1
        have hk2 := (ho.block (wd.heap.size + 1) (Array.getElem?_eq_some_iff.1 HDd.out.2).1 (fun q => (hS _ q).2 rfl)).trans HDd.out.2
        refine ⟨⟨_, (by first | (rw [HTk.out]; exact hp) | (have h := hp; rw [← HTk.out] at h; simpa only [List.nil_append] using h)), ⟨(ho.block _ (Array.getElem?_eq_some_iff.1 hx0).1 (hne _ _ _ (by decide) hx0 (by have := HLt3.out; omega))).trans hx0, (ho.block _ (Array.getElem?_eq_some_iff.1 hx1).1 (hne _ _ _ (by decide) hx1 (by have := HLt3.out; omega))).trans hx1⟩, fun g hg => ?_⟩, ho.mono hS⟩
        obtain ⟨cur, fr, hr2⟩ := hp.row hg
        refine ⟨fun e => ?_, fun e => ?_⟩
        · rw [e, hk1] at hr2; cases hr2
        · rw [e, hk2] at hr2; cases hr2
      case done3 =>
        rintro We ⟨ve, hje, _, _⟩ hde
        rw [List.take_of_length_le (Nat.le_refl _)] at hje
        have hje := hje.mark (d := wd.heap.size) (by have := HLt3.out; omega) hde
        have HJe := hid0 hje
        obtain ⟨av, cv, hvf⟩ := hje.own.form
        subst hvf
        have c5 : We.cell? ⟨w0.heap.size, 0, none⟩ = some (.slice av (LQ ++ (ruX n d)).length cv) := by rw [cell_of_row _ _ _ _ _ _ hje.box]; rfl
        have HNd3 : Hid ([wd.heap.size, wb.heap.size, w'.heap.size].Nodup) := hid0 (by
          have h1 := HDs3.out _ (.head _)
          have h2 := HDs3.out _ (.tail _ (.head _))
          have h3 := HNd.out
          simp only [List.nodup_cons, List.mem_cons, List.not_mem_nil, or_false, not_false_eq_true, List.nodup_nil, and_true]
          omega)
        clear hje hde HJc HJC HRd HDs3
        have HLL : Hid ((ruX 0 n) ++ (cutX Le Le.length) ++ (ruX n d) = LQ ++ (ruX n d)) := hid0 (by rw [← HLQ.out])
        generalize LQ ++ (ruX n d) = LL at *
        gi_wp2
        refine leaves_marks w.heap.size [wd.heap.size, wb.heap.size, w'.heap.size] We HJe.out.ds HNd3.out (fun W hW => ?_)
        refine ⟨_, results_tmp rfl _ _ _, ?_⟩
        have hj := HJe.out.less.only hW (fun d hd => (HJe.out.ds d hd).1) (fun hd => (HJe.out.offD hd).2 rfl) (fun g hg hd => (HJe.out.offD hd).1 hg) (fun _ hd => nomatch hd)
        rw [HLL.out]
        exact ⟨.slice av LL.length cv, rfl, hj.own, hj.bel⟩
end Go.Proofs.Ythcpalpcakjfnaa
