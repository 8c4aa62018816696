/-
  MbQM, MbQW, MbRW, MiStM, MbSW, MbTM.
-/
import Derived.Test.YtbbejfkgopcjoaaDoorNeal
import Derived.Laws.BitsAllLaws
import Derived.Laws.CopyOwn
import Derived.Lib.SliceRun
import Derived.Test.YtbbejfkgopcjoaaDoorNeab
import Derived.Maps.AppendAt
namespace Go.Proofs.YtbbejfkgopcjoaaDoor
open Go.RowKit Go.Shelf
/-- A set without the places of another's first k words. -/
def anF (h op : Nat → Bool) (k : Nat) : Nat → Bool := fun q => h q && !(decide (q / 64 < k) && op q)
theorem anF_zero (h op : Nat → Bool) : anF h op 0 = h := by funext q; simp [anF]
theorem word_andn (h op : Nat → Bool) (k : Nat) : wordOf (anF h op k) k &&& (18446744073709551615 - wordOf op k) = wordOf (anF h op (k + 1)) k := by
  apply Nat.eq_of_testBit_eq
  intro i
  have e : 18446744073709551615 - wordOf op k = 2 ^ 64 - (wordOf op k + 1) := by omega
  rw [e, Nat.testBit_and, Nat.testBit_two_pow_sub_succ (wordOf_lt op k), wordOf_bit, wordOf_bit, wordOf_bit]
  by_cases hi : i < 64
  · have e1 : (64 * k + i) / 64 = k := by omega
    have e2 : k < k + 1 := by omega
    simp [hi, anF, e1, e2]
  · simp [hi]
theorem word_andn_other (h op : Nat → Bool) (k i : Nat) (hi : i ≠ k) : wordOf (anF h op (k + 1)) i = wordOf (anF h op k) i := by
  apply Nat.eq_of_testBit_eq
  intro j
  rw [wordOf_bit, wordOf_bit]
  by_cases hj : j < 64
  · have e1 : (64 * i + j) / 64 = i := by omega
    have e2 : (i < k + 1) = (i < k) := by simp; omega
    simp [hj, anF, e1, e2]
  · simp [hj]
theorem OwnU.put {W : World} {base g n c a : Nat} {h h' : Nat → Bool} (ho : OwnU W base (.slice (some ⟨g, 0, none⟩) n c) n h) (ha : a < n) (hh : ∀ i, i ≠ a → wordOf h' i = wordOf h i) : OwnU (W.setCell ⟨g, a, none⟩ (.int .u64 (wordOf h' a : Int))) base (.slice (some ⟨g, 0, none⟩) n c) n h' := by
  have h1 := (World.ownsRow.stored ho a (.int .u64 (wordOf h' a : Int))).1
  have e : (wdV h n).set a (.int .u64 (wordOf h' a : Int)) = wdV h' n := by
    apply List.ext_getElem?
    intro i
    by_cases hi : i < n
    · by_cases hia : a = i
      · subst hia
        rw [List.getElem?_set_self (by rw [wdV_len]; exact ha), wdV_at _ ha]
      · rw [List.getElem?_set_ne hia, wdV_at _ hi, wdV_at _ hi, hh i (fun e => hia e.symm)]
    · rw [List.getElem?_eq_none (by rw [List.length_set, wdV_len]; omega), List.getElem?_eq_none (by rw [wdV_len]; omega)]
  unfold OwnU
  rw [← e]
  exact h1
theorem wordOf_none (i : Nat) : wordOf (fun _ => false) i = 0 := by
  apply Nat.eq_of_testBit_eq
  intro j
  rw [wordOf_bit]
  simp
theorem wdV_none (n : Nat) : wdV (fun _ => false) n = List.replicate n (.int .u64 0) := by
  apply List.ext_getElem?
  intro i
  by_cases hi : i < n
  · rw [wdV_at _ hi, List.getElem?_replicate, if_pos hi, wordOf_none]; rfl
  · rw [List.getElem?_eq_none (by rw [wdV_len]; omega), List.getElem?_eq_none (by rw [List.length_replicate]; omega)]
theorem Only.setRow (w : World) (g : Nat) (cs : Array Value) : Only w (w.setRow g cs) (fun k => k = g) := ⟨rfl, rfl, rfl, by simp [World.setRow], fun k _ h => by
  simp only [World.setRow, Array.getElem?_modify]
  rw [if_neg (fun e => h e.symm)]⟩
theorem infoU64s : (Tryd.prog.info? 105).map (·.size) = some 1 := by kernel_rfl
set_option maxRecDepth 10000 in
theorem copy_own {W : World} {lo lo' G N c : Nat} {h k : Nat → Bool} {aC : Option Addr} {cC : Nat} (ho : OwnU W lo (.slice (some ⟨G, 0, none⟩) N c) N h) (hc : OwnU W lo' (.slice aC N cC) N k) :
    ∃ W', (∀ ty, (Builtin.copy_ #[83, 83] ty #[.slice (some ⟨G, 0, none⟩) N c, .slice aC N cC]).run Tryd.prog W = .ok (.int .i64 (N : Int)) W') ∧ OwnU W' lo (.slice (some ⟨G, 0, none⟩) N c) N k ∧ Only W W' (fun i => i = G) := by
  by_cases h0 : N = 0
  · subst h0
    refine ⟨W, fun ty => ?_, ⟨by simp [wdV_len], ?_⟩, Only.refl _ _⟩
    · exact run_copy_none (P := Tryd.prog) W 83 83 ty 105 _ _ 0 c 0 cC Tryd.underlying83 infoU64s (by simp)
    · rcases ho.2 with ⟨e, _⟩ | ⟨g, cap, cur, e, h1, h2, h3, h4, h5, h6⟩
      · cases e
      · exact .inr ⟨g, cap, cur, e, h1, h2, h3, h4, h5, by simp [wdV]⟩
  · obtain ⟨g', c', e', _, _, _⟩ := OwnU.at' hc (i := 0) (by omega)
    have e2 : aC = some ⟨g', 0, none⟩ := by injection e'
    subst e2
    rcases ho.2 with ⟨e, _⟩ | ⟨g, cap, cur, e, h1, h2, h3, h4, h5, h6⟩
    · cases e
    · simp only [Value.slice.injEq, Option.some.injEq, Addr.mk.injEq, and_true, true_and] at e
      obtain ⟨rfl, rfl⟩ := e
      refine ⟨_, fun ty => (run_copy_row (P := Tryd.prog) W 83 83 ty 105 G 0 N c ⟨g', 0, none⟩ N cC cur 105 (wdV k N) Tryd.underlying83 infoU64s h2 (by simp [wdV_len]) (fun j v hj => ?_) (by rw [wdV_len]; omega) (fun v hv => ?_)).trans (by rw [wdV_len]; rfl), ⟨by simp [wdV_len], .inr ⟨G, c, _, rfl, h1, setRow_heap W G _ _ _ _ h2, h3, h4, ?_, ?_⟩⟩, Only.setRow _ _ _⟩
      · have hj2 : j < N := by have := (List.getElem?_eq_some_iff.1 hj).1; rw [wdV_len] at this; exact this
        obtain ⟨g2, c2, e2, _, _, h8, _⟩ := OwnU.at' hc hj2
        have e3 : g' = g2 := by simp only [Value.slice.injEq, Option.some.injEq, Addr.mk.injEq, and_true] at e2; exact e2.1
        subst e3
        rw [Addr.add_lit, Nat.zero_add, h8, ← hj, wdV_at k hj2]
      · unfold wdV at hv
        obtain ⟨i, _, rfl⟩ := List.mem_map.1 hv
        rfl
      · simp [wdV_len]; omega
      · simp only [List.take_zero, List.nil_append, Nat.mul_one]
        rw [List.take_append_of_le_length (by rw [wdV_len]; omega), List.take_of_length_le (by rw [wdV_len]; omega)]
theorem own_cells {lo G n c : Nat} {t : TypeId} : ∀ (vs : List Value) (o : Nat) (W : World) (xs : List Value), W.ownsRow lo t 1 (.slice (some ⟨G, 0, none⟩) n c) n xs → o + vs.length ≤ n → (W.setCells G o vs).ownsRow lo t 1 (.slice (some ⟨G, 0, none⟩) n c) n (xs.take o ++ vs ++ xs.drop (o + vs.length)) ∧ Only W (W.setCells G o vs) (fun k => k = G)
  | [], o, W, xs, h, _ => ⟨by simpa [World.setCells] using h, Only.refl _ _⟩
  | v :: vs, o, W, xs, h, hl => by
    have hx : xs.length = n := by have := h.1; omega
    rw [List.length_cons] at hl
    obtain ⟨h1, h2⟩ := own_cells vs (o + 1) _ _ (World.ownsRow.stored h o v).1 (by omega)
    refine ⟨?_, (Only.setCell W G o v).trans h2 (fun _ h => .inl h)⟩
    have e : (xs.set o v).take (o + 1) ++ vs ++ (xs.set o v).drop (o + 1 + vs.length) = xs.take o ++ v :: vs ++ xs.drop (o + (v :: vs).length) := by
      rw [List.take_set, List.drop_set_of_lt (by omega), List.take_add_one, List.getElem?_eq_getElem (by omega), List.length_cons, show o + 1 + vs.length = o + (vs.length + 1) by omega]
      rw [Option.toList_some, List.set_append_right _ _ (by rw [List.length_take]; omega)]
      rw [show o - (xs.take o).length = 0 by rw [List.length_take]; omega]
      simp
    rw [← e]
    exact h1
set_option maxRecDepth 10000 in
theorem clear_own {W : World} {lo G N c : Nat} {h : Nat → Bool} (ho : OwnU W lo (.slice (some ⟨G, 0, none⟩) N c) N h) :
    ∃ W', (∀ ty, (Builtin.clear_ #[83] ty #[.slice (some ⟨G, 0, none⟩) N c]).run Tryd.prog W = .ok (.tuple #[]) W') ∧ OwnU W' lo (.slice (some ⟨G, 0, none⟩) N c) N (fun _ => false) ∧ Only W W' (fun i => i = G) := by
  by_cases h0 : N = 0
  · subst h0
    refine ⟨W, fun ty => ?_, ⟨by simp [wdV_len], ?_⟩, Only.refl _ _⟩
    · simp [Builtin.clear_, run_underlying Tryd.underlying83]
    · rcases ho.2 with ⟨e, _⟩ | ⟨g, cap, cur, e, h1, h2, h3, h4, h5, h6⟩
      · cases e
      · exact .inr ⟨g, cap, cur, e, h1, h2, h3, h4, h5, by simp [wdV]⟩
  · obtain ⟨h1, h2⟩ := own_cells (List.replicate N (.int .u64 0)) 0 W _ ho (by simp)
    refine ⟨_, fun ty => Lib.run_clear_slice W 83 105 ty (.int .u64 0) Tryd.underlying83 (fun w => by rfl) rfl rfl G 0 N c (by omega) (fun j hj => ?_) (fun j hj => ?_), ?_, h2⟩
    · obtain ⟨g, c', e, _, _, h8, _⟩ := OwnU.at' ho hj
      cases e
      rw [Nat.zero_add, h8]
      rfl
    · obtain ⟨g, c', e, _, _, _, h9⟩ := OwnU.at' ho hj
      cases e
      rw [Nat.zero_add]
      exact h9
    · unfold OwnU
      rw [wdV_none]
      have e : List.drop N (wdV h N) = [] := List.drop_eq_nil_of_le (by rw [wdV_len]; omega)
      simpa [e] using h1
end Go.Proofs.YtbbejfkgopcjoaaDoor
namespace Go.Proofs.YtbbejfkgopcjoaaDoor
open Go.RowKit Go.Shelf
set_option maxRecDepth 10000 in
set_option maxHeartbeats 1600000 in
theorem reach0_any (B J G N cR lo lo' most outs sy cC : Nat) (h cl : Nat → Bool) (aC : Option Addr) (vOp vTe vNu vSt vNx vOu vO vF vE vL vM vZ vP vS vA : Value) (w : World) (hb : Bb w B J vOp (.slice (some ⟨G, 0, none⟩) N cR) vTe vNu vSt most outs vNx vOu) (hj : Jb w J sy vO vF vE vL vM vZ vP (.slice aC N cC) vS vA) (hR : OwnU w lo (.slice (some ⟨G, 0, none⟩) N cR) N h) (hC : OwnU w lo' (.slice aC N cC) N cl) :
    Calls Tryd.prog 55 #[.pointer (some ⟨B, 0, none⟩), .int .i64 0] w fun e w' => (∃ v, e = .returned v) ∧ OwnU w' lo (.slice (some ⟨G, 0, none⟩) N cR) N cl ∧ Only w w' (fun k => k = G) := by
  obtain ⟨W', hcp, h1, h2⟩ := copy_own (hR.kept (W' := w.drew) rfl) (hC.kept (W' := w.drew) rfl)
  have HF := hid0 (show OwnU W' lo (.slice (some ⟨G, 0, none⟩) N cR) N cl ∧ Only w W' (fun k => k = G) from ⟨h1, (Only.drewN w 1 _).trans h2 (fun _ h => .inl h)⟩)
  obtain ⟨b0, _, b2, _⟩ := hb.c
  obtain ⟨_, _, _, _, _, _, _, _, c8, _⟩ := hj.c
  clear hb hj hR hC h1 h2
  go_enter Tryd.func55, Tryd.ntmps55
  go_wp2
  go_region
  all_goals
    go_wp2
    refine bodyPost_ret (results_none rfl _ _ _) rfl ?_
    exact ⟨⟨_, rfl⟩, HF.out⟩
end Go.Proofs.YtbbejfkgopcjoaaDoor
namespace Go.Proofs.YtbbejfkgopcjoaaDoor
open Go.RowKit Go.Shelf
/-- What reachFrom asks of the world, whatever the set holds. -/
structure Rch (V : World) (B J G N cR sy most outs GS nS cS st GO nO cO o cE cP : Nat) (nE : Nat) (aE aP : Option Addr) (f fo op : Nat → Bool) (FO : List (List (Nat × Nat))) (vTe vNu vNx vOu vO vF vE vL vM vZ vC vS vA : Value) : Prop where
  b : Bb V B J (.slice (some ⟨GO, 0, none⟩) nO cO) (.slice (some ⟨G, 0, none⟩) N cR) vTe vNu (.slice (some ⟨GS, 0, none⟩) nS cS) most outs vNx vOu
  j : Jb V J sy vO vF vE vL vM vZ (.slice aP N cP) vC vS vA
  s : V.cell? ⟨GS, st, none⟩ = some (.string ⟨(leB o 4 ++ encW f N).toArray⟩)
  o2 : V.cell? ⟨GO, o * 2, none⟩ = some (.string ⟨(encW fo N).toArray⟩)
  o3 : V.cell? ⟨GO, o * 2 + 1, none⟩ = some (.slice aE nE cE)
  r : RwW V vF vE FO
  t : TabAt 11 Lib.deBruijn64tab V
  p : ∃ lo', OwnU V lo' (.slice aP N cP) N op
set_option maxRecDepth 10000 in
set_option maxHeartbeats 3200000 in
theorem reach_any (B J G N cR lo sy most outs GS nS cS st GO nO cO o cE cP : Nat) (nE : Nat) (aE aP : Option Addr) (h f fo op : Nat → Bool) (FO : List (List (Nat × Nat))) (vTe vNu vNx vOu vO vF vE vL vM vZ vC vS vA : Value) (w : World)
    (hall : ∀ V : World, Only w V (fun k => k = G) → Rch V B J G N cR sy most outs GS nS cS st GO nO cO o cE cP nE aE aP f fo op FO vTe vNu vNx vOu vO vF vE vL vM vZ vC vS vA) (hR : OwnU w lo (.slice (some ⟨G, 0, none⟩) N cR) N h)
    (hN : N ≤ 1000000) (hfo : ∀ r ∈ FO, ∀ x ∈ r, x.1 < N ∧ x.2 < 18446744073709551616) (hff : ∀ q, f q = true → q < FO.length) (hfg : ∀ q, fo q = true → q < FO.length) (hl1 : FO.flatten.length ≤ 1000000000) (hl2 : FO.length ≤ 1000000000) (hst : st < nS) (hst0 : 0 < st) (_hnS : nS ≤ 100000000) (ho : o < nO) (hnO : nO ≤ 100000000) :
    Calls Tryd.prog 55 #[.pointer (some ⟨B, 0, none⟩), .int .i64 (st : Int)] w fun e w' => (∃ v, e = .returned v) ∧ OwnU w' lo (.slice (some ⟨G, 0, none⟩) N cR) N (anF (accF (accF (fun _ => false) FO (plB fo (64 * N))) FO (plB f (64 * N))) op N) ∧ Only w w' (fun k => k = G) := by
  have HA := hid0 hall
  obtain ⟨H1, hH1⟩ : ∃ H1, H1 = accF (fun _ => false) FO (plB fo (64 * N)) := ⟨_, rfl⟩
  obtain ⟨H2, hH2⟩ : ∃ H2, H2 = accF H1 FO (plB f (64 * N)) := ⟨_, rfl⟩
  have HFo : Hid (∀ (V : World) (h' f' : Nat → Bool), Only w V (fun k => k = G) → OwnU V lo (.slice (some ⟨G, 0, none⟩) N cR) N h' → (∀ q, f' q = true → q < FO.length) → Calls Tryd.prog 74 #[.pointer (some ⟨J, 0, none⟩), .slice (some ⟨G, 0, none⟩) N cR, .string ⟨(encW f' N).toArray⟩] V fun e w' => (∃ v, e = .returned v) ∧ OwnU w' lo (.slice (some ⟨G, 0, none⟩) N cR) N (accF h' FO (plB f' (64 * N))) ∧ Only V w' (fun k => k = G)) := hid0 (fun V h' f' hV hU hf' => follows_any J G N cR lo f' h' FO vF vE V hN hU (fun X hX => by
      have q := HA.out X (hV.trans hX (fun _ h => .inl h))
      exact ⟨q.j.c.2.2.1, q.j.c.2.2.2.1, q.r, q.t⟩) hfo hf' hl1 hl2)
  have HG1 := hid0 hfg
  have HG2 := hid0 hff
  rw [← hH1, ← hH2]
  obtain ⟨w1, hcl, hu1, ho1⟩ := clear_own hR
  have HU1 := hid0 hu1
  have HO1 := hid0 ho1
  have q0 := hall w (Only.refl _ _)
  have q1 := hall w1 ho1
  have b2 := q0.b.c.2.2.1
  have b5 := q1.b.c.2.2.2.2.2.1
  have bs := q1.s
  have HRe := hid0 (read_any B GO nO cO o nE cE aE (encW fo N) (encW f N) w1 q1.b.c.2.1 q1.o2 q1.o3 ho hnO (by have := encW_len f N; omega))
  have HH := hid0 (show H1 = accF (fun _ => false) FO (plB fo (64 * N)) ∧ H2 = accF H1 FO (plB f (64 * N)) from ⟨hH1, hH2⟩)
  obtain ⟨tB, htB⟩ : ∃ tB : ByteArray, tB = ⟨(leB o 4 ++ encW f N).toArray⟩ := ⟨_, rfl⟩
  obtain ⟨rB, hrB⟩ : ∃ rB : ByteArray, rB = ⟨(encW f N).toArray⟩ := ⟨_, rfl⟩
  obtain ⟨pB, hpB⟩ : ∃ pB : ByteArray, pB = ⟨(encW fo N).toArray⟩ := ⟨_, rfl⟩
  rw [← htB] at bs
  rw [← htB, ← hrB, ← hpB] at HRe
  have HrB := hid0 hrB
  have HpB := hid0 hpB
  have hstI : (st : Int) < (nS : Int) := by omega
  have hstI0 : (0 : Int) ≤ (st : Int) := by omega
  have hst1 : ((st : Int) == 0) = false := by rw [beq_eq_false_iff_ne]; omega
  clear hall hR hfo hff hfg hl1 hl2 hu1 ho1 q0 q1 hH1 hH2 htB hrB hpB hst hst0
  go_enter Tryd.func55, Tryd.ntmps55
  go_upto_region 4 with (go_at_call 73; go_loud ((refine HRe.out.mono ?_; rintro e w2 ⟨rfl, hb2⟩; have HB2 := hid0 hb2; clear hb2)))
  obtain ⟨w3, hw3⟩ : ∃ w3, w3 = w2.alloc (.cells #[.string pB, .slice aE nE cE] 103) := ⟨_, rfl⟩
  have hr3 : w3.heap[w2.heap.size]? = some (.cells #[.string pB, .slice aE nE cE] 103 (0, 0)) := by rw [hw3]; exact heap_alloc_new w2 _
  have hb3 : Below w1.heap.size w1 w3 := Below.later HB2.out (by rw [hw3]; exact (Below.refl _ _).alloc (Nat.le_refl _) _)
  have HO3 : Hid (Only w w3 (fun k => k = G)) := hid0 (HO1.out.trans (Only.ofNew hb3 (fun k => k = G)) (fun _ h => .inl h))
  have HU3 : Hid (OwnU w3 lo (.slice (some ⟨G, 0, none⟩) N cR) N (fun _ => false)) := hid0 (HU1.out.past hb3)
  have hGl : G < w2.heap.size := Nat.lt_of_lt_of_le (World.ownsRow.lt HU1.out G rfl).2 HB2.out.size
  have HX : Hid (∀ V : World, Only w3 V (fun k => k = G) → V.cell? ⟨B, 0, none⟩ = some (.pointer (some ⟨J, 0, none⟩)) ∧ V.cell? ⟨B, 2, none⟩ = some (.slice (some ⟨G, 0, none⟩) N cR) ∧ V.cell? ⟨w2.heap.size, 0, none⟩ = some (.string pB)) := hid0 (fun V hV => by
    have q := HA.out V (HO3.out.trans hV (fun _ h => .inl h))
    have hq : V.heap[w2.heap.size]? = _ := (hV.block _ (Array.getElem?_eq_some_iff.1 hr3).1 (by omega)).trans hr3
    exact ⟨q.b.c.1, q.b.c.2.2.1, by rw [cell_of_row _ _ _ _ _ _ hq]; rfl⟩)
  have HF4 : Hid (Calls Tryd.prog 74 #[.pointer (some ⟨J, 0, none⟩), .slice (some ⟨G, 0, none⟩) N cR, .string pB] w3.drew fun e w' => (∃ v, e = .returned v) ∧ Hid (OwnU w' lo (.slice (some ⟨G, 0, none⟩) N cR) N H1) ∧ Hid (Only w3 w' (fun k => k = G))) := hid0 (by
    rw [HpB.out, HH.out.1]
    exact (HFo.out w3.drew _ fo (HO3.out.trans (Only.drewN w3 1 _) (fun _ h => .inl h)) (HU3.out.kept rfl) HG1.out).mono (fun e w' ⟨h1, h2, h3⟩ => ⟨h1, hid0 h2, hid0 ((Only.drewN w3 1 _).trans h3 (fun _ h => .inl h))⟩))
  have HF5 : Hid (∀ V : World, Only w3 V (fun k => k = G) → OwnU V lo (.slice (some ⟨G, 0, none⟩) N cR) N H1 → Calls Tryd.prog 74 #[.pointer (some ⟨J, 0, none⟩), .slice (some ⟨G, 0, none⟩) N cR, .string rB] V.drew fun e w' => (∃ v, e = .returned v) ∧ Hid (OwnU w' lo (.slice (some ⟨G, 0, none⟩) N cR) N H2) ∧ Hid (Only w3 w' (fun k => k = G))) := hid0 (fun V hV hU => by
    rw [HrB.out, HH.out.2]
    exact (HFo.out V.drew _ f ((HO3.out.trans hV (fun _ h => .inl h)).trans (Only.drewN V 1 _) (fun _ h => .inl h)) (hU.kept rfl) HG2.out).mono (fun e w' ⟨h1, h2, h3⟩ => ⟨h1, hid0 h2, hid0 (hV.trans ((Only.drewN V 1 _).trans h3 (fun _ h => .inl h)) (fun _ h => .inl h))⟩))
  have q3 := hw3.symm
  obtain ⟨s0, s1, s2⟩ := HX.out w3 (Only.refl _ _)
  clear hw3 hr3 hb3 HU3 hGl HRe HU1 HO1 HG1 HG2 HFo HB2 b2 b5 bs hcl
  rw [q3]
  go_region_held3 (fun V => V.cell? ⟨B, 0, none⟩ = some (.pointer (some ⟨J, 0, none⟩)) ∧ V.cell? ⟨B, 2, none⟩ = some (.slice (some ⟨G, 0, none⟩) N cR) ∧ V.cell? ⟨w2.heap.size, 0, none⟩ = some (.string pB)) (first | exact HX.out _ (Only.refl _ _) | exact HX.out _ (Only.drewN _ 1 _) | assumption)
    (first
      | (go_at_call 74; refine HF4.out.mono ?_; rintro e w4 ⟨⟨v4, rfl⟩, H4, HO4⟩; have hs4 := HX.out _ HO4.out))
  clear s0 s1 s2 HF4 q3
  have HD4 := hid0 (HX.out _ (HO4.out.trans (Only.drewN w4 1 _) (fun _ h => .inl h)))
  have HC5 := hid0 (HF5.out w4 HO4.out H4.out)
  obtain ⟨s0, s1, s2⟩ := hs4
  go_wp2
  clear HF5 H4
  go_region_held3 (fun V => V.cell? ⟨B, 0, none⟩ = some (.pointer (some ⟨J, 0, none⟩)) ∧ V.cell? ⟨B, 2, none⟩ = some (.slice (some ⟨G, 0, none⟩) N cR) ∧ V.cell? ⟨w2.heap.size, 0, none⟩ = some (.string pB)) (first | exact HX.out _ HO4.out | exact HD4.out | assumption)
    (first
      | (go_at_call 74; refine HC5.out.mono ?_; rintro e w5 ⟨⟨v5, rfl⟩, H5, HO5⟩; have hs5 := HX.out _ HO5.out))
  have HO6 : Hid (Only w w5 (fun k => k = G)) := hid0 (HO3.out.trans HO5.out (fun _ h => .inl h))
  clear s0 s1 s2 HC5 HD4 HX HO3 HO4 HO5 hs5
  have q5 := HA.out w5 HO6.out
  have s0 := q5.b.c.1
  have s7 := q5.j.c.2.2.2.2.2.2.2.1
  have hNI : (N : Int) ≤ 1000000 := by omega
  clear q5
  go_wp2
  go_loopw [67] (fun i wr => ∃ k : Nat, k ≤ N ∧ i = .int .i64 (k : Int) ∧ Hid (OwnU wr lo (.slice (some ⟨G, 0, none⟩) N cR) N (anF H2 op k)) ∧ Hid (Only w wr (fun k => k = G))) (fun i _ => N - (intOf i).toNat)
  case atStart => exact ⟨0, Nat.zero_le _, rfl, hid0 (by rw [anF_zero]; exact H5.out), HO6⟩
  case round =>
    obtain ⟨k, hk, rfl, HK, HW⟩ := hrel
    have q := HA.out wr HW.out
    have b2 := q.b.c.2.2.1
    by_cases hkl : k < N
    · obtain ⟨lp, hp⟩ := q.p
      obtain ⟨gp, cp, ep, _, _, p0, _⟩ := hp.at' hkl
      have ep2 : aP = some ⟨gp, 0, none⟩ := by injection ep
      subst ep2
      obtain ⟨g', c', e', _, _, k0, k1⟩ := HK.out.at' hkl
      cases e'
      obtain ⟨x, hx⟩ : ∃ x : Nat, x = wordOf (anF H2 op k) k := ⟨_, rfl⟩
      obtain ⟨y, hy⟩ : ∃ y : Nat, y = wordOf op k := ⟨_, rfl⟩
      obtain ⟨z, hz⟩ : ∃ z : Nat, z = wordOf (anF H2 op (k + 1)) k := ⟨_, rfl⟩
      have hbits : bits .andNot .u64 (x : Int) (y : Int) = (z : Int) := by rw [hx, hy, hz, u64_andNot_nat _ _ (wordOf_lt _ _) (wordOf_lt _ _), word_andn]
      have hP := HK.out.put hkl (fun i hi => word_andn_other H2 op k i hi)
      rw [← hz] at hP
      have HN1 : Hid (OwnU (wr.setCell ⟨G, k, none⟩ (.int .u64 (z : Int))) lo (.slice (some ⟨G, 0, none⟩) N cR) N (anF H2 op (k + 1)) ∧ Only w (wr.setCell ⟨G, k, none⟩ (.int .u64 (z : Int))) (fun k => k = G)) := hid0 ⟨hP, HW.out.trans (Only.setCell wr G k _) (fun _ h => .inl h)⟩
      rw [← hx] at k0
      rw [← hy] at p0
      have hkI : (k : Int) < (N : Int) := by omega
      have hkI0 : (0 : Int) ≤ (k : Int) := by omega
      clear hP hx hy hz HK hp q ep
      go_wp2
      go_roundw
      case rel => exact ⟨k + 1, by omega, by go_num, hid0 HN1.out.1, hid0 HN1.out.2⟩
      case measure => simp [intOf]; omega
    · obtain rfl : k = N := by omega
      clear q
      go_wp2
      go_end0
      exact ⟨⟨_, rfl⟩, HK.out, HW.out⟩
end Go.Proofs.YtbbejfkgopcjoaaDoor
namespace Go.Proofs.YtbbejfkgopcjoaaDoor
open Go.RowKit
theorem step_append_own_at {P : Program} {ops : Array Oper} {o : Oper} {a : Act} {w : World} {K : Act → World → Prop} {Q : Exit → Act → World → Prop} {E : Prop} (hg : o.guard = none) (s x : Operand) (t : TypeId)
    (ho : o.op = .call { callee := .builtin .append, args := #[s, x], argTypes := #[t, t] })
    (base : Nat) (e : TypeId) (i : TypeInfo) (z : Value) (size bytes : Nat) (ht : P.underlying t = some (.slice e)) (hi : P.info? e = some i) (hz : i.zero = some z)
    (hsize : i.size = size) (hby : i.bytes = bytes) (hzs : z.cells.size = size) (hsz : 0 < size)
    (v : Value) (n : Nat) (xs : List Value) (hs : a.eval s = v) (hown : w.ownsRow base e size v n xs)
    (ad : Addr) (m c : Nat) (news : List Value) (hx : a.eval x = .slice (some ad) m c) (hl : news.length = m * size) (hnews : ∀ j u, news[j]? = some u → w.cell? (ad.add j) = some u) (h1 : ∀ u ∈ news, u.oneCell' = true)
    (h63 : n + m ≤ maxLen) (hbytes : (n + m) * bytes ≤ 140737488355328) (hbase : base ≤ w.heap.size)
    (h : ∀ v' w', w'.ownsRow base e size v' (n + m) (xs ++ news) → w.grownBy w' v.ownBlock → (v'.ownBlock = v.ownBlock ∨ v'.ownBlock = some w.heap.size) → K (a.put o.dst v') w') :
    if Region.wanted o (yielded ops a.tmps) = true then Oper.wp P o a w K Q else E := by
  have hw : Region.wanted o (yielded ops a.tmps) = true := by simp [Region.wanted, hg]
  rw [if_pos hw]
  obtain ⟨v', w', hr, h2, h3, _, h5⟩ := run_append_own_at (P := P) w base t o.type e i z size bytes ht hi hz hsize hby hzs hsz v n xs hown ad m c news hl hnews h1 h63 hbytes hbase
  unfold Oper.wp execOp
  simp only [ho, resolve, invoke, builtin, Sem.run_bind, Sem.run_pure, Result.andThen_ok, List.map_toArray, List.map_cons, List.map_nil, hs, hx, hr]
  exact h v' w' h2 h3 h5
end Go.Proofs.YtbbejfkgopcjoaaDoor
namespace Go.Proofs.YtbbejfkgopcjoaaDoor
open Go.RowKit Go.Shelf
theorem infoInt1 : (Tryd.prog.info? 3).map (fun i => (i.zero, i.size, i.bytes)) = some (some (.int .i64 0), 1, 8) := by kernel_rfl
theorem nI_len1 (L : List Nat) (n : Nat) : (nI L ++ nI [n]).length = L.length + 1 := by rw [List.length_append, nI_len, nI_len]; rfl
theorem Jb.setE {W : World} {J sy : Nat} {vO vF vE vL vM vZ vP vC vS vA : Value} (h : Jb W J sy vO vF vE vL vM vZ vP vC vS vA) (v : Value) : Jb (W.setCell ⟨J, 3, none⟩ v) J sy vO vF v vL vM vZ vP vC vS vA := ⟨heap_setCell_same W _ 3 _ _ _ h.r⟩
set_option maxRecDepth 10000 in
set_option maxHeartbeats 1600000 in
theorem endW_any (J sy lo n cI cE : Nat) (L : List Nat) (aI aE : Option Addr) (vO vL vM vZ vP vC vS vA : Value) (w : World) (hj : Jb w J sy vO (.slice aI n cI) (.slice aE L.length cE) vL vM vZ vP vC vS vA) (ho : OwnI w lo (.slice aE L.length cE) (nI L)) (hlo : lo ≤ w.heap.size) (_hn : n ≤ 1000000000) (hL : L.length ≤ 1000000000) :
    Calls Tryd.prog 71 #[.pointer (some ⟨J, 2, none⟩)] w fun e w' => (∃ v, e = .returned v) ∧ ∃ v', Jb w' J sy vO (.slice aI n cI) v' vL vM vZ vP vC vS vA ∧ OwnI w' lo v' (nI (L ++ [n])) ∧ Only w w' (fun k => k = J ∨ (Value.slice aE L.length cE).ownBlock = some k) ∧ (∀ k, v'.ownBlock = some k → (Value.slice aE L.length cE).ownBlock = some k ∨ w.heap.size ≤ k) := by
  obtain ⟨i0, hi, hz⟩ := Option.map_eq_some_iff.1 infoInt1
  simp only [Prod.mk.injEq] at hz
  obtain ⟨hz0, hz1, hz2⟩ := hz
  have hlen := nI_len L
  have hown : w.drew.ownsRow lo 3 1 (.slice aE L.length cE) L.length ((nI L).map (Value.int .i64)) := by
    have h := own_blk (W' := w.drew) ho (fun _ _ => rfl)
    rw [hlen] at h
    exact h
  have hjd : Jb w.drew J sy vO (.slice aI n cI) (.slice aE L.length cE) vL vM vZ vP vC vS vA := ⟨hj.r⟩
  have HNx : Hid (∀ (v' : Value) (w2 : World), w2.ownsRow lo 3 1 v' (L.length + 1) ((nI L).map (Value.int .i64) ++ [.int .i64 (n : Int)]) → (w.drew.alloc (.cells #[.int .i64 (n : Int)] 3)).grownBy w2 (Value.slice aE L.length cE).ownBlock → (v'.ownBlock = (Value.slice aE L.length cE).ownBlock ∨ v'.ownBlock = some (w.drew.alloc (.cells #[.int .i64 (n : Int)] 3)).heap.size) → Jb w2 J sy vO (.slice aI n cI) (.slice aE L.length cE) vL vM vZ vP vC vS vA ∧ Jb (w2.setCell ⟨J, 3, none⟩ v') J sy vO (.slice aI n cI) v' vL vM vZ vP vC vS vA ∧ OwnI (w2.setCell ⟨J, 3, none⟩ v') lo v' (nI (L ++ [n])) ∧ Only w (w2.setCell ⟨J, 3, none⟩ v') (fun k => k = J ∨ (Value.slice aE L.length cE).ownBlock = some k) ∧ (∀ k, v'.ownBlock = some k → (Value.slice aE L.length cE).ownBlock = some k ∨ w.heap.size ≤ k)) := hid0 (fun v' w2 h1 h2 h3 => by
    have g := apG_one (xs := (nI L).map (Value.int .i64)) (by rw [List.length_map, hlen]; exact h1) h2 h3
    have m1 := own_ne_blk hown hjd.r (by decide)
    have j2 : Jb w2 J sy vO (.slice aI n cI) (.slice aE L.length cE) vL vM vZ vP vC vS vA := ⟨(g.frm.block _ (Array.getElem?_eq_some_iff.1 hjd.r).1 m1).trans hjd.r⟩
    have m2 := own_ne_blk g.own j2.r (by decide)
    have hO := Only.setCell w2 J 3 v'
    refine ⟨j2, j2.setE v', ?_, (((Only.drewN w 1 _).trans g.frm (fun _ h => .inl (.inr h))).trans hO (fun _ h => .inl (.inl h))), fun k hk => g.at' k hk⟩
    have h4 := own_blk (W' := w2.setCell ⟨J, 3, none⟩ v') g.own (fun k hk => hO.block k (World.ownsRow.lt g.own k hk).2 (fun e => m2 (e ▸ hk)))
    unfold OwnI
    rw [nI_app, List.map_append, nI_len1]
    simpa [nI] using h4)
  obtain ⟨vB, hvB⟩ : ∃ vB, vB = w.drew.alloc (.cells #[.int .i64 (n : Int)] 3) := ⟨_, rfl⟩
  have HOw : Hid (vB.ownsRow lo 3 1 (.slice aE L.length cE) L.length ((nI L).map (Value.int .i64))) := hid0 (by rw [hvB]; exact World.ownsRow.alloc hown _)
  have HNw : Hid (∀ j u, [Value.int .i64 (n : Int)][j]? = some u → vB.cell? ((⟨w.heap.size, 0, none⟩ : Addr).add j) = some u) := hid0 (by rw [hvB]; exact cell_one_new _ _ _)
  have HLw : Hid (lo ≤ vB.heap.size) := hid0 (by rw [hvB]; simp; omega)
  have hjB : Jb vB J sy vO (.slice aI n cI) (.slice aE L.length cE) vL vM vZ vP vC vS vA := by rw [hvB]; exact hjd.past ((Below.refl _ _).alloc (Nat.le_refl _) _)
  have d0 : w.cell? ⟨J, 2, none⟩ = some (.slice aI n cI) := by rw [cell_of_row _ _ _ _ _ _ hj.r]; rfl
  have d1 : w.cell? ⟨J, 3, none⟩ = some (.slice aE L.length cE) := by rw [cell_of_row _ _ _ _ _ _ hj.r]; rfl
  have dB0 : vB.cell? ⟨J, 2, none⟩ = some (.slice aI n cI) := by rw [cell_of_row _ _ _ _ _ _ hjB.r]; rfl
  have dB1 : vB.cell? ⟨J, 3, none⟩ = some (.slice aE L.length cE) := by rw [cell_of_row _ _ _ _ _ _ hjB.r]; rfl
  rw [← hvB] at HNx
  have gB := hvB.symm
  clear hvB hjB hj hjd ho hown
  go_enter Tryd.func71, Tryd.ntmps71
  go_wp2
  go_region_law ((refine step_append_own_at (by rfl) _ _ 34 (by rfl) lo 3 i0 _ 1 8 Tryd.underlying34 hi hz0 hz1 hz2 rfl (by decide) (.slice aE L.length cE) L.length ((nI L).map (Value.int .i64)) (by rfl) HOw.out ⟨w.heap.size, 0, none⟩ 1 1 [.int .i64 (n : Int)] (by rfl) (by rfl) HNw.out (by simp [Value.oneCell']) (by unfold maxLen; omega) (by omega) HLw.out ?_; intro v' w2 h1 h2 h3; obtain ⟨a2, c2, rfl⟩ := own_sl h1; have R := hid0 (HNx.out _ _ h1 ⟨h2.os, h2.tape, h2.output, h2.size, h2.block⟩ h3); clear h1 h2 h3; have t1 : w2.cell? ⟨J, 3, none⟩ = some (.slice aE L.length cE) := (by rw [cell_of_row _ _ _ _ _ _ R.out.1.r]; rfl); have t2 : w2.frozen? ⟨J, 3, none⟩ = false := (by simp [World.frozen?, R.out.1.r])))
  all_goals
    go_wp2
    go_end0
    exact ⟨⟨_, rfl⟩, _, R.out.2⟩
theorem Jb.setM {W : World} {J sy : Nat} {vO vF vE vL vM vZ vP vC vS vA : Value} (h : Jb W J sy vO vF vE vL vM vZ vP vC vS vA) (v : Value) : Jb (W.setCell ⟨J, 5, none⟩ v) J sy vO vF vE vL v vZ vP vC vS vA := ⟨heap_setCell_same W _ 5 _ _ _ h.r⟩
set_option maxRecDepth 10000 in
set_option maxHeartbeats 1600000 in
theorem endL_any (J sy lo n cI cE : Nat) (L : List Nat) (aI aE : Option Addr) (vO vF vE vZ vP vC vS vA : Value) (w : World) (hj : Jb w J sy vO vF vE (.slice aI n cI) (.slice aE L.length cE) vZ vP vC vS vA) (ho : OwnI w lo (.slice aE L.length cE) (nI L)) (hlo : lo ≤ w.heap.size) (_hn : n ≤ 1000000000) (hL : L.length ≤ 1000000000) :
    Calls Tryd.prog 72 #[.pointer (some ⟨J, 4, none⟩)] w fun e w' => (∃ v, e = .returned v) ∧ ∃ v', Jb w' J sy vO vF vE (.slice aI n cI) v' vZ vP vC vS vA ∧ OwnI w' lo v' (nI (L ++ [n])) ∧ Only w w' (fun k => k = J ∨ (Value.slice aE L.length cE).ownBlock = some k) ∧ (∀ k, v'.ownBlock = some k → (Value.slice aE L.length cE).ownBlock = some k ∨ w.heap.size ≤ k) := by
  obtain ⟨i0, hi, hz⟩ := Option.map_eq_some_iff.1 infoInt1
  simp only [Prod.mk.injEq] at hz
  obtain ⟨hz0, hz1, hz2⟩ := hz
  have hlen := nI_len L
  have hown : w.drew.ownsRow lo 3 1 (.slice aE L.length cE) L.length ((nI L).map (Value.int .i64)) := by
    have h := own_blk (W' := w.drew) ho (fun _ _ => rfl)
    rw [hlen] at h
    exact h
  have hjd : Jb w.drew J sy vO vF vE (.slice aI n cI) (.slice aE L.length cE) vZ vP vC vS vA := ⟨hj.r⟩
  have HNx : Hid (∀ (v' : Value) (w2 : World), w2.ownsRow lo 3 1 v' (L.length + 1) ((nI L).map (Value.int .i64) ++ [.int .i64 (n : Int)]) → (w.drew.alloc (.cells #[.int .i64 (n : Int)] 3)).grownBy w2 (Value.slice aE L.length cE).ownBlock → (v'.ownBlock = (Value.slice aE L.length cE).ownBlock ∨ v'.ownBlock = some (w.drew.alloc (.cells #[.int .i64 (n : Int)] 3)).heap.size) → Jb w2 J sy vO vF vE (.slice aI n cI) (.slice aE L.length cE) vZ vP vC vS vA ∧ Jb (w2.setCell ⟨J, 5, none⟩ v') J sy vO vF vE (.slice aI n cI) v' vZ vP vC vS vA ∧ OwnI (w2.setCell ⟨J, 5, none⟩ v') lo v' (nI (L ++ [n])) ∧ Only w (w2.setCell ⟨J, 5, none⟩ v') (fun k => k = J ∨ (Value.slice aE L.length cE).ownBlock = some k) ∧ (∀ k, v'.ownBlock = some k → (Value.slice aE L.length cE).ownBlock = some k ∨ w.heap.size ≤ k)) := hid0 (fun v' w2 h1 h2 h3 => by
    have g := apG_one (xs := (nI L).map (Value.int .i64)) (by rw [List.length_map, hlen]; exact h1) h2 h3
    have m1 := own_ne_blk hown hjd.r (by decide)
    have j2 : Jb w2 J sy vO vF vE (.slice aI n cI) (.slice aE L.length cE) vZ vP vC vS vA := ⟨(g.frm.block _ (Array.getElem?_eq_some_iff.1 hjd.r).1 m1).trans hjd.r⟩
    have m2 := own_ne_blk g.own j2.r (by decide)
    have hO := Only.setCell w2 J 5 v'
    refine ⟨j2, j2.setM v', ?_, (((Only.drewN w 1 _).trans g.frm (fun _ h => .inl (.inr h))).trans hO (fun _ h => .inl (.inl h))), fun k hk => g.at' k hk⟩
    have h4 := own_blk (W' := w2.setCell ⟨J, 5, none⟩ v') g.own (fun k hk => hO.block k (World.ownsRow.lt g.own k hk).2 (fun e => m2 (e ▸ hk)))
    unfold OwnI
    rw [nI_app, List.map_append, nI_len1]
    simpa [nI] using h4)
  obtain ⟨vB, hvB⟩ : ∃ vB, vB = w.drew.alloc (.cells #[.int .i64 (n : Int)] 3) := ⟨_, rfl⟩
  have HOw : Hid (vB.ownsRow lo 3 1 (.slice aE L.length cE) L.length ((nI L).map (Value.int .i64))) := hid0 (by rw [hvB]; exact World.ownsRow.alloc hown _)
  have HNw : Hid (∀ j u, [Value.int .i64 (n : Int)][j]? = some u → vB.cell? ((⟨w.heap.size, 0, none⟩ : Addr).add j) = some u) := hid0 (by rw [hvB]; exact cell_one_new _ _ _)
  have HLw : Hid (lo ≤ vB.heap.size) := hid0 (by rw [hvB]; simp; omega)
  have hjB : Jb vB J sy vO vF vE (.slice aI n cI) (.slice aE L.length cE) vZ vP vC vS vA := by rw [hvB]; exact hjd.past ((Below.refl _ _).alloc (Nat.le_refl _) _)
  have d0 : w.cell? ⟨J, 4, none⟩ = some (.slice aI n cI) := by rw [cell_of_row _ _ _ _ _ _ hj.r]; rfl
  have d1 : w.cell? ⟨J, 5, none⟩ = some (.slice aE L.length cE) := by rw [cell_of_row _ _ _ _ _ _ hj.r]; rfl
  have dB0 : vB.cell? ⟨J, 4, none⟩ = some (.slice aI n cI) := by rw [cell_of_row _ _ _ _ _ _ hjB.r]; rfl
  have dB1 : vB.cell? ⟨J, 5, none⟩ = some (.slice aE L.length cE) := by rw [cell_of_row _ _ _ _ _ _ hjB.r]; rfl
  rw [← hvB] at HNx
  have gB := hvB.symm
  clear hvB hjB hj hjd ho hown
  go_enter Tryd.func72, Tryd.ntmps72
  go_wp2
  go_region_law ((refine step_append_own_at (by rfl) _ _ 34 (by rfl) lo 3 i0 _ 1 8 Tryd.underlying34 hi hz0 hz1 hz2 rfl (by decide) (.slice aE L.length cE) L.length ((nI L).map (Value.int .i64)) (by rfl) HOw.out ⟨w.heap.size, 0, none⟩ 1 1 [.int .i64 (n : Int)] (by rfl) (by rfl) HNw.out (by simp [Value.oneCell']) (by unfold maxLen; omega) (by omega) HLw.out ?_; intro v' w2 h1 h2 h3; obtain ⟨a2, c2, rfl⟩ := own_sl h1; have R := hid0 (HNx.out _ _ h1 ⟨h2.os, h2.tape, h2.output, h2.size, h2.block⟩ h3); clear h1 h2 h3; have t1 : w2.cell? ⟨J, 5, none⟩ = some (.slice aE L.length cE) := (by rw [cell_of_row _ _ _ _ _ _ R.out.1.r]; rfl); have t2 : w2.frozen? ⟨J, 5, none⟩ = false := (by simp [World.frozen?, R.out.1.r])))
  all_goals
    go_wp2
    go_end0
    exact ⟨⟨_, rfl⟩, _, R.out.2⟩
end Go.Proofs.YtbbejfkgopcjoaaDoor
namespace Go.Proofs.YtbbejfkgopcjoaaDoor
open Go.RowKit Go.Shelf
/-- The cells of words. -/
def cells2 : List (Nat × Nat) → List Value
  | [] => []
  | x :: l => .int .i64 (x.1 : Int) :: .int .u64 (x.2 : Int) :: cells2 l
theorem cells2_app : ∀ (l m : List (Nat × Nat)), cells2 (l ++ m) = cells2 l ++ cells2 m
  | [], _ => rfl
  | x :: l, m => by simp only [cells2, List.cons_append, cells2_app l m]
theorem cells2_at : ∀ (l : List (Nat × Nat)) (i : Nat) (h : i < l.length), (cells2 l)[i * 2]? = some (.int .i64 ((l[i]).1 : Int)) ∧ (cells2 l)[i * 2 + 1]? = some (.int .u64 ((l[i]).2 : Int))
  | x :: l, 0, _ => ⟨rfl, rfl⟩
  | x :: l, i + 1, h => by
    have h2 := cells2_at l i (by simpa using h)
    rw [show (i + 1) * 2 = i * 2 + 1 + 1 by omega]
    simpa [cells2] using h2
theorem cells2_set : ∀ (l : List (Nat × Nat)) (i y : Nat) (h : i < l.length), (cells2 l).set (i * 2 + 1) (.int .u64 (y : Int)) = cells2 (l.set i ((l[i]).1, y))
  | x :: l, 0, y, _ => rfl
  | x :: l, i + 1, y, h => by
    have h2 := cells2_set l i y (by simpa using h)
    rw [show (i + 1) * 2 = i * 2 + 1 + 1 by omega]
    simpa [cells2] using h2
theorem cells2_one (l : List (Nat × Nat)) : ∀ u ∈ cells2 l, u.oneCell' = true := by
  induction l with
  | nil => simp [cells2]
  | cons x l ih => intro u hu; simp only [cells2, List.mem_cons] at hu; rcases hu with rfl | rfl | hu; rfl; rfl; exact ih u hu
def OwnP (W : World) (lo : Nat) (v : Value) (l : List (Nat × Nat)) : Prop := W.ownsRow lo 130 2 v l.length (cells2 l)
theorem OwnP.at' {W : World} {lo : Nat} {v : Value} {l : List (Nat × Nat)} (h : OwnP W lo v l) {i : Nat} (hi : i < l.length) : ∃ g c, v = .slice (some ⟨g, 0, none⟩) l.length c ∧ lo ≤ g ∧ g < W.heap.size ∧ W.cell? ⟨g, i * 2, none⟩ = some (.int .i64 ((l[i]).1 : Int)) ∧ W.cell? ⟨g, i * 2 + 1, none⟩ = some (.int .u64 ((l[i]).2 : Int)) ∧ W.frozen? ⟨g, i * 2 + 1, none⟩ = false := by
  obtain ⟨g, c, rfl, h1, h2, _⟩ := own_form h (by omega)
  obtain ⟨e1, e2⟩ := cells2_at l i hi
  refine ⟨g, c, rfl, h1, h2, ?_, ?_, ?_⟩
  · rw [World.ownsRow.cellAt h (i * 2) (by omega), e1]
  · rw [World.ownsRow.cellAt h (i * 2 + 1) (by omega), e2]
  · obtain ⟨cs, hcs⟩ := own_typ h (show Value.ownBlock _ = some g from rfl)
    simp [World.frozen?, hcs]
theorem OwnP.put {W : World} {lo g c : Nat} {n : Nat} {l : List (Nat × Nat)} (h : OwnP W lo (.slice (some ⟨g, 0, none⟩) n c) l) {i : Nat} (hi : i < l.length) (y : Nat) : OwnP (W.setCell ⟨g, i * 2 + 1, none⟩ (.int .u64 (y : Int))) lo (.slice (some ⟨g, 0, none⟩) n c) (l.set i ((l[i]).1, y)) := by
  obtain rfl : n = l.length := by obtain ⟨a, c', e⟩ := own_sl h; simp only [Value.slice.injEq] at e; exact e.2.1
  have h1 := (World.ownsRow.stored h (i * 2 + 1) (.int .u64 (y : Int))).1
  unfold OwnP
  rw [← cells2_set l i y hi, List.length_set]
  exact h1
/-- The row, with a word for the place p at its end. -/
def nxW (l : List (Nat × Nat)) (fr p : Nat) : List (Nat × Nat) := if l.length = fr ∨ (l.getD (l.length - 1) (0, 0)).1 ≠ p / 64 then l ++ [(p / 64, 0)] else l
/-- The place put in. -/
def upW (l : List (Nat × Nat)) (p : Nat) : List (Nat × Nat) := l.set (l.length - 1) (p / 64, (l.getD (l.length - 1) (0, 0)).2 ||| 2 ^ (p % 64))
def addW (l : List (Nat × Nat)) (fr p : Nat) : List (Nat × Nat) := upW (nxW l fr p) p
structure ApP (w w' : World) (lo : Nat) (v v' : Value) (l : List (Nat × Nat)) : Prop where
  own : OwnP w' lo v' l
  frm : Only w w' (fun k => v.ownBlock = some k)
  at' : ∀ k, v'.ownBlock = some k → v.ownBlock = some k ∨ w.heap.size ≤ k
theorem apP_one {w w2 : World} {lo : Nat} {v v' : Value} {l : List (Nat × Nat)} {x : Nat × Nat} {o : Obj} (hown : w2.ownsRow lo 130 2 v' (l.length + 1) (cells2 l ++ cells2 [x])) (hg : (w.alloc o).grownBy w2 v.ownBlock) (hat : v'.ownBlock = v.ownBlock ∨ v'.ownBlock = some (w.alloc o).heap.size) : ApP w w2 lo v v' (l ++ [x]) := by
  refine ⟨?_, (Only.alloc w o (fun k => v.ownBlock = some k)).trans (Only.ofGrown hg) (fun _ h => .inl h), fun k hk => ?_⟩
  · unfold OwnP
    rw [List.length_append, List.length_singleton, cells2_app]; exact hown
  · rcases hat with e | e
    · exact .inl (by rw [← e]; exact hk)
    · rw [e] at hk
      cases hk
      right
      simp
/-- The last word's places are others. -/
theorem ApP.up {w w1 : World} {lo g c n m : Nat} {v : Value} {l : List (Nat × Nat)} {p y : Nat} (h : ApP w w1 lo v (.slice (some ⟨g, 0, none⟩) n c) l) (hm : l.length = m + 1) (h1 : (l.getD m (0, 0)).1 = p / 64) (hy : (l.getD m (0, 0)).2 ||| 2 ^ (p % 64) = y) : ApP w (w1.drew.setCell ⟨g, m * 2 + 1, none⟩ (.int .u64 (y : Int))) lo v (.slice (some ⟨g, 0, none⟩) n c) (upW l p) := by
  have hlt : m < l.length := by omega
  have hd : OwnP w1.drew lo (.slice (some ⟨g, 0, none⟩) n c) l := own_blk h.own (fun _ _ => rfl)
  refine ⟨?_, ?_, h.at'⟩
  · have h2 := hd.put hlt y
    have e : l.set m ((l[m]).1, y) = upW l p := by
      unfold upW
      rw [show l.length - 1 = m by omega, ← hy]
      have e3 : l.getD m (0, 0) = l[m] := by rw [List.getD_eq_getElem?_getD, List.getElem?_eq_getElem hlt]; rfl
      rw [e3] at h1 ⊢
      rw [h1]
    rw [← e]
    exact h2
  · refine h.frm.trans ((Only.drewN w1 1 _).trans (Only.setCell w1.drew g (m * 2 + 1) _) (fun _ h => .inl h)) (fun i hi => ?_)
    subst hi
    exact h.at' i rfl
theorem infoWord : (Tryd.prog.info? 130).map (fun i => (i.zero, i.size, i.bytes)) = some (some (.agg #[.int .i64 0, .int .u64 0]), 2, 16) := by kernel_rfl
end Go.Proofs.YtbbejfkgopcjoaaDoor
