/-
  LrRW, LsM, LdLW, LsKW.
-/
import Derived.Test.YtbdjnmbhphflbaaGreatDoorMb
import Derived.Test.YtbdjnmbhphflbaaGreatDoorMc
import Derived.Shelf.RegionOpen
import Derived.Sort.QuietTacIn
import Derived.Sort.BigQuietIn
namespace Go.Proofs.YtbdjnmbhphflbaaGreatDoor
open Go.RowKit Go.Shelf Go.Lib Go.Maps Go.Sort
attribute [local go_sem] Oper.semAt_some
/-- The edits of a locale's section. -/
def edOf (L : List Sec) (x : ByteArray) : List (Bool × ByteArray) := match secOf L x with
  | some s => s.ed
  | none => []
/-- The edits along a chain, the root's first. -/
def edsF (L : List Sec) (c : List ByteArray) : List (Bool × ByteArray) := c.reverse.flatMap (edOf L)
/-- What Resolve answers. -/
def GoResolve (A : Nat → Addr) (base : Nat) (w' : World) (L : List Sec) (t : ByteArray) (e : Ending) : Prop := match chainF L t with
  | .bad i => e = .returned (.tuple #[.slice none 0 0, .iface 192 (.pointer (some (A i)))])
  | .ok c => ∃ v l, OwnS w' base v l ∧ Rising l ∧ (∀ x, x ∈ l ↔ lastE (edsF L c) x = some true) ∧
      e = .returned (if 2000 < l.length then .tuple #[.slice none 0 0, .iface 192 (.pointer (some (A 2)))] else .tuple #[v, .nilIface])
theorem secIs_ed {w : World} {L : List Sec} {x : ByteArray} {v : Value} (h : SecIs w (secOf L x) v) : ∃ lo pa ae ce, v = .agg #[.string lo, .string pa, .slice ae (edOf L x).length ce] ∧ EA w ae (edOf L x) := by
  unfold edOf
  cases hq : secOf L x with
  | none =>
    rw [hq] at h
    exact ⟨_, _, none, 0, h, ⟨fun k hk => absurd hk (Nat.not_lt_zero _)⟩⟩
  | some s =>
    rw [hq] at h
    obtain ⟨ae, ce, hv, hea⟩ := h
    exact ⟨_, _, ae, ce, hv, hea⟩
theorem edOf_le {L : List Sec} {x : ByteArray} {n : Nat} (h : ∀ s ∈ L, s.ed.length ≤ n) : (edOf L x).length ≤ n := by
  unfold edOf
  split
  · rename_i s hs
    exact h s (List.mem_of_find?_eq_some hs)
  · simp
theorem edOf_sz {L : List Sec} {x : ByteArray} {n : Nat} (h : ∀ s ∈ L, ∀ e ∈ s.ed, e.2.size ≤ n) : ∀ e ∈ edOf L x, e.2.size ≤ n := by
  unfold edOf
  split
  · rename_i s hs
    exact h s (List.mem_of_find?_eq_some hs)
  · intro e he; cases he
/-- What the range keeps. -/
def ResI (L : List Sec) (w0 : World) (Bm R : Nat) (pre : List (Nat × ByteArray)) (W : World) : Prop :=
  MapIs W Bm (pre.length * 1000000000) ((pre.map (·.2)).flatMap (edOf L)) ∧ Below w0.heap.size w0 W ∧ W.heap[Bm + 1]? = some (.cells #[.map (some Bm)] 62 (0, 0)) ∧ R ≤ W.heap.size
theorem resI_own (L : List Sec) (w0 : World) (Bm R : Nat) (h0 : w0.heap.size ≤ R) (hR : Bm + 2 ≤ R) : OwnFrom R (ResI L w0 Bm R) := fun pre W W' row ⟨⟨D, hD, hs⟩, hb, hv, hz⟩ hg hr => by
  have hlow : ∀ k, k < R → row ≠ some k := fun k hk e => by have := (hr k e).1; omega
  refine ⟨⟨D, hD.kept hg (fun e => hlow Bm (by omega) e.symm), hs⟩, ⟨hg.os.trans hb.os, hg.tape.trans hb.tape, hg.output.trans hb.output, Nat.le_trans hb.size hg.size, fun k hk => (hg.block k (by omega) (fun e => hlow k (by omega) e.symm)).trans (hb.block k hk)⟩, (hg.block (Bm + 1) (by omega) (fun e => hlow (Bm + 1) (by omega) e.symm)).trans hv, Nat.le_trans hz hg.size⟩
theorem MapIs.below {W W' : World} {B n : Nat} {eds : List (Bool × ByteArray)} (h : MapIs W B n eds) (hb : Below W.heap.size W W') : MapIs W' B n eds := by
  obtain ⟨D, hD, hs⟩ := h
  exact ⟨D, hD.kept (row := none) ⟨hb.os, hb.tape, hb.output, hb.size, fun k hk _ => hb.block k hk⟩ (by simp), hs⟩
theorem kc_putObj (W : World) (l : Nat) (o o' : Obj) (hl : W.heap[l]? = some o) (hc : o.isCells = false) : KC W (W.putObj l o') := by
  refine ⟨fun i c t z hi => ?_, by simp [World.putObj]⟩
  have hne : i ≠ l := fun e => by
    subst e
    rw [hi] at hl
    cases hl
    simp [Obj.isCells] at hc
  simp only [World.putObj]
  rw [Array.getElem?_setIfInBounds_ne (fun e => hne e.symm)]
  exact hi
theorem chainGo_pos (L : List Sec) : ∀ (f : Nat) (ch : List ByteArray) (last : ByteArray) (cc : List ByteArray), 0 < ch.length → chainGo L f ch last = .ok cc → 0 < cc.length
  | 0, _, _, _, _, h => by simp [chainGo] at h
  | f + 1, ch, last, cc, hc, h => by
    rw [chainGo] at h
    split at h
    · cases h; exact hc
    · split at h
      · cases h
      · split at h
        · cases h
        · exact chainGo_pos L f _ _ cc (by simp) h
theorem chainF_len (L : List Sec) (t : ByteArray) : ∀ cc, chainF L t = .ok cc → cc.length ≤ 16 ∧ 0 < cc.length := fun cc h => by
  have h1 := (chainF_ok L t).2
  rw [h] at h1
  refine ⟨h1, ?_⟩
  unfold chainF at h
  cases hk : chkE entE L with
  | some i => rw [hk] at h; cases h
  | none =>
    rw [hk] at h
    simp only at h
    cases hq : tagF t.data.toList with
    | none => rw [hq] at h; cases h
    | some c =>
      rw [hq] at h
      exact chainGo_pos L 17 _ _ cc (by simp) h
theorem own_put {W : World} {lo t s n D : Nat} {v : Value} {xs : List Value} {o o' : Obj} (h : W.ownsRow lo t s v n xs) (hD : W.heap[D]? = some o) (hc : o.isCells = false) : (W.putObj D o').ownsRow lo t s v n xs := by
  refine ⟨h.1, ?_⟩
  rcases h.2 with h2 | ⟨g, cap, cur0, hv, hg, hr, r⟩
  · exact .inl h2
  · refine .inr ⟨g, cap, cur0, hv, hg, ?_, r⟩
    rw [World.putObj_heap_other (fun e => by subst e; rw [hr] at hD; cases hD; simp [Obj.isCells] at hc)]
    exact hr
theorem below_put {B D : Nat} {w W : World} (h : Below B w W) (o : Obj) (hD : B ≤ D) : Below B w (W.putObj D o) := ⟨h.os, h.tape, h.output, by rw [World.putObj_size]; exact h.size, fun k hk => by rw [World.putObj_heap_other (by omega)]; exact h.block k hk⟩
theorem eds_of {L : List Sec} {ys : List (Nat × ByteArray)} {cc : List ByteArray} (h : ys.map (·.2) = cc.reverse) : (ys.map (·.2)).flatMap (edOf L) = edsF L cc := by rw [h]; rfl
theorem res_step (L : List Sec) (w0 : World) (Bm R : Nat) (pre : List (Nat × ByteArray)) (x : Nat × ByteArray) (W w2 w3 : World) (hI : ResI L w0 Bm R pre W) (hB0 : w0.heap.size ≤ Bm) (hR : Bm + 2 ≤ R) (hb2 : Below W.heap.size W w2) (hg3 : w2.grownBy w3 (some Bm))
    (hm3 : MapIs w3 Bm (pre.length * 1000000000 + (edOf L x.2).length) ((pre.map (·.2)).flatMap (edOf L) ++ edOf L x.2)) (hed : (edOf L x.2).length ≤ 1000000000) : KeepsFrom R W w3 ∧ KC W w3 ∧ ResI L w0 Bm R (pre ++ [x]) w3 := by
  obtain ⟨⟨D, ⟨es, clock, hb, _⟩, _⟩, hbw, hv, hz⟩ := hI
  have hs2 := hb2.size
  have hs3 := hg3.size
  have key : ∀ k, k < W.heap.size → k ≠ Bm → w3.heap[k]? = W.heap[k]? := fun k hk hne => (hg3.block k (by omega) (fun e => hne (by injection e))).trans (hb2.block k hk)
  refine ⟨⟨by omega, fun k o hk ho _ => (key k (Array.getElem?_eq_some_iff.1 ho).1 (by omega)).trans ho⟩, ⟨fun i c t z hi => (key i (Array.getElem?_eq_some_iff.1 hi).1 (fun e => by subst e; rw [hb] at hi; cases hi)).trans hi, by omega⟩, ?_, ?_, ?_, by omega⟩
  · obtain ⟨D', hD', hs'⟩ := hm3
    refine ⟨D', hD'.mono (by rw [List.length_append, List.length_singleton]; omega), ?_⟩
    rw [List.map_append, List.flatMap_append]
    simpa using hs'
  · exact ⟨(hg3.os.trans hb2.os).trans hbw.os, (hg3.tape.trans hb2.tape).trans hbw.tape, (hg3.output.trans hb2.output).trans hbw.output, by have := hbw.size; omega, fun k hk => (key k (by have := hbw.size; omega) (by omega)).trans (hbw.block k hk)⟩
  · exact (key (Bm + 1) (Array.getElem?_eq_some_iff.1 hv).1 (by omega)).trans hv
set_option maxRecDepth 100000 in
set_option maxHeartbeats 2000000 in
theorem resolve_any (A : Nat → Addr) (L : List Sec) (a : Option Addr) (c : Nat) (t : ByteArray) (w : World) (hl : L.length ≤ 1000000) (hc : L.length ≤ c) (hb : ∀ s ∈ L, s.ed.length ≤ 1000000000) (hz : ∀ s ∈ L, ∀ e ∈ s.ed, e.2.size ≤ 140737488355328) (hm : Mx w) (hT : Tb w) (hQ : SeqAt w) (he : Sents w A) (ha : XA w a L) :
    Calls Tryz.prog 10 #[.agg #[.slice a L.length c], .string t] w fun e w' => GoResolve A w.heap.size w' L t e ∧ Below w.heap.size w w' := by
  obtain ⟨w0, hw0⟩ : ∃ w0, w0 = w.alloc (.cells #[.slice a L.length c] 24) := ⟨_, rfl⟩
  have hB0 : Below w.heap.size w w0 := by rw [hw0]; exact (Below.refl _ _).alloc (Nat.le_refl _) _
  have hX0 : w0.heap[w.heap.size]? = some (.cells #[.slice a L.length c] 24 (0, 0)) := by rw [hw0]; exact heap_alloc_new w _
  have hs0 : w0.heap.size = w.heap.size + 1 := by rw [hw0]; simp
  have x0 : w0.cell? ⟨w.heap.size, 0, none⟩ = some (.slice a L.length c) := by rw [cell_of_row _ _ _ _ _ _ hX0]; rfl
  have HCh := hid0 (chain_any A L a c t w0 hc (fun s hs => Nat.le_trans (hb s hs) (by decide)) hz (hm.below hB0) (hT.below hB0) (hQ.later hB0) (he.below hB0) (ha.later hB0))
  have HE : Hid (∀ W, Below w0.heap.size w0 W → Sents W A) := hid0 (fun W hW => (he.below hB0).below hW)
  have HXA : Hid (∀ W, Below w0.heap.size w0 W → XA W a L) := hid0 (fun W hW => (ha.later hB0).later hW)
  have HX0 := hid0 hX0
  have HB0 := hid0 hB0
  have HS0 := hid0 hs0
  have HBD := hid0 hb
  have HZD := hid0 hz
  have hfold := hw0.symm
  clear hw0 hB0 hX0 hs0 hm hT hQ he ha hb hz
  unfold GoResolve
  have HLn := hid0 (chainF_len L t)
  cases hr : chainF L t with
  | bad i =>
    rw [hr] at HCh
    simp only [GoChain] at HCh
    clear hr HLn
    go_enter Tryz.func10, Tryz.ntmps10
    go_wp2_with (go_at_call 9; refine HCh.out.mono ?_; rintro e w1 ⟨rfl, hb1⟩; have HB1 := hid0 (Below.later HB0.out hb1); clear hb1)
    go_returns
    exact ⟨rfl, HB1.out⟩
  | ok cc =>
    rw [hr] at HCh
    simp only [GoChain] at HCh
    obtain ⟨hcl, hcp⟩ := HLn.out cc hr
    clear hr HLn
    refine (callsIn_wide (n := 8)).1 ?_
    refine callsIn_of_wp_marks Tryz.func10 rfl trivial ?_ rfl
    simp only [Tryz.ntmps10, List.size_toArray, List.length_cons, List.length_nil, Nat.reduceAdd, Nat.reduceSub, Array.replicate_succ, Array.replicate_zero, List.push_toArray, List.append_toArray, List.nil_append, List.cons_append]
    have hmm := @run_makeMap Tryz.prog
    gi_wp2_with (first
      | (refine ⟨trivial, ?_⟩; gi_at_call 9; refine (callsIn_wide.2 HCh.out).mono ?_; rintro e w1 ⟨⟨v, rfl, ho⟩, hb1⟩; obtain ⟨gC, kC, rfl, hg1, hg2, hg3⟩ := own_form ho hcp; have HO1 := hid0 ho; have HB1 := hid0 hb1; clear ho hb1 hg1 hg2 hg3)
      | (refine ⟨trivial, ?_⟩; gi_at_call 28; refine (back_in _ _ ⟨_, _, _, rfl⟩ _).mono ?_; rintro e w' ⟨rfl, rfl⟩)
      | fail)
    obtain ⟨wR, hwR⟩ : ∃ wR, wR = ((w1.alloc (.map #[] 0)).alloc (.cells #[.map (some w1.heap.size)] 62)).alloc (.cells #[.slice (some ⟨gC, 0, none⟩) cc.length kC] 31) := ⟨_, rfl⟩
    obtain ⟨cur, hgC, hcur⟩ : ∃ cur, w1.heap[gC]? = some (.cells cur 9 (0, 0)) ∧ ∀ k (h : k < cc.length), cur[k]? = some (.string cc[k]) := by
      rcases HO1.out.2 with ⟨hv, _⟩ | ⟨g', cap', cur, hv, _, hb', hc1, _, _, h4⟩
      · cases hv
      · cases hv
        refine ⟨cur, hb', fun k hk => ?_⟩
        have h5 : (cur.toList.take (cc.length * 1))[k]? = (cellsS cc)[k]? := by rw [h4]
        rw [List.getElem?_take_of_lt (by omega), Array.getElem?_toList] at h5
        rw [h5]
        simp [cellsS, hk]
    have hbR : Below w1.heap.size w1 wR := by rw [hwR]; exact (((Below.refl _ _).alloc (Nat.le_refl _) _).alloc (by simp) _).alloc (by simp; omega) _
    have hsR : wR.heap.size = w1.heap.size + 3 := by rw [hwR]; simp
    have hmR : wR.ownsMap Tryz.prog 9 outElem w1.heap.size 0 (.map []) := by rw [hwR]; exact ((World.ownsMap_made w1 _ _ _).alloc _).alloc _
    have hvR : wR.heap[w1.heap.size + 1]? = some (.cells #[.map (some w1.heap.size)] 62 (0, 0)) := by
      rw [hwR]
      have h := heap_alloc_new (w1.alloc (.map #[] 0)) (.cells #[.map (some w1.heap.size)] 62)
      rw [show (w1.alloc (.map #[] 0)).heap.size = w1.heap.size + 1 by simp] at h
      exact (Below.heap_alloc _ _ _ (by simp)).trans h
    have hnR : wR.heap[w1.heap.size + 1 + 1]? = some (.cells #[.slice (some ⟨gC, 0, none⟩) cc.length kC] 31 (0, 0)) := by
      rw [hwR]
      have h := heap_alloc_new ((w1.alloc (.map #[] 0)).alloc (.cells #[.map (some w1.heap.size)] 62)) (.cells #[.slice (some ⟨gC, 0, none⟩) cc.length kC] 31)
      rw [show ((w1.alloc (.map #[] 0)).alloc (.cells #[.map (some w1.heap.size)] 62)).heap.size = w1.heap.size + 1 + 1 by simp] at h
      exact h
    rw [← hwR]
    have hs0 := HS0.out
    have hs1 := HB1.out.size
    have hgR : wR.heap[gC]? = some (.cells cur 9 (0, 0)) := (hbR.block gC (Array.getElem?_eq_some_iff.1 hgC).1).trans hgC
    have HB1R := hid0 (Below.later HB1.out hbR)
    clear hwR hgC HO1 hfold x0 HCh
    refine wpIn_rangeFunc_ownH rfl (by omega) (gf := 48) (lb := #[.pointer (some ⟨w1.heap.size + 1 + 1, 0, none⟩)]) rfl trivial (enters_of Tryz.func48 (by kernel_rfl) rfl)
      (back_stops 7 (by omega) (w1.heap.size + 1 + 1) gC kC cc cur (by omega) wR hnR hgR hcur) KC.trans (fun W l o o' _ ho hc _ => kc_putObj W l o o' ho hc) (Below.refl _ _) (fun _ => rfl)
      (ResI L w0 w1.heap.size wR.heap.size) (fun _ _ _ => False) (resI_own L w0 w1.heap.size wR.heap.size (by omega) (by omega)) (fun _ _ _ _ _ hs _ _ => hs)
      ⟨⟨_, hmR, says_nil⟩, HB1R.out, hvR, Nat.le_refl _⟩
      (fun x a' _ => a' = { tmps := #[.agg #[.slice a L.length c], .string t, .pointer (some ⟨w.heap.size, 0, none⟩), undef, .slice none 0 0, .nilIface, .slice (some ⟨gC, 0, none⟩) cc.length kC, .nilIface, .pointer (some ⟨w1.heap.size + 1, 0, none⟩), undef, .string x.2, undef, .tuple #[.slice (some ⟨gC, 0, none⟩) cc.length kC, .nilIface], .agg #[.slice a L.length c], .string t, .tuple #[.slice (some ⟨gC, 0, none⟩) cc.length kC, .nilIface], .slice (some ⟨gC, 0, none⟩) cc.length kC, .nilIface, .nilIface, .bool false, undef, .map (some w1.heap.size), .slice (some ⟨gC, 0, none⟩) cc.length kC, .func (.func 48) #[] #[.pointer (some ⟨w1.heap.size + 1 + 1, 0, none⟩)], .int .i64 ((x.1 : Nat) : Int), .string x.2, undef, undef, undef, undef, undef, undef, undef, undef, undef, undef, undef, undef, undef], defers := [] })
      (fun x a' _ _ _ _ h _ _ => h) ?assign ?body ?done ?stop
    case assign =>
      rintro l pre x W K hI hK
      gi_wp2
      exact hK _ _ (KeepsFrom.refl _ _) (KC.refl _) hI rfl
    case body =>
      rintro l pre x a' W hl' ⟨r, hr⟩ hI rfl hlt
      have HI := hid0 hI
      obtain ⟨hM, hBW, hvW, hzW⟩ := hI
      have y0 : W.cell? ⟨w.heap.size, 0, none⟩ = some (.slice a L.length c) := by rw [cell_of_row _ _ _ _ _ _ ((hBW.block _ (by omega)).trans HX0.out)]; rfl
      have y1 : W.cell? ⟨w1.heap.size + 1, 0, none⟩ = some (.map (some w1.heap.size)) := by rw [cell_of_row _ _ _ _ _ _ hvW]; rfl
      have HSc := hid0 (sectionOf_any L a c x.2 W.drew hl (HXA.out W.drew hBW.drew))
      have hfd : ∀ (W : World) (p q : ByteArray) (z : Value), (Instr.field 27 (.agg #[.string p, .string q, z]) 2).run Tryz.prog W = .ok z W := fun W p q z => by kernel_rfl
      have HM := hid0 hM
      clear hM
      have HEd := hid0 (edOf_le (x := x.2) HBD.out)
      have HEz := hid0 (edOf_sz (x := x.2) HZD.out)
      have HTk : Hid (∀ W2 ae ce, MapIs W2 w1.heap.size (pre.length * 1000000000) ((pre.map (·.2)).flatMap (edOf L)) → EA W2 ae (edOf L x.2) → Calls Tryz.prog 29 #[.map (some w1.heap.size), .slice ae (edOf L x.2).length ce] W2 fun e w' => (∃ v, e = .returned v) ∧ MapIs w' w1.heap.size (pre.length * 1000000000 + (edOf L x.2).length) ((pre.map (·.2)).flatMap (edOf L) ++ edOf L x.2) ∧ W2.grownBy w' (some w1.heap.size)) := hid0 (fun W2 ae ce hm2 hea => take_any (edOf L x.2) ((pre.map (·.2)).flatMap (edOf L)) ae ce w1.heap.size _ W2 HEd.out (by omega) HEz.out hea hm2)
      have hmx : Tryz.prog.follows .mixedOrders = true := by kernel_rfl
      have hf1 : Fence.wide.fn 30 := trivial
      have hf2 : Fence.wide.fn 29 := trivial
      gi_wp2
      gi_region_with_o (first
        | (gi_at_call 30; go_loud ((
            refine (CallsIn.inRound l (callsIn_wide.2 HSc.out)).mono ?_
            rintro e w2 ⟨⟨v, rfl, hsi⟩, hb2⟩
            obtain ⟨lo, pa, ae, ce, rfl, hea⟩ := secIs_ed hsi
            have y2 : w2.cell? ⟨w1.heap.size + 1, 0, none⟩ = some (.map (some w1.heap.size)) := (hb2.cell (World.block_lt_of_cell? W _ y1)).trans y1
            have HB2 := hid0 hb2
            have HEA := hid0 (hea.later hb2)
            have HM2 := hid0 (MapIs.below (W := W.drew) HM.out hb2)
            clear hb2 hsi hea)))
        | (gi_at_call 29; refine (CallsIn.inRound l (callsIn_wide.2 (HTk.out w2 ae ce HM2.out HEA.out))).mono ?_; rintro e w3 ⟨⟨v3, rfl⟩, hm3, hg3⟩; have HM3 := hid0 hm3; have HG3 := hid0 hg3; clear hm3 hg3)
        | fail)
      all_goals
        gi_wp2
        exact res_step L w0 w1.heap.size wR.heap.size pre x W w2 w3 HI.out (by omega) (by omega) ⟨HB2.out.os, HB2.out.tape, HB2.out.output, HB2.out.size, HB2.out.block⟩ HG3.out HM3.out HEd.out
    case done =>
      rintro D ys W hD hS ⟨hM, hBW, hvW, hzW⟩ hK
      have y1 : W.cell? ⟨w1.heap.size + 1, 0, none⟩ = some (.map (some w1.heap.size)) := by rw [cell_of_row _ _ _ _ _ _ hvW]; rfl
      have HSe := HE.out W hBW
      have hyl : ys.length ≤ 16 := by have h := congrArg List.length hS; simp at h; omega
      have HN := hid0 (entries_any sortS _ w1.heap.size _ W (by omega) (by omega) hM)
      have HKD2 : Hid (∀ W2, Below W.heap.size W W2 → W2.heap[D]? = some (.deferred (some []))) := hid0 (fun W2 h2 => (h2.block D (Array.getElem?_eq_some_iff.1 hK).1).trans hK)
      have HBW := hid0 hBW
      have hww : w.heap.size ≤ W.heap.size := by have := hBW.size; omega
      have hwD : w.heap.size ≤ D := by omega
      have HYG : Hid (∀ W2, Below W.heap.size W W2 → W2.cell? ⟨1, 0, none⟩ = some (.iface 192 (.pointer (some (A 2))))) := hid0 (fun W2 h2 => (HSe.below h2).c2)
      have HSS := hid0 hS
      clear hM hvW hK hBW hS
      gi_wp2_with (first
        | (refine ⟨trivial, ?_⟩; gi_at_call 31; refine (callsIn_wide.2 HN.out).mono ?_; rintro e w2 ⟨⟨v, lr, rfl, ho, hri, hmem⟩, hb2⟩; obtain ⟨aR, cR, rfl, hsa, hsc⟩ := ho.sa; have HO := hid0 ho; have HRi := hid0 hri; have HMe := hid0 hmem; have HB2 := hid0 hb2; have y3 := HYG.out w2 hb2; clear ho hri hmem hb2 hsa hsc)
        | fail)
      · have h2000 : 2000 < lr.length := by omega
        have hmx : Tryz.prog.follows .mixedOrders = true := by kernel_rfl
        gi_quiet ((fail))
        gi_wp2
        have hB3 : Below W.heap.size W (w2.drewN nq) := ⟨HB2.out.os, HB2.out.tape, HB2.out.output, HB2.out.size, HB2.out.block⟩
        refine ⟨by simp, .inl ⟨_, _, rfl, run_takeDeferred (HKD2.out _ hB3), ?_⟩⟩
        refine ⟨.tuple #[.slice none 0 0, .iface 192 (.pointer (some (A 2)))], by simp [results, Tryz.results10, go_sem], ⟨.slice aR lr.length cR, lr, own_put (W := w2.drewN nq) (owns_lower HO.out hww) (HKD2.out _ hB3) rfl, HRi.out, ?_, ?_⟩, below_put (Below.later (Below.later HB0.out HBW.out) hB3) _ hwD⟩
        · rw [← eds_of HSS.out]; exact HMe.out
        · rw [if_pos h2000]
      · have h2000 : ¬ 2000 < lr.length := by omega
        refine ⟨by simp, .inl ⟨_, _, rfl, run_takeDeferred (HKD2.out w2 HB2.out), ?_⟩⟩
        refine ⟨.tuple #[.slice aR lr.length cR, .nilIface], by simp [results, Tryz.results10, go_sem], ⟨.slice aR lr.length cR, lr, own_put (owns_lower HO.out hww) (HKD2.out w2 HB2.out) rfl, HRi.out, ?_, ?_⟩, below_put (Below.later (Below.later HB0.out HBW.out) HB2.out) _ hwD⟩
        · rw [← eds_of HSS.out]; exact HMe.out
        · rw [if_neg h2000]
    case stop =>
      rintro D c pre W _ _ h _
      exact h.elim
end Go.Proofs.YtbdjnmbhphflbaaGreatDoor
namespace Go.Proofs.YtbdjnmbhphflbaaGreatDoor
open Go.RowKit Go.Shelf Go.Lib Go.Maps Go.Sort
def mrB : ByteArray := ⟨#[77, 114, 46]⟩
def egB : ByteArray := ⟨#[101, 46, 103, 46]⟩
def enB : ByteArray := ⟨#[101, 110]⟩
def frB : ByteArray := ⟨#[102, 114]⟩
def noB : ByteArray := ⟨#[]⟩
def usB : ByteArray := ⟨#[101, 110, 95, 85, 83]⟩
def kB : List Sec := [⟨rootB, noB, [(true, mrB), (true, egB)]⟩, ⟨enB, noB, [(false, egB)]⟩]
theorem tag1 : tagF [69, 78, 45, 117, 115] = some [101, 110, 95, 85, 83] := by decide
theorem tag2 : tagF [101, 110, 45, 117, 115] = some [101, 110, 95, 85, 83] := by decide
theorem tag3 : tagF [102, 114] = some [102, 114] := by decide
theorem ent1 : entE mrB = none := by decide
theorem ent2 : entE egB = none := by decide
theorem root_t : rootB.toList = [114, 111, 111, 116] := by rw [ByteArray.toList_eq]; rfl
theorem en_t : enB.toList = [101, 110] := by rw [ByteArray.toList_eq]; rfl
theorem fr_t : frB.toList = [102, 114] := by rw [ByteArray.toList_eq]; rfl
theorem us_t : usB.toList = [101, 110, 95, 85, 83] := by rw [ByteArray.toList_eq]; rfl
theorem no_t : noB.toList = [] := by rw [ByteArray.toList_eq]; rfl
theorem tagR : isTagB rootB = true := by decide
theorem tagE : isTagB enB = true := by decide
theorem rne : ¬ rootB = enB := by decide
theorem chk_k : chkE entE kB = none := by
  simp [chkE, kB, nEd, firstN, fSec, secE, hasL, root_t, en_t, no_t, tagR, tagE, ent1, ent2, rne, fE]
theorem sec_us : secOf kB usB = none := by decide
theorem sec_en : secOf kB enB = some ⟨enB, noB, [(false, egB)]⟩ := by rfl
theorem sec_fr : secOf kB frB = none := by decide
theorem cut_us : cutB usB = enB := by decide
theorem cut_en : cutB enB = rootB := by decide
theorem cut_fr : cutB frB = rootB := by decide
theorem par_us : parL kB usB = enB := by rw [parL, sec_us]; exact cut_us
theorem par_en : parL kB enB = rootB := by rw [parL, sec_en]; simp [no_t, cut_en]
theorem par_fr : parL kB frB = rootB := by rw [parL, sec_fr]; exact cut_fr
theorem con1 : Lib.containsS [usB] enB = false := by decide
theorem con2 : Lib.containsS [usB, enB] rootB = false := by decide
theorem con3 : Lib.containsS [frB] rootB = false := by decide
theorem chain_us (t : ByteArray) (h : tagF t.data.toList = some [101, 110, 95, 85, 83]) : chainF kB t = .ok [usB, enB, rootB] := by
  unfold chainF
  rw [chk_k, h]
  show chainGo kB 17 [usB] usB = _
  simp [chainGo, us_t, en_t, root_t, par_us, par_en, con1, con2]
theorem chain_fr (t : ByteArray) (h : tagF t.data.toList = some [102, 114]) : chainF kB t = .ok [frB, rootB] := by
  unfold chainF
  rw [chk_k, h]
  show chainGo kB 17 [frB] frB = _
  simp [chainGo, fr_t, root_t, par_fr, con3]
theorem sec_root : secOf kB rootB = some ⟨rootB, noB, [(true, mrB), (true, egB)]⟩ := by rfl
theorem eds_us : edsF kB [usB, enB, rootB] = [(true, mrB), (true, egB), (false, egB)] := by
  simp [edsF, edOf, sec_us, sec_en, sec_root]
theorem eds_fr : edsF kB [frB, rootB] = [(true, mrB), (true, egB)] := by
  simp [edsF, edOf, sec_fr, sec_root]
theorem mne : ¬ mrB = egB := by decide
theorem last_us (x : ByteArray) : lastE [(true, mrB), (true, egB), (false, egB)] x = some true ↔ x = mrB := by
  unfold lastE
  simp only [List.foldl_cons, List.foldl_nil]
  by_cases h1 : egB = x
  · subst h1
    have h3 : ¬ egB = mrB := fun e => mne e.symm
    simp [h3]
  · by_cases h2 : mrB = x
    · simp [h1, h2]
    · have h3 : ¬ x = mrB := fun e => h2 e.symm
      simp [h1, h2, h3]
theorem last_fr (x : ByteArray) : lastE [(true, mrB), (true, egB)] x = some true ↔ x = mrB ∨ x = egB := by
  unfold lastE
  simp only [List.foldl_cons, List.foldl_nil]
  by_cases h1 : egB = x
  · subst h1; simp
  · by_cases h2 : mrB = x
    · simp [h1, h2]
    · have h3 : ¬ x = mrB := fun e => h2 e.symm
      have h4 : ¬ x = egB := fun e => h1 e.symm
      simp [h1, h2, h3, h4]
theorem rising_nodup {l : List ByteArray} (h : Rising l) : l.Nodup := h.imp (fun {x y} hlt e => by subst e; exact absurd hlt (List.lt_irrefl _))
theorem rising_one {l : List ByteArray} {a : ByteArray} (h : Rising l) (hm : ∀ x, x ∈ l ↔ x = a) : l = [a] := by
  have hn := rising_nodup h
  have hp : l.Perm [a] := (List.perm_ext_iff_of_nodup hn (by simp)).2 (fun x => by rw [hm x]; simp)
  exact List.perm_singleton.1 hp
theorem rising_two {l : List ByteArray} {a b : ByteArray} (hab : ¬ a = b) (h : Rising l) (hm : ∀ x, x ∈ l ↔ x = a ∨ x = b) : l.length = 2 := by
  have hn := rising_nodup h
  have hp : l.Perm [a, b] := (List.perm_ext_iff_of_nodup hn (by simp [hab])).2 (fun x => by rw [hm x]; simp)
  exact hp.length_eq
end Go.Proofs.YtbdjnmbhphflbaaGreatDoor
namespace Go.Proofs.YtbdjnmbhphflbaaGreatDoor
open Go.RowKit Go.Shelf Go.Lib
/-- What the calls read besides. -/
structure Env (A : Nat → Addr) (w : World) : Prop where
  mx : Mx w
  tb : Tb w
  sq : SeqAt w
  se : Sents w A
theorem Env.below {A : Nat → Addr} {w w' : World} (h : Env A w) (hb : Below w.heap.size w w') : Env A w' := ⟨h.mx.below hb, h.tb.below hb, h.sq.later hb, h.se.below hb⟩
theorem bun_cell {W : World} {B : Nat} {x : Value} (h : W.heap[B]? = some (.cells #[x] 24 (0, 0))) : W.cell? ⟨B, 0, none⟩ = some x := by rw [cell_of_row _ _ _ _ _ _ h]; rfl
set_option maxRecDepth 10000 in
set_option maxHeartbeats 3200000 in
theorem localeChains_any (A : Nat → Addr) (L : List Sec) (a : Option Addr) (c : Nat) (t : ByteArray) (w : World) (hl : L.length ≤ 1000000) (hb : ∀ s ∈ L, s.ed.length ≤ 1000000000) (hz : ∀ s ∈ L, ∀ e ∈ s.ed, e.2.size ≤ 4194400) (hE : Env A w) (ha : XB w a L) :
    Calls Tryz.prog 6 #[.agg #[.slice a L.length c, .string t]] w fun e w' => e = .returned (.bool true) ∧ Below w.heap.size w w' := by
  obtain ⟨w0, hw0⟩ : ∃ w0, w0 = w.alloc (.cells #[.slice a L.length c, .string t] 47) := ⟨_, rfl⟩
  have hs0 : w0.heap.size = w.heap.size + 1 := by rw [hw0]; simp
  have hB0 : Below w.heap.size w w0 := by rw [hw0]; exact (Below.refl _ _).alloc (Nat.le_refl _) _
  have hX0 : w0.heap[w.heap.size]? = some (.cells #[.slice a L.length c, .string t] 47 (0, 0)) := by rw [hw0]; exact heap_alloc_new w _
  have HX : Hid (∀ W, Below w0.heap.size w0 W → W.cell? ⟨w.heap.size, 0, none⟩ = some (.slice a L.length c) ∧ W.cell? ⟨w.heap.size, 1, none⟩ = some (.string t)) := hid0 (fun W hW => by
    have hr := (hW.block w.heap.size (by omega)).trans hX0
    exact ⟨by rw [cell_of_row _ _ _ _ _ _ hr]; rfl, by rw [cell_of_row _ _ _ _ _ _ hr]; rfl⟩)
  obtain ⟨x0, x1⟩ := HX.out w0 (Below.refl _ _)
  have HE : Hid (∀ W, Below w0.heap.size w0 W → Env A W) := hid0 (fun W hW => (hE.below hB0).below hW)
  have HXA : Hid (∀ W, Below w0.heap.size w0 W → XA W a L) := hid0 (fun W hW => ((ha.later hB0).later hW).xa)
  have HO := hid0 (own_any L a c w0 hl hb (ha.later hB0))
  have HBD := hid0 hb
  have HZD := hid0 hz
  have HBC : Hid (∀ s ∈ L, s.ed.length ≤ 140737488355328) := hid0 (fun s hs => Nat.le_trans (hb s hs) (by decide))
  have HZC : Hid (∀ s ∈ L, ∀ e ∈ s.ed, e.2.size ≤ 140737488355328) := hid0 (fun s hs e he => Nat.le_trans (hz s hs e he) (by decide))
  have HR1 := hid0 (chainF_ok L t)
  have HB0 := hid0 hB0
  have HS0 := hid0 hs0
  have hfold := hw0.symm
  clear hw0 hs0 hB0 hX0 hE ha hb hz
  have M0 : Hid True := trivial
  go_enter Tryz.func6, Tryz.ntmps6
  go_wp2_with (first
    | (go_at_call 21; clear M0
       refine HO.out.mono ?_
       rintro e w1 ⟨g, cap, S, rfl, hcap, hS, hG, hb1⟩
       obtain ⟨y0, y1⟩ := HX.out w1 hb1
       obtain ⟨wk, hwk⟩ : ∃ wk, wk = w1.alloc (.cells #[.slice (some ⟨g, 0, none⟩) L.length cap] 24) := ⟨_, rfl⟩
       have c1 : (w1.alloc (.cells #[.slice (some ⟨g, 0, none⟩) L.length cap] 24)).cell? ⟨w.heap.size, 1, none⟩ = some (.string t) := cell_al y1 _
       have hbk : Below w0.heap.size w0 wk := by rw [hwk]; exact hb1.alloc hb1.size _
       have hsk : wk.heap.size = w1.heap.size + 1 := by rw [hwk]; simp
       have hXk : wk.heap[w1.heap.size]? = some (.cells #[.slice (some ⟨g, 0, none⟩) L.length cap] 24 (0, 0)) := by rw [hwk]; exact heap_alloc_new w1 _
       have HT : Hid (∀ W : World, W.heap[w1.heap.size]? = wk.heap[w1.heap.size]? → W.cell? ⟨w1.heap.size, 0, none⟩ = some (.slice (some ⟨g, 0, none⟩) L.length cap)) := hid0 (fun W hW => bun_cell (hW.trans hXk))
       have HG : Hid (Giv wk w0.heap.size (.slice (some ⟨g, 0, none⟩) (L.length + 64) cap) S 64) := hid0 (hG.keep (fun q _ hq => by rw [hwk]; exact Below.heap_alloc w1 _ q hq))
       have HGl : Hid (w0.heap.size ≤ g ∧ g < w1.heap.size) := hid0 ⟨(World.ownsRow.lt hG.row g rfl).1, (World.ownsRow.lt hG.row g rfl).2⟩
       have HS := hid0 hS
       have HSl : Hid (S.length = L.length) := hid0 (by have h := congrArg List.length hS; rw [List.length_map] at h; exact h)
       have HBK := hid0 hbk
       have HSK := hid0 hsk
       have HWK := hid0 hwk.symm
       have M1 : Hid True := trivial
       clear hG hS hb1 hwk hbk hsk hXk y0 y1)
    | (go_at_call 9; clear M1
       rw [HWK.out]
       have hE1 := HE.out wk HBK.out
       have hxa := HG.out.xa (by have := HSl.out; omega)
       rw [HS.out] at hxa
       refine (chain_any A L (some ⟨g, 0, none⟩) cap t wk (by omega) HBC.out HZC.out hE1.mx hE1.tb hE1.sq hE1.se hxa).mono ?_
       rintro e w2 ⟨hgo, hb2⟩
       obtain ⟨a1, k1, rfl, hs1⟩ := goChain_lst hgo
       obtain ⟨y0, y1⟩ := HX.out w2 (Below.later HBK.out hb2)
       have t0 := HT.out w2 (hb2.block _ (by have := HSK.out; omega))
       have HB2 := hid0 hb2
       have HS1 := hid0 hs1
       have M2 : Hid True := trivial
       clear hb2 hgo hs1 c1 x0 x1 hfold hE1 hxa)
    | (go_at_call 22; clear M2
       refine (refChain_any L a c t w2 hl HBD.out HZD.out (HXA.out w2 (Below.later HBK.out HB2.out))).mono ?_
       rintro e w3 ⟨hgo, hb3'⟩
       obtain ⟨a2, k2, rfl, hs2⟩ := refChain_lst hgo
       have hb3 := Below.later HB2.out hb3'
       obtain ⟨z0, z1⟩ := HX.out w3 (Below.later HBK.out hb3)
       have u0 := HT.out w3 (hb3.block _ (by have := HSK.out; omega))
       have HB3 := hid0 hb3
       have HS1' := hid0 (HS1.out.below hb3')
       have HS2 := hid0 hs2
       have M3 : Hid True := trivial
       clear hb3 hb3' hgo hs2 HB2 HS1 y0 y1 t0)
    | (go_at_call 12; clear M3
       refine (sameS (lstR (chainF L t)) a1 a2 k1 k2 w3 (by have := HR1.out.2; omega) HS1'.out HS2.out).mono ?_
       rintro e w4 ⟨rfl, n4, rfl⟩
       have hb4 : Below wk.heap.size wk (w3.drewN n4) := below_drew' HB3.out n4
       obtain ⟨y0, y1⟩ := HX.out _ (Below.later HBK.out hb4)
       have t0 := HT.out _ (hb4.block _ (by have := HSK.out; omega))
       have HB4 := hid0 hb4
       have M4 : Hid True := trivial
       clear hb4 HB3 HS1' HS2 z0 z1 u0)
    | (go_at_call 23; clear M4
       refine (kept_any L S a c g cap w0.heap.size (w3.drewN n4) hl HBD.out hcap HS.out (HG.out.keep (fun q _ hq => HB4.out.block q hq)) (HXA.out _ (Below.later HBK.out HB4.out))).mono ?_
       rintro e w5 ⟨rfl, hb5'⟩
       have hb5 := Below.later HB4.out hb5'
       obtain ⟨z0, z1⟩ := HX.out w5 (Below.later HBK.out hb5)
       have u0 := HT.out w5 (hb5.block _ (by have := HSK.out; omega))
       have HB5 := hid0 hb5
       have M5 : Hid True := trivial
       clear hb5 hb5' HB4 y0 y1 t0)
    | (go_at_call 14; clear M5
       refine (num_r (HE.out w5 (Below.later HBK.out HB5.out)).se (chainF L t) HR1.out.1).mono ?_
       rintro e w6 ⟨rfl, hw6⟩
       have hw6' := hw6.symm
       subst hw6'
       generalize numR (chainF L t) = nr at *
       have hnr : (nr != nr) = false := by simp
       have M6 : Hid True := trivial
       clear hw6))
  have HSt : Hid (S.map (·.s) = (L.take 0).map clr ++ L.drop 0) := hid0 (by rw [HS.out]; simp)
  have HG5 := hid0 (HG.out.keep (w' := w5) (fun q _ hq => HB5.out.block q hq))
  have HW5 := hid0 (Below.later HBK.out HB5.out)
  have HK5 : Hid (w5.heap[w1.heap.size]? = wk.heap[w1.heap.size]?) := hid0 (HB5.out.block _ (by have := HSK.out; omega))
  clear z0 z1 u0
  go_loopw [10] (fun i wr => ∃ (k : Nat) (S' : List SecAt), k ≤ L.length ∧ i = .int .i64 (k : Int) ∧ Hid (S'.map (·.s) = (L.take k).map clr ++ L.drop k) ∧ Hid (Giv wr w0.heap.size (.slice (some ⟨g, 0, none⟩) (L.length + 64) cap) S' 64) ∧ Hid (Below w0.heap.size w0 wr) ∧ Hid (wr.heap[w1.heap.size]? = wk.heap[w1.heap.size]?)) (fun i _ => L.length - (intOf i).toNat)
  case atStart => exact ⟨0, S, Nat.zero_le _, rfl, HSt, HG5, HW5, HK5⟩
  case round =>
    clear HSt HG5 HW5 HK5
    obtain ⟨k, S', hk, rfl, HSt, HGr, HWr, HKr⟩ := hrel
    have hSl : S'.length = L.length := by
      have h := congrArg List.length HSt.out
      simp only [List.length_map, List.length_append, List.length_take, List.length_drop] at h
      omega
    have t0 := HT.out wr HKr.out
    obtain ⟨z0, z1⟩ := HX.out wr HWr.out
    by_cases hlt : k < L.length
    · have hkI : (k : Int) < (L.length : Int) := by omega
      have hkI0 : (0 : Int) ≤ (k : Int) := by omega
      have hkS : k < S'.length := by omega
      obtain ⟨p0, p1⟩ := HGr.out.parCell (by omega) k hkS
      have HSN := hid0 (clr_step L k hlt S' HSt.out hkS)
      have HGN := hid0 (HGr.out.par (by omega) k hkS)
      have hgl := HGl.out
      have HWN : Hid (Below w0.heap.size w0 (wr.setCell ⟨g, k * 3 + 1, none⟩ (.string ⟨#[]⟩))) := hid0 (HWr.out.setCell hgl.1 _)
      have HKN : Hid ((wr.setCell ⟨g, k * 3 + 1, none⟩ (.string ⟨#[]⟩)).heap[w1.heap.size]? = wk.heap[w1.heap.size]?) := hid0 ((Below.heap_setCell wr _ _ w1.heap.size (by simp; omega)).trans HKr.out)
      clear hSl hgl HSt HGr HWr HKr z0 z1
      go_wp2
      go_roundw
      case rel => exact ⟨k + 1, _, by omega, by go_num, HSN, HGN, HWN, HKN⟩
      case measure => simp [intOf]; omega
    · have hkI : ¬ (k : Int) < (L.length : Int) := by omega
      have hS' : S'.map (·.s) = L.map clr := by
        have h := HSt.out
        rw [List.take_of_length_le (by omega), List.drop_eq_nil_of_le (by omega), List.append_nil] at h
        exact h
      have hxa := HGr.out.xa (by omega)
      rw [hS'] at hxa
      have HXr := hid0 hxa
      have HLm : Hid ((L.map clr).length = L.length) := hid0 (by simp)
      have HBD' : Hid (∀ s ∈ L.map clr, s.ed.length ≤ 1000000000) := hid0 (fun s hs => by obtain ⟨y, hy, rfl⟩ := List.mem_map.1 hs; exact HBD.out y hy)
      have HZD' : Hid (∀ s ∈ L.map clr, ∀ e ∈ s.ed, e.2.size ≤ 4194400) := hid0 (fun s hs => by obtain ⟨y, hy, rfl⟩ := List.mem_map.1 hs; exact HZD.out y hy)
      have HBC' : Hid (∀ s ∈ L.map clr, s.ed.length ≤ 140737488355328) := hid0 (fun s hs => by obtain ⟨y, hy, rfl⟩ := List.mem_map.1 hs; exact HBC.out y hy)
      have HZC' : Hid (∀ s ∈ L.map clr, ∀ e ∈ s.ed, e.2.size ≤ 140737488355328) := hid0 (fun s hs => by obtain ⟨y, hy, rfl⟩ := List.mem_map.1 hs; exact HZC.out y hy)
      have HR2 := hid0 (chainF_ok (L.map clr) t)
      have HC1 : Hid (Calls Tryz.prog 22 #[.agg #[.slice (some ⟨g, 0, none⟩) L.length cap], .string t] wr fun e w' => RefChain wr.heap.size w' (chainF (L.map clr) t) e ∧ Below wr.heap.size wr w') := hid0 (by
        have h := refChain_any (L.map clr) (some ⟨g, 0, none⟩) cap t wr (by rw [HLm.out]; exact hl) HBD'.out HZD'.out hxa
        rw [HLm.out] at h
        exact h)
      have HC2 : Hid (∀ W, Below wr.heap.size wr W → Calls Tryz.prog 9 #[.agg #[.slice (some ⟨g, 0, none⟩) L.length cap], .string t] W fun e w' => GoChain A W.heap.size w' (chainF (L.map clr) t) e ∧ Below W.heap.size W w') := hid0 (fun W hW => by
        have hE1 := HE.out W (Below.later HWr.out hW)
        have h := chain_any A (L.map clr) (some ⟨g, 0, none⟩) cap t W (by rw [HLm.out]; omega) HBC'.out HZC'.out hE1.mx hE1.tb hE1.sq hE1.se (HXr.out.later hW)
        rw [HLm.out] at h
        exact h)
      have HKl : Hid (w1.heap.size < wr.heap.size) := hid0 (World.block_lt_of_cell? wr _ t0)
      clear hS' hxa hSl HXr HSt HGr
      generalize chainF (L.map clr) t = r2 at *
      have M7 : Hid True := trivial
      go_wp2_with (first
        | (go_at_call 22; clear M7
           refine HC1.out.mono ?_
           rintro e w7 ⟨hgo, hb7⟩
           obtain ⟨a3, k3, rfl, hs3⟩ := refChain_lst hgo
           obtain ⟨y0, y1⟩ := HX.out w7 (Below.later HWr.out hb7)
           have u0 := HT.out w7 ((hb7.block _ HKl.out).trans HKr.out)
           have HB7 := hid0 hb7
           have HS3 := hid0 hs3
           have M8 : Hid True := trivial
           clear hb7 hgo hs3 z0 z1 t0)
        | (go_at_call 9; clear M8
           refine (HC2.out w7 HB7.out).mono ?_
           rintro e w8 ⟨hgo, hb8'⟩
           obtain ⟨a4, k4, rfl, hs4⟩ := goChain_lst hgo
           have hb8 := Below.later HB7.out hb8'
           have HB8 := hid0 hb8
           have HS3' := hid0 (HS3.out.below hb8')
           have HS4 := hid0 hs4
           have M9 : Hid True := trivial
           clear hb8 hb8' hgo hs4 HS3 y0 y1 u0)
        | (go_at_call 12; clear M9
           refine (sameS (lstR r2) a4 a3 k4 k3 w8 (by have := HR2.out.2; omega) HS4.out HS3'.out).mono ?_
           rintro e w9 ⟨rfl, n9, rfl⟩
           have HB9 := hid0 (below_drew' (Below.later HWr.out HB8.out) n9)
           have MA : Hid True := trivial
           clear HS4 HS3')
        | (go_at_call 14; clear MA
           refine (num_r (HE.out _ HB9.out).se r2 HR2.out.1).mono ?_
           rintro e wA ⟨rfl, hwA⟩
           have hwA' := hwA.symm
           subst hwA'
           generalize numR r2 = nr2 at *
           have hnr2 : (nr2 == nr2) = true := by simp
           have HBE := hid0 (Below.later HB0.out HB9.out)
           clear hwA))
      go_ret
      exact ⟨by simp, HBE.out⟩
end Go.Proofs.YtbdjnmbhphflbaaGreatDoor
namespace Go.Proofs.YtbdjnmbhphflbaaGreatDoor
open Go.RowKit Go.Shelf Go.Lib Go.Maps Go.Sort
theorem own_cell0 {w : World} {base : Nat} {v : Value} {x : ByteArray} {l : List ByteArray} (h : OwnS w base v (x :: l)) : ∃ g cap, v = .slice (some ⟨g, 0, none⟩) (x :: l).length cap ∧ w.cell? ⟨g, 0, none⟩ = some (.string x) ∧ g < w.heap.size := by
  obtain ⟨g, cap, rfl, _, hg, _⟩ := own_form h (by simp)
  exact ⟨g, cap, rfl, by rw [World.ownsRow.cellAt h 0 (by simp)]; rfl, hg⟩
theorem kB_ed : ∀ s ∈ kB, s.ed.length ≤ 1000000000 := by decide
theorem kB_sz : ∀ s ∈ kB, ∀ e ∈ s.ed, e.2.size ≤ 140737488355328 := by decide
theorem chain_k (A : Nat → Addr) (a : Option Addr) (w : World) (hE : Env A w) (ha : XA w a kB) :
    Calls Tryz.prog 9 #[.agg #[.slice a 2 2], .string ⟨#[69, 78, 45, 117, 115]⟩] w fun e w' => ∃ g cap, e = .returned (.tuple #[.slice (some ⟨g, 0, none⟩) 3 cap, .nilIface]) ∧ w'.cell? ⟨g, 0, none⟩ = some (.string ⟨#[101, 110, 95, 85, 83]⟩) ∧ Below w.heap.size w w' := by
  have h := chain_any A kB a 2 ⟨#[69, 78, 45, 117, 115]⟩ w (by decide) (fun s hs => Nat.le_trans (kB_ed s hs) (by decide)) kB_sz hE.mx hE.tb hE.sq hE.se ha
  rw [chain_us _ tag1] at h
  refine h.mono ?_
  rintro e w' ⟨⟨v, rfl, ho⟩, hb⟩
  obtain ⟨g, cap, rfl, hc, _⟩ := own_cell0 ho
  exact ⟨g, cap, rfl, hc, hb⟩
theorem res_k (A : Nat → Addr) (a : Option Addr) (w : World) (hE : Env A w) (ha : XA w a kB) :
    Calls Tryz.prog 10 #[.agg #[.slice a 2 2], .string ⟨#[101, 110, 45, 117, 115]⟩] w fun e w' => ∃ g cap, e = .returned (.tuple #[.slice (some ⟨g, 0, none⟩) 1 cap, .nilIface]) ∧ w'.cell? ⟨g, 0, none⟩ = some (.string ⟨#[77, 114, 46]⟩) ∧ Below w.heap.size w w' := by
  have h := resolve_any A kB a 2 ⟨#[101, 110, 45, 117, 115]⟩ w (by decide) (by decide) kB_ed kB_sz hE.mx hE.tb hE.sq hE.se ha
  refine h.mono ?_
  rintro e w' ⟨hg, hb⟩
  unfold GoResolve at hg
  rw [chain_us _ tag2] at hg
  obtain ⟨v, l, ho, hr, hm, rfl⟩ := hg
  rw [eds_us] at hm
  obtain rfl := rising_one hr (fun x => (hm x).trans (last_us x))
  obtain ⟨g, cap, rfl, hc, _⟩ := own_cell0 ho
  exact ⟨g, cap, rfl, hc, hb⟩
theorem res_f (A : Nat → Addr) (a : Option Addr) (w : World) (hE : Env A w) (ha : XA w a kB) :
    Calls Tryz.prog 10 #[.agg #[.slice a 2 2], .string ⟨#[102, 114]⟩] w fun e w' => ∃ b cap, e = .returned (.tuple #[.slice b 2 cap, .nilIface]) ∧ Below w.heap.size w w' := by
  have h := resolve_any A kB a 2 ⟨#[102, 114]⟩ w (by decide) (by decide) kB_ed kB_sz hE.mx hE.tb hE.sq hE.se ha
  refine h.mono ?_
  rintro e w' ⟨hg, hb⟩
  unfold GoResolve at hg
  rw [chain_fr _ tag3] at hg
  obtain ⟨v, l, ho, hr, hm, rfl⟩ := hg
  rw [eds_fr] at hm
  have hl := rising_two mne hr (fun x => (hm x).trans (last_fr x))
  obtain ⟨b, cap, rfl⟩ := own_slice ho
  rw [hl]
  exact ⟨b, cap, rfl, hb⟩
theorem xa_k {W : World} {n : Nat} (h0 : W.heap[n]? = some (.cells #[.bool true, .string ⟨#[77, 114, 46]⟩, .bool true, .string ⟨#[101, 46, 103, 46]⟩] 50 (0, 0))) (h1 : W.heap[n + 1]? = some (.cells #[.bool false, .string ⟨#[101, 46, 103, 46]⟩] 50 (0, 0)))
    (h2 : W.heap[n + 1 + 1]? = some (.cells #[.string ⟨#[114, 111, 111, 116]⟩, .string ⟨#[]⟩, .slice (some ⟨n, 0, none⟩) 2 2, .string ⟨#[101, 110]⟩, .string ⟨#[]⟩, .slice (some ⟨n + 1, 0, none⟩) 1 1] 27 (0, 0))) : XA W (some ⟨n + 1 + 1, 0, none⟩) kB := ⟨fun k hk => by
  have l0 := lt_of_row h0
  have l1 := lt_of_row h1
  have l2 := lt_of_row h2
  match k, hk with
  | 0, _ => exact ⟨n + 1 + 1, 0, some ⟨n, 0, none⟩, 2, rfl, l2, by rw [cell_of_row _ _ _ _ _ _ h2]; rfl, by rw [cell_of_row _ _ _ _ _ _ h2]; rfl, by rw [cell_of_row _ _ _ _ _ _ h2]; rfl, ⟨fun j hj => by
      match j, hj with
      | 0, _ => exact ⟨n, 0, rfl, l0, by rw [cell_of_row _ _ _ _ _ _ h0]; rfl, by rw [cell_of_row _ _ _ _ _ _ h0]; rfl⟩
      | 1, _ => exact ⟨n, 0, rfl, l0, by rw [cell_of_row _ _ _ _ _ _ h0]; rfl, by rw [cell_of_row _ _ _ _ _ _ h0]; rfl⟩⟩⟩
  | 1, _ => exact ⟨n + 1 + 1, 0, some ⟨n + 1, 0, none⟩, 1, rfl, l2, by rw [cell_of_row _ _ _ _ _ _ h2]; rfl, by rw [cell_of_row _ _ _ _ _ _ h2]; rfl, by rw [cell_of_row _ _ _ _ _ _ h2]; rfl, ⟨fun j hj => by
      match j, hj with
      | 0, _ => exact ⟨n + 1, 0, rfl, l1, by rw [cell_of_row _ _ _ _ _ _ h1]; rfl, by rw [cell_of_row _ _ _ _ _ _ h1]; rfl⟩⟩⟩⟩
set_option maxRecDepth 10000 in
set_option maxHeartbeats 1600000 in
theorem known_any (A : Nat → Addr) (w : World) (hE : Env A w) : Calls Tryz.prog 8 #[] w fun e w' => e = .returned (.bool true) ∧ Below w.heap.size w w' := by
  obtain ⟨wa, hwa⟩ : ∃ wa, wa = w.alloc (.cells #[.bool true, .string ⟨#[77, 114, 46]⟩, .bool true, .string ⟨#[101, 46, 103, 46]⟩] 50) := ⟨_, rfl⟩
  obtain ⟨wb, hwb⟩ : ∃ wb, wb = wa.alloc (.cells #[.bool false, .string ⟨#[101, 46, 103, 46]⟩] 50) := ⟨_, rfl⟩
  obtain ⟨wc, hwc⟩ : ∃ wc, wc = wb.alloc (.cells #[.string ⟨#[114, 111, 111, 116]⟩, .string ⟨#[]⟩, .slice (some ⟨w.heap.size, 0, none⟩) 2 2, .string ⟨#[101, 110]⟩, .string ⟨#[]⟩, .slice (some ⟨w.heap.size + 1, 0, none⟩) 1 1] 27) := ⟨_, rfl⟩
  obtain ⟨wK, hwK⟩ : ∃ wK, wK = wc.alloc (.cells #[.slice (some ⟨w.heap.size + 1 + 1, 0, none⟩) 2 2] 24) := ⟨_, rfl⟩
  have sa : wa.heap.size = w.heap.size + 1 := by rw [hwa]; simp
  have sb : wb.heap.size = w.heap.size + 1 + 1 := by rw [hwb]; simp [sa]
  have sc : wc.heap.size = w.heap.size + 1 + 1 + 1 := by rw [hwc]; simp [sb]
  have ba : Below w.heap.size w wa := by rw [hwa]; exact (Below.refl _ _).alloc (Nat.le_refl _) _
  have bab : Below wa.heap.size wa wb := by rw [hwb]; exact (Below.refl _ _).alloc (Nat.le_refl _) _
  have bbc : Below wb.heap.size wb wc := by rw [hwc]; exact (Below.refl _ _).alloc (Nat.le_refl _) _
  have bcK : Below wc.heap.size wc wK := by rw [hwK]; exact (Below.refl _ _).alloc (Nat.le_refl _) _
  have ra := heap_alloc_new w (.cells #[.bool true, .string ⟨#[77, 114, 46]⟩, .bool true, .string ⟨#[101, 46, 103, 46]⟩] 50)
  have rb := heap_alloc_new wa (.cells #[.bool false, .string ⟨#[101, 46, 103, 46]⟩] 50)
  have rc := heap_alloc_new wb (.cells #[.string ⟨#[114, 111, 111, 116]⟩, .string ⟨#[]⟩, .slice (some ⟨w.heap.size, 0, none⟩) 2 2, .string ⟨#[101, 110]⟩, .string ⟨#[]⟩, .slice (some ⟨w.heap.size + 1, 0, none⟩) 1 1] 27)
  have rK := heap_alloc_new wc (.cells #[.slice (some ⟨w.heap.size + 1 + 1, 0, none⟩) 2 2] 24)
  rw [← hwa] at ra
  rw [← hwb, sa] at rb
  rw [← hwc, sb] at rc
  rw [← hwK, sc] at rK
  have bcc := Below.later bbc bcK
  have bac := Below.later bab bcc
  have hBK := Below.later ba bac
  have hXA : XA wK (some ⟨w.heap.size + 1 + 1, 0, none⟩) kB := xa_k ((bac.block _ (by omega)).trans ra) ((bcc.block _ (by omega)).trans rb) ((bcK.block _ (by omega)).trans rc)
  have hEK := hE.below hBK
  have HF : Hid ((((w.alloc (.cells #[.bool true, .string ⟨#[77, 114, 46]⟩, .bool true, .string ⟨#[101, 46, 103, 46]⟩] 50)).alloc (.cells #[.bool false, .string ⟨#[101, 46, 103, 46]⟩] 50)).alloc (.cells #[.string ⟨#[114, 111, 111, 116]⟩, .string ⟨#[]⟩, .slice (some ⟨w.heap.size, 0, none⟩) 2 2, .string ⟨#[101, 110]⟩, .string ⟨#[]⟩, .slice (some ⟨w.heap.size + 1, 0, none⟩) 1 1] 27)).alloc (.cells #[.slice (some ⟨w.heap.size + 1 + 1, 0, none⟩) 2 2] 24) = wK) := hid0 (by rw [← hwa, ← hwb, ← hwc, ← hwK])
  have HC := hid0 (chain_k A _ wK hEK hXA)
  have HR1 : Hid (∀ W, Below wK.heap.size wK W → _) := hid0 (fun W hW => res_k A (some ⟨w.heap.size + 1 + 1, 0, none⟩) W (hEK.below hW) (hXA.later hW))
  have HR2 : Hid (∀ W, Below wK.heap.size wK W → _) := hid0 (fun W hW => res_f A (some ⟨w.heap.size + 1 + 1, 0, none⟩) W (hEK.below hW) (hXA.later hW))
  have HXK : Hid (∀ W, Below wK.heap.size wK W → W.cell? ⟨w.heap.size + 1 + 1 + 1, 0, none⟩ = some (.slice (some ⟨w.heap.size + 1 + 1, 0, none⟩) 2 2)) := hid0 (fun W hW => bun_cell ((hW.block _ (lt_of_row rK)).trans rK))
  have HBK := hid0 hBK
  clear hwa hwb hwc hwK sa sb sc ba bab bbc bcK ra rb rc rK bcc bac hBK hXA hEK hE
  have M0 : Hid True := trivial
  go_enter Tryz.func8, Tryz.ntmps8
  go_wp2_with (first
    | (go_at_call 9; clear M0; go_loud ((
         rw [HF.out]
         refine HC.out.mono ?_
         rintro e w5 ⟨g, cap, rfl, hc, hb5⟩
         have x0 := HXK.out w5 hb5
         have HC5 := hid0 hc
         have HB5 := hid0 hb5
         have M1 : Hid True := trivial
         clear hc hb5)))
    | (go_at_call 10; clear M1; go_loud ((
         refine (HR1.out w5 HB5.out).mono ?_
         rintro e w6 ⟨g2, cap2, rfl, hc2, hb6⟩
         have hb6' := Below.later HB5.out hb6
         have x1 := HXK.out w6 hb6'
         have HC6 : Hid (w6.cell? ⟨g, 0, none⟩ = some (.string ⟨#[101, 110, 95, 85, 83]⟩)) := hid0 ((hb6.cell (World.block_lt_of_cell? w5 _ HC5.out)).trans HC5.out)
         have HD6 := hid0 hc2
         have HB6 := hid0 hb6'
         have M2 : Hid True := trivial
         clear hc2 hb6 hb6' HC5 HB5 x0)))
    | (go_at_call 10; clear M2; go_loud ((
         refine (HR2.out w6 HB6.out).mono ?_
         rintro e w7 ⟨b3, cap3, rfl, hb7⟩
         have y0 : w7.cell? ⟨g, 0, none⟩ = some (.string ⟨#[101, 110, 95, 85, 83]⟩) := (hb7.cell (World.block_lt_of_cell? w6 _ HC6.out)).trans HC6.out
         have y1 : w7.cell? ⟨g2, 0, none⟩ = some (.string ⟨#[77, 114, 46]⟩) := (hb7.cell (World.block_lt_of_cell? w6 _ HD6.out)).trans HD6.out
         have HB7 := hid0 (Below.later HBK.out (Below.later HB6.out hb7))
         clear hb7 HC6 HD6 HB6 x1))))
  go_ret
  exact ⟨rfl, HB7.out⟩
end Go.Proofs.YtbdjnmbhphflbaaGreatDoor
