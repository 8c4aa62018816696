/-
  PlHW, PlIM, ExTk, PlIW, PlMM, PlFaM, PlNM, PlJW, PlNW, PlMpM, PlFbW, PlSW, PlTW, PlUW.
-/
import Derived.Test.YtlkgghbdgjomkaaDoorMua
import Derived.Deep.Cut
import Derived.Test.YtlkgghbdgjomkaaDoorProg
import Derived.WalkKit
import Derived.Deep.RegionHeld3
import Derived.BigRegion
import Derived.Maps.OwnSet
import Derived.Maps.OwnOps
import Derived.Laws.Bits64b
namespace Go.Proofs.YtlkgghbdgjomkaaDoor
open Go.RowKit Go.Shelf
/-- Numbers of no great size, each in its place. -/
structure Cnt (w : World) (base g n : Nat) (m : Int) (xs : List Int) : Prop where
  own : OwnI w base (.slice (some ⟨g, 0, none⟩) n n) xs
  len : xs.length = n
  lo : ∀ x ∈ xs, 0 ≤ x ∧ x ≤ m
theorem Cnt.put {w : World} {base g n : Nat} {m : Int} {xs : List Int} (h : Cnt w base g n m xs) (k : Nat) (hk : k < n) : ∃ z, w.cell? ⟨g, k, none⟩ = some (.int .i64 z) ∧ w.frozen? ⟨g, k, none⟩ = false ∧ 0 ≤ z ∧ z ≤ m ∧ ∃ ys, Cnt (w.setCell ⟨g, k, none⟩ (.int .i64 (z + 1))) base g n (m + 1) ys := by
  have hkx : k < xs.length := by rw [h.len]; exact hk
  have ho := h.own
  unfold OwnI at ho
  rw [h.len] at ho
  have hz := h.lo _ (List.getElem_mem hkx)
  refine ⟨xs[k], ?_, World.ownsRow.frozenAt ho k, hz.1, hz.2, xs.set k (xs[k] + 1), ?_, by rw [List.length_set]; exact h.len, ?_⟩
  · rw [World.ownsRow.cellAt ho k (by omega)]
    simp [hkx]
  · have h1 := (World.ownsRow.stored ho k (.int .i64 (xs[k] + 1))).1
    unfold OwnI
    rw [List.length_set, h.len, List.map_set]
    exact h1
  · intro x hx
    rcases List.mem_or_eq_of_mem_set hx with hx | rfl
    · have := h.lo x hx; omega
    · omega
theorem Cnt.past {w w' : World} {base g n : Nat} {m : Int} {xs : List Int} (h : Cnt w base g n m xs) (hb : Below w.heap.size w w') : Cnt w' base g n m xs := ⟨h.own.past hb, h.len, h.lo⟩
theorem Cnt.mono {w : World} {base g n : Nat} {m m' : Int} {xs : List Int} (h : Cnt w base g n m xs) (hm : m ≤ m') : Cnt w base g n m' xs := ⟨h.own, h.len, fun x hx => by have := h.lo x hx; omega⟩
theorem Cnt.away {w : World} {base g n : Nat} {m : Int} {xs : List Int} (h : Cnt w base g n m xs) {b k : Nat} (hb : g ≠ b) (u : Value) : Cnt (w.setCell ⟨b, k, none⟩ u) base g n m xs :=
  ⟨own_blk h.own (fun q hq => by
    have e : g = q := by simpa [Value.ownBlock] using hq
    subst e
    exact Below.heap_setCell w _ _ g hb), h.len, h.lo⟩
theorem Cnt.made {w : World} {base g n : Nat} (h : w.ownsRow base 3 1 (.slice (some ⟨g, 0, none⟩) n n) n (madeCells (Value.cells (.int .i64 0)) (n * 1)).toList) : Cnt w base g n 0 (List.replicate n 0) := by
  have e : (madeCells (Value.cells (.int .i64 0)) (n * 1)).toList = List.replicate n (.int .i64 0) := by
    have := toList_madeCells_one (.int .i64 0) (n * 1)
    rw [Nat.mul_one] at this ⊢
    exact this
  rw [e] at h
  refine ⟨?_, by simp, fun x hx => by rw [List.eq_of_mem_replicate hx]; omega⟩
  unfold OwnI
  rw [List.length_replicate, List.map_replicate]
  exact h
theorem Bag.grown {W w2 : World} {o : Obj} {base g n c : Nat} {ps : Lot} (h : Bag W base (.slice (some ⟨g, 0, none⟩) n c) ps) (hn : n = ps.length) (y : Nat) (hy : y < ps.length) {row : Option Nat} (hrow : row = (ps[y]).1.ownBlock) (hgrow : (W.alloc o).grownBy w2 row) :
    w2.cell? ⟨g, y, none⟩ = some (ps[y]).1 ∧ w2.frozen? ⟨g, y, none⟩ = false ∧ ∀ k, k < W.heap.size → (ps[y]).1.ownBlock ≠ some k → w2.heap[k]? = W.heap[k]? := by
  subst hn hrow
  have hb : ∀ k, k < W.heap.size → (ps[y]).1.ownBlock ≠ some k → w2.heap[k]? = W.heap[k]? := fun k hk hne => (hgrow.block k (by simp; omega) (fun e => hne e.symm)).trans (heap_alloc_old W o hk)
  have hgl := (World.ownsRow.lt h.outer g rfl).2
  have hne : (ps[y]).1.ownBlock ≠ some g := h.away _ (List.getElem_mem hy) g rfl
  have ho : w2.ownsRow base 23 1 (.slice (some ⟨g, 0, none⟩) ps.length c) ps.length (ps.map (·.1)) := own_blk h.outer (fun k hk => by
    have e : g = k := by simpa [Value.ownBlock] using hk
    subst e
    exact hb g hgl hne)
  refine ⟨?_, World.ownsRow.frozenAt ho y, hb⟩
  rw [World.ownsRow.cellAt ho y (by omega)]
  simp [hy]
theorem map_putT {ps : Lot} {x y : Nat} (hy : y < ps.length) {v : Value} : (ps.set y (v, (ps[y]).2 ++ [(x : Int)])).map (·.2) = putT x (ps.map (·.2)) (y : Int) := by
  unfold putT
  rw [List.map_set, Int.toNat_natCast, List.getD_eq_getElem?_getD, List.getElem?_map, List.getElem?_eq_getElem hy]
  rfl
set_option maxRecDepth 10000 in
set_option maxHeartbeats 3200000 in
theorem turned_any (Fo : List (List Int)) (a : Option Addr) (c : Nat) (w : World) (hl : Fo.length ≤ 4000000) (hr : ∀ r ∈ Fo, r.length ≤ 4000000) (hin : ∀ r ∈ Fo, ∀ y ∈ r, 0 ≤ y ∧ y < (Fo.length : Int)) (ha : RwA w a Fo) :
    Calls Tryd.prog 28 #[.slice a Fo.length c] w fun e w' => ∃ v, e = .returned v ∧ ∃ ps, Bag w' w.heap.size v ps ∧ ps.map (·.2) = turnL Fo ∧ Below w.heap.size w w' := by
  obtain ⟨i0, hi, hz0, hz1, hz2⟩ := info_parts infoInt
  obtain ⟨j0, hj, hy0, hy1, hy2⟩ := info_parts infoInts
  have HA := hid0 ha
  have HR := hid0 hr
  have HIn := hid0 hin
  have HSm := hid0 (fun k => sumL_le hr hl k)
  clear ha hr hin
  go_enter Tryd.func28, Tryd.ntmps28
  go_upto_region 3 with (at_make; refine wpList_make_full _ rfl _ _ 23 rfl w.heap.size 3 i0 (.int .i64 0) 1 Tryd.underlying23 hi hz0 hz1 .i64 .i64 _ _ Fo.length rfl rfl rfl rfl (by rw [hz2]; omega) (by unfold maxLen; omega) (Nat.le_refl _) ?_; intro w1 hown1 hgrow1; have HC1 := hid0 (Cnt.made hown1); have HB1 := hid0 ((Below.refl w.heap.size w).grown hgrow1 (Nat.le_refl _) (fun k hk => by cases hk)); have HZ1 := hid0 (World.ownsRow.lt hown1 w.heap.size rfl).2; clear hown1 hgrow1)
  go_loopw [20] (fun i wr => ∃ (k : Nat) (xs : List Int), k ≤ Fo.length ∧ i = .int .i64 (k : Int) ∧ Hid (Cnt wr w.heap.size w.heap.size Fo.length (sumL (Fo.take k) : Int) xs) ∧ Hid (Below w.heap.size w wr) ∧ Hid (w.heap.size < wr.heap.size)) (fun i _ => Fo.length - (intOf i).toNat)
  case atStart => exact ⟨0, _, Nat.zero_le _, rfl, HC1, HB1, HZ1⟩
  case round =>
    clear HC1 HB1 HZ1
    obtain ⟨k, xs, hk, rfl, HC, HB, HZ⟩ := hrel
    have hsk := HSm.out k
    by_cases hlt : k < Fo.length
    · obtain ⟨b, off, rfl, _, a1, c1, d1, i1⟩ := (HA.out.past HB.out).at' k hlt
      have hkI : (k : Int) < (Fo.length : Int) := by omega
      have hkI0 : (0 : Int) ≤ (k : Int) := by omega
      have hrl := HR.out _ (List.getElem_mem hlt)
      have HInk := hid0 (HIn.out _ (List.getElem_mem hlt))
      have HTk := hid0 (sumL_take hlt)
      have HIk : Hid (∀ W, Below w.heap.size w W → IA W a1 Fo[k]) := hid0 (fun W hW => by
        obtain ⟨b', off', e', _, a1', c1', d1', i1'⟩ := (HA.out.past hW).at' k hlt
        obtain ⟨b2, off2, e2, hb2, a12, c12, d12, _⟩ := HA.out.at' k hlt
        cases e'
        cases e2
        have q1 := (hW.cell (p := ⟨b, off + k, none⟩) hb2).trans d12
        have q2 := (HB.out.cell (p := ⟨b, off + k, none⟩) hb2).trans d12
        rw [q1] at d1'
        rw [q2] at d1
        simp only [Option.some.injEq, Value.slice.injEq] at d1 d1'
        rw [← d1.1, d1'.1]
        exact i1')
      clear i1
      generalize Fo[k] = r at *
      generalize sumL (Fo.take k) = m at *
      go_wp2
      go_loopw [26] (fun i w2 => ∃ (q : Nat) (xs : List Int), q ≤ r.length ∧ i = .int .i64 (q : Int) ∧ Hid (Cnt w2 w.heap.size w.heap.size Fo.length ((m : Int) + (q : Int)) xs) ∧ Hid (Below w.heap.size w w2) ∧ Hid (w.heap.size < w2.heap.size)) (fun i _ => r.length - (intOf i).toNat)
      case atStart => exact ⟨0, xs, Nat.zero_le _, rfl, hid0 (HC.out.mono (by omega)), HB, HZ⟩
      case round =>
        clear HC HB HZ
        obtain ⟨q, xs, hq, rfl, HC, HB, HZ⟩ := hrel
        by_cases hql : q < r.length
        · obtain ⟨b2, off2, rfl, _, d2⟩ := (HIk.out _ HB.out).at' q hql
          have hqI : (q : Int) < (r.length : Int) := by omega
          have hqI0 : (0 : Int) ≤ (q : Int) := by omega
          have hy := HInk.out _ (List.getElem_mem hql)
          generalize r[q] = y at *
          obtain ⟨yn, rfl⟩ : ∃ yn : Nat, y = (yn : Int) := ⟨y.toNat, by omega⟩
          have hyn : yn < Fo.length := by omega
          obtain ⟨z, e1, e2, z0, z1, ys, hc⟩ := HC.out.put yn hyn
          have HC2 := hid0 hc
          have HB2 := hid0 (HB.out.setCell (p := ⟨w.heap.size, yn, none⟩) (Nat.le_refl _) (.int .i64 (z + 1)))
          have HZ2 : Hid (w.heap.size < (wr.setCell ⟨w.heap.size, yn, none⟩ (.int .i64 (z + 1))).heap.size) := hid0 (by have := HZ.out; simpa using this)
          have hyI1 : (yn : Int) < (Fo.length : Int) := by omega
          have hyI0 : (0 : Int) ≤ (yn : Int) := by omega
          clear hc HC HB HZ hy
          go_wp2
          go_roundw
          case rel => exact ⟨q + 1, ys, by omega, by go_num, hid0 (HC2.out.mono (by omega)), HB2, HZ2⟩
          case measure => simp [intOf]; omega
        · have hqI : ¬ (q : Int) < (r.length : Int) := by omega
          have HC2 : Hid (Cnt wr w.heap.size w.heap.size Fo.length (sumL (Fo.take (k + 1)) : Int) xs) := hid0 (HC.out.mono (by rw [HTk.out]; omega))
          clear HC
          go_wp2
          go_roundw
          case rel => exact ⟨k + 1, xs, by omega, by go_num, HC2, HB, HZ⟩
          case measure => simp [intOf]; omega
    · have hkI : ¬ (k : Int) < (Fo.length : Int) := by omega
      have HC2 := hid0 (HC.out.mono (m' := 16000000000000) (by omega))
      clear HC hsk
      go_upto_region 13 with (at_make; refine wpList_make_full _ rfl _ _ 22 rfl wr.heap.size 23 j0 (.slice none 0 0) 1 Tryd.underlying22 hj hy0 hy1 .i64 .i64 _ _ Fo.length rfl rfl rfl rfl (by rw [hy2]; omega) (by unfold maxLen; omega) (Nat.le_refl _) ?_; intro w1 hown1 hgrow1; have HBg := hid0 (Bag.make hown1); have hb1 := (Below.refl wr.heap.size wr).grown hgrow1 (Nat.le_refl _) (fun k hk => by cases hk); have HC3 := hid0 (HC2.out.past hb1); have HB3 := hid0 (HB.out.trans (hb1.mono HB.out.size)); clear hown1 hgrow1 hb1)
      obtain ⟨G, hG⟩ : ∃ G, G = wr.heap.size := ⟨_, rfl⟩
      have HGw : Hid (w.heap.size < G) := hid0 (by have := HZ.out; omega)
      rw [← hG] at HBg
      rw [← hG]
      clear HC2 HB HZ hG
      go_loopw [43] (fun i w2 => ∃ (q : Nat) (ps : Lot), q ≤ Fo.length ∧ i = .int .i64 (q : Int) ∧ Hid (Cnt w2 w.heap.size w.heap.size Fo.length 16000000000000 xs) ∧ Hid (Bag w2 G (.slice (some ⟨G, 0, none⟩) Fo.length Fo.length) ps) ∧ Hid (ps.length = Fo.length) ∧ Hid (ps.map (·.2) = List.replicate Fo.length []) ∧ Hid (Below w.heap.size w w2)) (fun i _ => Fo.length - (intOf i).toNat)
      case atStart => exact ⟨0, _, Nat.zero_le _, rfl, HC3, HBg, hid0 (by simp), hid0 (by simp), HB3⟩
      case round =>
        clear HC3 HBg HB3
        obtain ⟨q, ps, hq, rfl, HC, HBg, HPl, HPm, HB⟩ := hrel
        have hbs := HB.out.size
        have hGs := (World.ownsRow.lt HBg.out.outer G rfl).2
        by_cases hql : q < Fo.length
        · have hqI : (q : Int) < (Fo.length : Int) := by omega
          have hqI0 : (0 : Int) ≤ (q : Int) := by omega
          obtain ⟨z, e1, e2, z0, z1, _⟩ := HC.out.put q hql
          obtain ⟨zn, rfl⟩ : ∃ zn : Nat, z = (zn : Int) := ⟨z.toNat, by omega⟩
          have hqp : q < ps.length := by rw [HPl.out]; exact hql
          have HRep : Hid ((List.replicate Fo.length ([] : List Int)).set q [] = List.replicate Fo.length []) := hid0 (by
            apply List.ext_getElem
            · simp
            · intro j h1 h2
              rw [List.getElem_set]
              split <;> simp)
          go_wp2_with (at_make; refine wpList_make_own _ rfl _ _ 23 rfl wr.heap.size 3 i0 (.int .i64 0) 1 Tryd.underlying23 hi hz0 hz1 .i64 .i64 _ zn rfl rfl rfl (by rw [hz2]; omega) (by unfold maxLen; omega) (Nat.le_refl _) ?_; intro w2 hown2 hgrow2; have hb2 := (Below.refl wr.heap.size wr).grown hgrow2 (Nat.le_refl _) (fun k hk => by cases hk); have hov : OwnI w2 wr.heap.size (.slice (some ⟨wr.heap.size, 0, none⟩) 0 zn) [] := hown2; have hbg := HBg.out.set (w1 := w2) HPl.out.symm q hqp (fun k' hk' _ => hb2.block k' hk') (owns_lower hov (by omega)) (fun k' hk' => .inr (World.ownsRow.lt hov k' hk').1); obtain ⟨cc, ff⟩ := (HBg.out.later hb2).cells HPl.out.symm q hqp; have HBg2 := hid0 hbg; have HC2 := hid0 ((HC.out.past hb2).away (b := G) (k := q) (by have := HGw.out; omega) (.slice (some ⟨wr.heap.size, 0, none⟩) 0 zn)); have HB2 := hid0 ((HB.out.trans (hb2.mono hbs)).setCell (p := ⟨G, q, none⟩) (by have := HGw.out; show w.heap.size ≤ G; omega) (.slice (some ⟨wr.heap.size, 0, none⟩) 0 zn)); clear hown2 hgrow2 hb2 hov hbg)
          have HPl2 : Hid ((ps.set q (Value.slice (some ⟨wr.heap.size, 0, none⟩) 0 zn, ([] : List Int))).length = Fo.length) := hid0 (by rw [List.length_set]; exact HPl.out)
          have HPm2 : Hid ((ps.set q (Value.slice (some ⟨wr.heap.size, 0, none⟩) 0 zn, ([] : List Int))).map (·.2) = List.replicate Fo.length []) := hid0 (by rw [List.map_set, HPm.out]; exact HRep.out)
          clear HBg HPl HPm HB HRep HC
          go_roundw
          case rel => exact ⟨q + 1, _, by omega, by go_num, HC2, HBg2, HPl2, HPm2, HB2⟩
          case measure => simp [intOf]; omega
        · have hqI : ¬ (q : Int) < (Fo.length : Int) := by omega
          have HT0 : Hid (turnA 0 (Fo.drop 0) (ps.map (·.2)) = turnL Fo) := hid0 (by rw [HPm.out]; rfl)
          have HSm0 : Hid (∀ x ∈ ps, x.2.length ≤ sumL (Fo.take 0)) := hid0 (fun x hx => by
            have h1 : x.2 ∈ ps.map (·.2) := List.mem_map_of_mem (f := fun x : Value × List Int => x.2) hx
            rw [HPm.out] at h1
            rw [List.eq_of_mem_replicate h1]
            simp)
          clear HPm HC
          go_wp2
          go_loopw [56] (fun i w2 => ∃ (k : Nat) (ps : Lot), k ≤ Fo.length ∧ i = .int .i64 (k : Int) ∧ Hid (Bag w2 G (.slice (some ⟨G, 0, none⟩) Fo.length Fo.length) ps) ∧ Hid (ps.length = Fo.length) ∧ Hid (turnA k (Fo.drop k) (ps.map (·.2)) = turnL Fo) ∧ Hid (∀ x ∈ ps, x.2.length ≤ sumL (Fo.take k)) ∧ Hid (Below w.heap.size w w2)) (fun i _ => Fo.length - (intOf i).toNat)
          case atStart => exact ⟨0, ps, Nat.zero_le _, rfl, HBg, HPl, HT0, HSm0, HB⟩
          case round =>
            clear HBg HPl HT0 HSm0 HB hbs hGs hkI
            obtain ⟨k, ps, hk, rfl, HBg, HPl, HT, HSz, HB⟩ := hrel
            have hsk := HSm.out k
            by_cases hlt : k < Fo.length
            · obtain ⟨b, off, rfl, _, a1, c1, d1, i1⟩ := (HA.out.past HB.out).at' k hlt
              have hkI : (k : Int) < (Fo.length : Int) := by omega
              have hkI0 : (0 : Int) ≤ (k : Int) := by omega
              have hrl := HR.out _ (List.getElem_mem hlt)
              have HInk := hid0 (HIn.out _ (List.getElem_mem hlt))
              have HTk := hid0 (sumL_take hlt)
              have HTD := hid0 (fun T => turnA_drop (T := T) hlt)
              have HIk : Hid (∀ W, Below w.heap.size w W → IA W a1 Fo[k]) := hid0 (fun W hW => by
                obtain ⟨b', off', e', _, a1', c1', d1', i1'⟩ := (HA.out.past hW).at' k hlt
                obtain ⟨b2, off2, e2, hb2, a12, c12, d12, _⟩ := HA.out.at' k hlt
                cases e'
                cases e2
                have q1 := (hW.cell (p := ⟨b, off + k, none⟩) hb2).trans d12
                have q2 := (HB.out.cell (p := ⟨b, off + k, none⟩) hb2).trans d12
                rw [q1] at d1'
                rw [q2] at d1
                simp only [Option.some.injEq, Value.slice.injEq] at d1 d1'
                rw [← d1.1, d1'.1]
                exact i1')
              clear i1
              generalize Fo[k] = r at *
              generalize sumL (Fo.take k) = m at *
              have HT1 : Hid (turnA (k + 1) (Fo.drop (k + 1)) ((r.drop 0).foldl (putT k) (ps.map (·.2))) = turnL Fo) := hid0 (by rw [← HT.out, HTD.out]; rfl)
              have HSz1 : Hid (∀ x ∈ ps, x.2.length ≤ m + 0) := HSz
              clear HT HTD HSz
              go_wp2
              go_loopw [63] (fun i w2 => ∃ (q : Nat) (ps : Lot), q ≤ r.length ∧ i = .int .i64 (q : Int) ∧ Hid (Bag w2 G (.slice (some ⟨G, 0, none⟩) Fo.length Fo.length) ps) ∧ Hid (ps.length = Fo.length) ∧ Hid (turnA (k + 1) (Fo.drop (k + 1)) ((r.drop q).foldl (putT k) (ps.map (·.2))) = turnL Fo) ∧ Hid (∀ x ∈ ps, x.2.length ≤ m + q) ∧ Hid (Below w.heap.size w w2)) (fun i _ => r.length - (intOf i).toNat)
              case atStart => exact ⟨0, ps, Nat.zero_le _, rfl, HBg, HPl, HT1, HSz1, HB⟩
              case round =>
                clear HBg HPl HT1 HSz1 HB
                obtain ⟨q, ps, hq, rfl, HBg, HPl, HT, HSz, HB⟩ := hrel
                by_cases hql : q < r.length
                · obtain ⟨b2, off2, rfl, _, d2⟩ := (HIk.out _ HB.out).at' q hql
                  have hqI : (q : Int) < (r.length : Int) := by omega
                  have hqI0 : (0 : Int) ≤ (q : Int) := by omega
                  have hy := HInk.out _ (List.getElem_mem hql)
                  have HFD := hid0 (fun T => fold_drop (x := k) (T := T) hql)
                  generalize r[q] = y at *
                  obtain ⟨yn, rfl⟩ : ∃ yn : Nat, y = (yn : Int) := ⟨y.toNat, by omega⟩
                  have hyn : yn < ps.length := by rw [HPl.out]; omega
                  have hyI1 : (yn : Int) < (Fo.length : Int) := by omega
                  have hyI0 : (0 : Int) ≤ (yn : Int) := by omega
                  obtain ⟨cc, ff⟩ := HBg.out.cells HPl.out.symm yn hyn
                  have hro := HBg.out.row _ (List.getElem_mem hyn)
                  have hszy := HSz.out _ (List.getElem_mem hyn)
                  obtain ⟨av, cv, ev, _⟩ := hro.ia
                  have HMP := hid0 (fun v => map_putT (x := k) hyn (v := v))
                  have HGr := hid0 (fun (w2 : World) (o : Obj) (row : Option Nat) hrow hgrow => HBg.out.grown (w2 := w2) (o := o) (row := row) HPl.out.symm yn hyn hrow hgrow)
                  have HSet := hid0 (fun (w1 : World) (v' : Value) (l' : List Int) hk hv hnew => HBg.out.set (w1 := w1) (v' := v') (l' := l') HPl.out.symm yn hyn hk hv hnew)
                  have HRo := hid0 hro
                  rw [ev] at cc HRo HSet HGr
                  have hGs := (World.ownsRow.lt HBg.out.outer G rfl).2
                  have HMem : Hid (∀ (v' : Value), ∀ x ∈ ps.set yn (v', (ps[yn]).2 ++ [(k : Int)]), x.2.length ≤ m + (q + 1)) := hid0 (fun v' x hx => by
                    rcases List.mem_or_eq_of_mem_set hx with hx | rfl
                    · have := HSz.out x hx; omega
                    · simp; omega)
                  have hbs := HB.out.size
                  clear hro ev hy
                  generalize (ps[yn]).2 = T at *
                  go_wp2_with (at_builtin; go_loud ((
                    refine wpList_append_own_at _ rfl _ _ 23 rfl G 3 i0 (.int .i64 0) 1 8 Tryd.underlying23 hi hz0 hz1 hz2 rfl (by decide) _ T.length (T.map (Value.int .i64)) rfl (World.ownsRow.alloc HRo.out _) ⟨wr.heap.size, 0, none⟩ 1 1 [.int .i64 (k : Int)] rfl rfl (cell_one_new _ _ _) (by simp [Value.oneCell']) (by unfold maxLen; omega) (by omega) (by simp; omega) ?_
                    intro v2 w2 hown2 hgrow2 _ hat2
                    obtain ⟨cc2, ff2, hk2⟩ := HGr.out w2 _ _ rfl hgrow2
                    have hov : OwnI w2 G v2 (T ++ [(k : Int)]) := by { unfold OwnI; rw [List.length_append, List.map_append]; exact hown2 }
                    have hbg := HSet.out w2 v2 (T ++ [(k : Int)]) hk2 hov (fun q' hq' => hat2.elim (fun h => .inl (h.symm.trans hq')) (fun h => .inr (by have e := Option.some.inj (h.symm.trans hq'); simp at e; omega)))
                    have HBg2 := hid0 hbg
                    have hb2 : Below G wr w2 := ((Below.refl G wr).alloc (by omega) _).grown hgrow2 (by simp; omega) (fun k' hk' => (World.ownsRow.lt HRo.out k' hk').1)
                    have HB2 := hid0 ((HB.out.trans (hb2.mono (by have := HGw.out; omega))).setCell (p := ⟨G, yn, none⟩) (by have := HGw.out; show w.heap.size ≤ G; omega) v2)
                    obtain ⟨av2, cv2, ev2, _⟩ := hov.ia
                    rw [List.length_append, List.length_singleton] at ev2
                    subst ev2
                    clear hown2 hgrow2 hat2 hov hbg hb2 hk2)))
                  have HPl2 : Hid ((ps.set yn (Value.slice av2 (T.length + 1) cv2, T ++ [(k : Int)])).length = Fo.length) := hid0 (by rw [List.length_set]; exact HPl.out)
                  have HT2 : Hid (turnA (k + 1) (Fo.drop (k + 1)) ((r.drop (q + 1)).foldl (putT k) ((ps.set yn (Value.slice av2 (T.length + 1) cv2, T ++ [(k : Int)])).map (·.2))) = turnL Fo) := hid0 (by rw [HMP.out, ← HFD.out]; exact HT.out)
                  have HSz2 := hid0 (HMem.out (Value.slice av2 (T.length + 1) cv2))
                  clear HBg HPl HT HSz HB HMem HMP HFD HSet HGr HRo
                  go_roundw
                  case rel => exact ⟨q + 1, _, by omega, by go_num, HBg2, HPl2, HT2, HSz2, HB2⟩
                  case measure => simp [intOf]; omega
                · have hqI : ¬ (q : Int) < (r.length : Int) := by omega
                  have HT2 : Hid (turnA (k + 1) (Fo.drop (k + 1)) (ps.map (·.2)) = turnL Fo) := hid0 (by rw [← HT.out, List.drop_of_length_le (l := r) (by omega)]; rfl)
                  have HSz2 : Hid (∀ x ∈ ps, x.2.length ≤ sumL (Fo.take (k + 1))) := hid0 (fun x hx => by have := HSz.out x hx; rw [HTk.out]; omega)
                  clear HT HSz
                  go_wp2
                  go_roundw
                  case rel => exact ⟨k + 1, ps, by omega, by go_num, HBg, HPl, HT2, HSz2, HB⟩
                  case measure => simp [intOf]; omega
            · have hkI : ¬ (k : Int) < (Fo.length : Int) := by omega
              have HE : Hid (ps.map (·.2) = turnL Fo) := hid0 (by rw [← HT.out, turnA_end (by omega)])
              have HBl : Hid (Bag wr w.heap.size (.slice (some ⟨G, 0, none⟩) Fo.length Fo.length) ps) := hid0 ⟨owns_lower HBg.out.outer (by have := HGw.out; omega), fun x hx => owns_lower (HBg.out.row x hx) (by have := HGw.out; omega), HBg.out.apart, HBg.out.away⟩
              clear HT
              go_wp2
              go_ret
              exact ⟨_, rfl, ps, HBl.out, HE.out, HB.out⟩
end Go.Proofs.YtlkgghbdgjomkaaDoor
namespace Go.Proofs.YtlkgghbdgjomkaaDoor
open Go.RowKit Go.Shelf
/-- Positions in memory, in blocks from lo on. -/
structure PosQ (w : World) (lo : Nat) (aL aF aA aO : Option Addr) (Le Fo : List (List Int)) (Fi La : List Int) : Prop where
  le : RwQ w lo aL Le
  fi : IQ w lo aF Fi
  la : IQ w lo aA La
  fo : RwQ w lo aO Fo
theorem PosQ.keep {w w' : World} {lo : Nat} {aL aF aA aO : Option Addr} {Le Fo : List (List Int)} {Fi La : List Int} (h : PosQ w lo aL aF aA aO Le Fo Fi La) (hs : w.heap.size ≤ w'.heap.size) (hk : ∀ k, lo ≤ k → k < w.heap.size → w'.heap[k]? = w.heap[k]?) : PosQ w' lo aL aF aA aO Le Fo Fi La :=
  ⟨h.le.keep hs hk, h.fi.keep hs hk, h.la.keep hs hk, h.fo.keep hs hk⟩
theorem PosQ.past {w w' : World} {lo : Nat} {aL aF aA aO : Option Addr} {Le Fo : List (List Int)} {Fi La : List Int} (h : PosQ w lo aL aF aA aO Le Fo Fi La) (hb : Below w.heap.size w w') : PosQ w' lo aL aF aA aO Le Fo Fi La := h.keep hb.size (fun k _ hk => hb.block k hk)
/-- What positions turned round are. -/
structure Pos where
  le : List (List Int)
  fi : List Int
  la : List Int
  fo : List (List Int)
  em : Bool
def revP (Le Fo : List (List Int)) (Fi La : List Int) (em : Bool) : Pos := if decide (Fo.length = Le.length) && plRise Le.length Fi La Fo then ⟨Le, La, Fi, turnL Fo, em⟩ else ⟨[], [], [], [], false⟩
/-- Positions are answered, in new memory. -/
def RevR (w : World) (p : Pos) (r : Ending) (w' : World) : Prop := ∃ aL aF aA aO cL cF cA cO, r = .returned (posV aL aF aA aO cL cF cA cO p.le p.fo p.fi p.la p.em) ∧ PosQ w' w.heap.size aL aF aA aO p.le p.fo p.fi p.la ∧ Below w.heap.size w w'
theorem RevR.zero {w w' : World} (hb : Below w.heap.size w w') : RevR w ⟨[], [], [], [], false⟩ (.returned (.agg #[.slice none 0 0, .slice none 0 0, .slice none 0 0, .slice none 0 0, .bool false])) w' :=
  ⟨none, none, none, none, 0, 0, 0, 0, rfl, ⟨⟨fun _ hk => absurd hk (Nat.not_lt_zero _)⟩, ⟨fun _ hk => absurd hk (Nat.not_lt_zero _)⟩, ⟨fun _ hk => absurd hk (Nat.not_lt_zero _)⟩, ⟨fun _ hk => absurd hk (Nat.not_lt_zero _)⟩⟩, hb⟩
theorem rise_in {n : Int} : ∀ (L : List Int) (lo : Int), 0 ≤ lo → riseF n lo L = true → ∀ y ∈ L, 0 ≤ y ∧ y < n
  | [], _, _, _, y, hy => by cases hy
  | z :: L, lo, hlo, h, y, hy => by
    rw [riseF] at h
    simp only [Bool.and_eq_true, decide_eq_true_eq] at h
    rcases List.mem_cons.1 hy with rfl | hy
    · omega
    · exact rise_in L (z + 1) (by omega) h.2 y hy
theorem plRise_in {n : Nat} {Fi La : List Int} {Fo : List (List Int)} (h : plRise n Fi La Fo = true) : ∀ r ∈ Fo, ∀ y ∈ r, 0 ≤ y ∧ y < (n : Int) := by
  unfold plRise riseA at h
  simp only [Bool.and_eq_true, List.all_eq_true] at h
  intro r hr y hy
  exact rise_in r 0 (Int.le_refl _) (h.2 r hr) y hy
theorem OwnI.lower {w : World} {b lo : Nat} {v : Value} {L : List Int} (h : OwnI w b v L) (hb : lo ≤ b) : OwnI w lo v L := owns_lower h hb
theorem Bag.lower {w : World} {b lo : Nat} {v : Value} {ps : Lot} (h : Bag w b v ps) (hb : lo ≤ b) : Bag w lo v ps := ⟨owns_lower h.outer hb, fun x hx => owns_lower (h.row x hx) hb, h.apart, h.away⟩
theorem Bag.rwq' {w : World} {b lo : Nat} {v : Value} {ps : Lot} {L : List (List Int)} (h : Bag w b v ps) (hm : ps.map (·.2) = L) (hb : lo ≤ b) : ∃ a c, v = .slice a L.length c ∧ RwQ w lo a L := by
  have := (h.lower hb).rwq
  rw [hm] at this
  exact this
end Go.Proofs.YtlkgghbdgjomkaaDoor
namespace Go.Proofs.YtlkgghbdgjomkaaDoor
open Go.RowKit
section
variable {P : Program} {ops : Array Oper} {Q : Exit → Act → World → Prop} {md : Region.Mode} {S : World → Prop}
/-- An operation that yields a value is taken first. -/
theorem tkV {i : Nat} {oi : Oper} {d : Option Tmp} {v : Value} {fuel : Nat} {listed : Array Bool} {a : Act} {w : World} (hi : ops[i]? = some oi)
    (hs : Region.noSelect ops = true) (hf : Region.free md ops listed i = true) (hr : (Region.ready md ops listed).contains i = true) (hd : oi.dst = d)
    (hQ : ∀ c a w, Q (.panic c) (a.put d v) w → Q (.panic c) a w) (hw : Region.wanted oi (yielded ops a.tmps) = true) (hv : ∀ w, S w → (execOp a.eval oi).run P w = .ok (.value v) w) (hS : S w)
    (h : wpAnyH P md ops Q S fuel (listed.setIfInBounds i true) (a.put d v) w) : wpAnyH P md ops Q S (fuel + 1) listed a w := by
  subst hd
  exact wpAnyH_take hi hs hf hr hQ (.inl ⟨hw, hv⟩) hS h
/-- One that is not wanted. -/
theorem tkU {i : Nat} {oi : Oper} {d : Option Tmp} {fuel : Nat} {listed : Array Bool} {a : Act} {w : World} (hi : ops[i]? = some oi)
    (hs : Region.noSelect ops = true) (hf : Region.free md ops listed i = true) (hr : (Region.ready md ops listed).contains i = true) (hd : oi.dst = d)
    (hQ : ∀ c a w, Q (.panic c) (a.put d undef) w → Q (.panic c) a w) (hw : Region.wanted oi (yielded ops a.tmps) = false) (hS : S w)
    (h : wpAnyH P md ops Q S fuel (listed.setIfInBounds i true) (a.put d undef) w) : wpAnyH P md ops Q S (fuel + 1) listed a w := by
  subst hd
  exact wpAnyH_take hi hs hf hr hQ (.inr ⟨hw, rfl⟩) hS h
end
end Go.Proofs.YtlkgghbdgjomkaaDoor
namespace Go.Proofs.YtlkgghbdgjomkaaDoor
open Go.RowKit Go.Shelf
theorem frz5 {W : World} {X : Nat} {t : TypeId} {a b c d e : Value} (h : W.heap[X]? = some (.cells #[a, b, c, d, e] t (0, 0))) : W.frozen? ⟨X, 0, none⟩ = false ∧ W.frozen? ⟨X, 1, none⟩ = false ∧ W.frozen? ⟨X, 2, none⟩ = false ∧ W.frozen? ⟨X, 3, none⟩ = false ∧ W.frozen? ⟨X, 4, none⟩ = false :=
  ⟨by simp [World.frozen?, h], by simp [World.frozen?, h], by simp [World.frozen?, h], by simp [World.frozen?, h], by simp [World.frozen?, h]⟩
def set5 (W : World) (X : Nat) (a b c d e : Value) : World := ((((W.setCell ⟨X, 0, none⟩ a).setCell ⟨X, 1, none⟩ b).setCell ⟨X, 2, none⟩ c).setCell ⟨X, 3, none⟩ d).setCell ⟨X, 4, none⟩ e
theorem set5_row {W : World} {X : Nat} {t : TypeId} {a0 b0 c0 d0 e0 : Value} (h : W.heap[X]? = some (.cells #[a0, b0, c0, d0, e0] t (0, 0))) (a b c d e : Value) : (set5 W X a b c d e).heap[X]? = some (.cells #[a, b, c, d, e] t (0, 0)) := by
  unfold set5
  exact heap_setCell_same _ _ 4 _ _ e (heap_setCell_same _ _ 3 _ _ d (heap_setCell_same _ _ 2 _ _ c (heap_setCell_same _ _ 1 _ _ b (heap_setCell_same _ _ 0 _ _ a h))))
theorem set5_below {B : Nat} {w W : World} {X : Nat} (h : Below B w W) (hX : B ≤ X) (a b c d e : Value) : Below B w (set5 W X a b c d e) := by
  unfold set5
  exact ((((h.setCell (p := ⟨X, 0, none⟩) hX a).setCell (p := ⟨X, 1, none⟩) hX b).setCell (p := ⟨X, 2, none⟩) hX c).setCell (p := ⟨X, 3, none⟩) hX d).setCell (p := ⟨X, 4, none⟩) hX e
theorem set5_other {W : World} {X k : Nat} (hk : k ≠ X) (a b c d e : Value) : (set5 W X a b c d e).heap[k]? = W.heap[k]? := by
  unfold set5
  rw [Below.heap_setCell _ _ _ k hk, Below.heap_setCell _ _ _ k hk, Below.heap_setCell _ _ _ k hk, Below.heap_setCell _ _ _ k hk, Below.heap_setCell _ _ _ k hk]
theorem set5_size (W : World) (X : Nat) (a b c d e : Value) : (set5 W X a b c d e).heap.size = W.heap.size := by unfold set5; simp
/-- A variable of positions is written; what lies elsewhere stays. -/
theorem set5_keep {W : World} {X lo : Nat} {aL aF aA aO : Option Addr} {Le Fo : List (List Int)} {Fi La : List Int} (h : PosQ W lo aL aF aA aO Le Fo Fi La) (hX : X < lo) (a b c d e : Value) : PosQ (set5 W X a b c d e) lo aL aF aA aO Le Fo Fi La :=
  h.keep (by rw [set5_size]; exact Nat.le_refl _) (fun k hk _ => set5_other (by omega) a b c d e)
theorem PosQ.lower {w : World} {b lo : Nat} {aL aF aA aO : Option Addr} {Le Fo : List (List Int)} {Fi La : List Int} (h : PosQ w b aL aF aA aO Le Fo Fi La) (hb : lo ≤ b) : PosQ w lo aL aF aA aO Le Fo Fi La := by
  have hi : ∀ (a : Option Addr) (L : List Int), IQ w b a L → IQ w lo a L := fun a L h => ⟨fun k hk => by
    obtain ⟨b1, off, e, h0, h1, h2⟩ := h.at' k hk
    exact ⟨b1, off, e, by omega, h1, h2⟩⟩
  have hr : ∀ (a : Option Addr) (L : List (List Int)), RwQ w b a L → RwQ w lo a L := fun a L h => ⟨fun k hk => by
    obtain ⟨b1, off, e, h0, h1, a1, c1, h2, h3⟩ := h.at' k hk
    exact ⟨b1, off, e, by omega, h1, a1, c1, h2, hi _ _ h3⟩⟩
  exact ⟨hr _ _ h.le, hi _ _ h.fi, hi _ _ h.la, hr _ _ h.fo⟩
set_option maxRecDepth 10000 in
set_option maxHeartbeats 3200000 in
theorem reverse_any (aL aF aA aO : Option Addr) (cL cF cA cO : Nat) (Le Fo : List (List Int)) (Fi La : List Int) (em : Bool) (w : World) (hp : PosA w aL aF aA aO Le Fo Fi La) :
    Calls Tryd.prog 7 #[posV aL aF aA aO cL cF cA cO Le Fo Fi La em] w fun r w' => RevR w (revP Le Fo Fi La em) r w' := by
  unfold posV
  obtain ⟨wa, hwa⟩ : ∃ wa, wa = w.alloc (.cells #[.slice aL Le.length cL, .slice aF Fi.length cF, .slice aA La.length cA, .slice aO Fo.length cO, .bool em] 25) := ⟨_, rfl⟩
  obtain ⟨w0, hw0⟩ : ∃ w0, w0 = wa.alloc (.cells #[.slice none 0 0, .slice none 0 0, .slice none 0 0, .slice none 0 0, .bool false] 25) := ⟨_, rfl⟩
  have hsa : wa.heap.size = w.heap.size + 1 := by rw [hwa]; simp
  have hs0 : w0.heap.size = w.heap.size + 1 + 1 := by rw [hw0]; simp [hsa]
  have hBa : Below w.heap.size w wa := by rw [hwa]; exact (Below.refl _ _).alloc (Nat.le_refl _) _
  have hBb : Below wa.heap.size wa w0 := by rw [hw0]; exact (Below.refl _ _).alloc (Nat.le_refl _) _
  have hB0 : Below w.heap.size w w0 := Below.later hBa hBb
  have hXa : wa.heap[w.heap.size]? = some (.cells #[.slice aL Le.length cL, .slice aF Fi.length cF, .slice aA La.length cA, .slice aO Fo.length cO, .bool em] 25 (0, 0)) := by rw [hwa]; exact heap_alloc_new w _
  have hX0 : w0.heap[w.heap.size]? = some (.cells #[.slice aL Le.length cL, .slice aF Fi.length cF, .slice aA La.length cA, .slice aO Fo.length cO, .bool em] 25 (0, 0)) := (hBb.block _ (by omega)).trans hXa
  have hY0 : w0.heap[w.heap.size + 1]? = some (.cells #[.slice none 0 0, .slice none 0 0, .slice none 0 0, .slice none 0 0, .bool false] 25 (0, 0)) := by rw [hw0, ← hsa]; exact heap_alloc_new wa _
  have HB0 := hid0 hB0
  have HX0 := hid0 hX0
  have HY0 := hid0 hY0
  have HS0 := hid0 hs0
  have hp0 := hp.past hB0
  obtain ⟨x0, x1, x2, x3, x4⟩ := row5 hX0
  obtain ⟨y0, y1, y2, y3, y4⟩ := row5 hY0
  obtain ⟨f0, f1, f2, f3, f4⟩ := frz5 hY0
  have HXX : Hid (∀ V, Below w0.heap.size w0 V → V.cell? ⟨w.heap.size, 0, none⟩ = some (.slice aL Le.length cL) ∧ V.cell? ⟨w.heap.size, 1, none⟩ = some (.slice aF Fi.length cF) ∧ V.cell? ⟨w.heap.size, 2, none⟩ = some (.slice aA La.length cA) ∧ V.cell? ⟨w.heap.size, 3, none⟩ = some (.slice aO Fo.length cO) ∧ V.cell? ⟨w.heap.size, 4, none⟩ = some (.bool em)) := hid0 (fun V hV => row5 ((hV.block _ (by omega)).trans hX0))
  have HPR := hid0 (placesRise_any aL aF aA aO cL cF cA cO Le Fo Fi La em w0 hp0)
  unfold posV at HPR
  have H1 := hid0 (fun V (hV : Below w0.heap.size w0 V) => copied_any Le aL cL V (by have := hp.l1; omega) (fun r hr => by have := hp.r1 r hr; omega) (hp0.le.past hV))
  have H2 := hid0 (fun V (hV : Below w0.heap.size w0 V) => copyOf_any La aA cA V (by have := hp.l3; omega) (hp0.la.past hV))
  have H3 := hid0 (fun V (hV : Below w0.heap.size w0 V) => copyOf_any Fi aF cF V (by have := hp.l2; omega) (hp0.fi.past hV))
  have H4 := hid0 (fun V (hV : Below w0.heap.size w0 V) hin => turned_any Fo aO cO V hp.l4 hp.r4 hin (hp0.fo.past hV))
  have hfa := hwa.symm
  have hfold := hw0.symm
  clear hwa hw0 hp hp0 hB0 hBa hBb hXa hX0 hY0 hs0 hsa
  subst hfa
  by_cases h6 : (Fo.length : Int) = (Le.length : Int)
  case neg =>
    have h6n : ¬ Fo.length = Le.length := by omega
    have h6b : ((Fo.length : Int) != (Le.length : Int)) = true := by simp; omega
    have h6c : (Fo.length != Le.length) = true := by simp; omega
    have HV : Hid (revP Le Fo Fi La em = ⟨[], [], [], [], false⟩) := hid0 (by unfold revP; rw [decide_eq_false h6n]; rfl)
    have HRR : Hid (∀ V, V = set5 w0 (w.heap.size + 1) (.slice none 0 0) (.slice none 0 0) (.slice none 0 0) (.slice none 0 0) (.bool false) → RevR w (revP Le Fo Fi La em) (.returned (.agg #[.slice none 0 0, .slice none 0 0, .slice none 0 0, .slice none 0 0, .bool false])) V) := hid0 (fun V hV => by rw [HV.out, hV]; exact RevR.zero (set5_below HB0.out (by omega) _ _ _ _ _))
    obtain ⟨V5, hV5⟩ : ∃ V5, V5 = set5 w0 (w.heap.size + 1) (.slice none 0 0) (.slice none 0 0) (.slice none 0 0) (.slice none 0 0) (.bool false) := ⟨_, rfl⟩
    obtain ⟨k0, k1, k2, k3, k4⟩ := row5 (hV5 ▸ set5_row HY0.out (.slice none 0 0) (.slice none 0 0) (.slice none 0 0) (.slice none 0 0) (.bool false))
    have HR := hid0 (HRR.out V5 hV5)
    unfold set5 at hV5
    have hf5 := hV5.symm
    clear hV5 HRR
    go_enter Tryd.func7, Tryd.ntmps7
    go_wp2
    exact bodyPost_ret (v := .agg #[.slice none 0 0, .slice none 0 0, .slice none 0 0, .slice none 0 0, .bool false]) (by simp [results, Tryd.results7, go_sem, k0, k1, k2, k3, k4]) rfl HR.out
  cases g1 : plRise Le.length Fi La Fo with
  | false =>
    rw [g1] at HPR
    have HV : Hid (revP Le Fo Fi La em = ⟨[], [], [], [], false⟩) := hid0 (by unfold revP; rw [g1, Bool.and_false]; rfl)
    clear g1
    go_enter Tryd.func7, Tryd.ntmps7
    go_upto_region 2 with (go_at_call 25; refine HPR.out.mono ?_; rintro e w1 ⟨rfl, h⟩; have HB1 := hid0 h; clear h)
    have hY1 := (HB1.out.block (w.heap.size + 1) (by have := HS0.out; omega)).trans HY0.out
    clear y0 y1 y2 y3 y4 f0 f1 f2 f3 f4
    obtain ⟨y0, y1, y2, y3, y4⟩ := row5 hY1
    obtain ⟨f0, f1, f2, f3, f4⟩ := frz5 hY1
    obtain ⟨V5, hV5⟩ : ∃ V5, V5 = set5 w1 (w.heap.size + 1) (.slice none 0 0) (.slice none 0 0) (.slice none 0 0) (.slice none 0 0) (.bool false) := ⟨_, rfl⟩
    obtain ⟨k0, k1, k2, k3, k4⟩ := row5 (hV5 ▸ set5_row hY1 (.slice none 0 0) (.slice none 0 0) (.slice none 0 0) (.slice none 0 0) (.bool false))
    have HR : Hid (RevR w (revP Le Fo Fi La em) (.returned (.agg #[.slice none 0 0, .slice none 0 0, .slice none 0 0, .slice none 0 0, .bool false])) V5) := hid0 (by rw [HV.out, hV5]; exact RevR.zero (set5_below (Below.later HB0.out HB1.out) (by omega) _ _ _ _ _))
    unfold set5 at hV5
    have hf5 := hV5.symm
    clear hV5 hY1
    go_wp2
    exact bodyPost_ret (v := .agg #[.slice none 0 0, .slice none 0 0, .slice none 0 0, .slice none 0 0, .bool false]) (by simp [results, Tryd.results7, go_sem, k0, k1, k2, k3, k4]) rfl HR.out
  | true =>
    rw [g1] at HPR
    have HV : Hid (revP Le Fo Fi La em = ⟨Le, La, Fi, turnL Fo, em⟩) := hid0 (by unfold revP; rw [g1, decide_eq_true (by omega)]; rfl)
    have HIn : Hid (∀ r ∈ Fo, ∀ y ∈ r, 0 ≤ y ∧ y < (Fo.length : Int)) := hid0 (fun r hr y hy => by have := plRise_in g1 r hr y hy; omega)
    clear g1
    go_enter Tryd.func7, Tryd.ntmps7
    go_upto_region 3 with (go_at_call 25; refine HPR.out.mono ?_; rintro e w1 ⟨rfl, h⟩; have HB1 := hid0 h; clear h)
    clear x0 x1 x2 x3 x4 y0 y1 y2 y3 y4 f0 f1 f2 f3 f4
    have HD : Hid (Below w0.heap.size w0 w1.drew) := hid0 ⟨HB1.out.os, HB1.out.tape, HB1.out.output, HB1.out.size, HB1.out.block⟩
    refine wp_region_noPanic ?_
    refine wp_region_held_drew (S := (fun V => V.cell? ⟨w.heap.size, 0, none⟩ = some (.slice aL Le.length cL) ∧ V.cell? ⟨w.heap.size, 1, none⟩ = some (.slice aF Fi.length cF) ∧ V.cell? ⟨w.heap.size, 2, none⟩ = some (.slice aA La.length cA) ∧ V.cell? ⟨w.heap.size, 3, none⟩ = some (.slice aO Fo.length cO) ∧ V.cell? ⟨w.heap.size, 4, none⟩ = some (.bool em))) (by kernel_rfl) ?_ (fun hHeld => ?_)
    · exact HXX.out _ HD.out
    refine tkV (i := 0) (d := some 16) (v := ?_) rfl (by kernel_rfl) (by kernel_rfl) (by kernel_rfl) rfl (fun _ _ _ h => h) (by rfl) ?_ (by assumption) ?_
    rotate_left
    · (intro w hSw; (try dsimp only at hSw); (try simp only [List.getElem_toArray, List.getElem_cons_zero]); go_simp; try with_reducible rfl)
    try simp only [Act.put, List.setIfInBounds_toArray, List.set_cons_zero, List.set_cons_succ]
    refine tkV (i := 1) (d := some 17) (v := ?_) rfl (by kernel_rfl) (by kernel_rfl) (by kernel_rfl) rfl (fun _ _ _ h => h) (by rfl) ?_ (by assumption) ?_
    rotate_left
    · (intro w hSw; (try dsimp only at hSw); (try simp only [List.getElem_toArray, List.getElem_cons_zero, List.getElem_cons_succ]); go_simp; try with_reducible rfl)
    try simp only [Act.put, List.setIfInBounds_toArray, List.set_cons_zero, List.set_cons_succ]
    refine tkV (i := 3) (d := some 19) (v := ?_) rfl (by kernel_rfl) (by kernel_rfl) (by kernel_rfl) rfl (fun _ _ _ h => h) (by rfl) ?_ (by assumption) ?_
    rotate_left
    · (intro w hSw; (try dsimp only at hSw); (try simp only [List.getElem_toArray, List.getElem_cons_zero, List.getElem_cons_succ]); go_simp; try with_reducible rfl)
    try simp only [Act.put, List.setIfInBounds_toArray, List.set_cons_zero, List.set_cons_succ]
    refine tkV (i := 4) (d := some 20) (v := ?_) rfl (by kernel_rfl) (by kernel_rfl) (by kernel_rfl) rfl (fun _ _ _ h => h) (by rfl) ?_ (by assumption) ?_
    rotate_left
    · (intro w hSw; (try dsimp only at hSw); (try simp only [List.getElem_toArray, List.getElem_cons_zero, List.getElem_cons_succ]); go_simp; try with_reducible rfl)
    try simp only [Act.put, List.setIfInBounds_toArray, List.set_cons_zero, List.set_cons_succ]
    refine tkV (i := 6) (d := some 22) (v := ?_) rfl (by kernel_rfl) (by kernel_rfl) (by kernel_rfl) rfl (fun _ _ _ h => h) (by rfl) ?_ (by assumption) ?_
    rotate_left
    · (intro w hSw; (try dsimp only at hSw); (try simp only [List.getElem_toArray, List.getElem_cons_zero, List.getElem_cons_succ]); go_simp; try with_reducible rfl)
    try simp only [Act.put, List.setIfInBounds_toArray, List.set_cons_zero, List.set_cons_succ]
    refine tkV (i := 7) (d := some 23) (v := ?_) rfl (by kernel_rfl) (by kernel_rfl) (by kernel_rfl) rfl (fun _ _ _ h => h) (by rfl) ?_ (by assumption) ?_
    rotate_left
    · (intro w hSw; (try dsimp only at hSw); (try simp only [List.getElem_toArray, List.getElem_cons_zero, List.getElem_cons_succ]); go_simp; try with_reducible rfl)
    try simp only [Act.put, List.setIfInBounds_toArray, List.set_cons_zero, List.set_cons_succ]
    refine tkV (i := 9) (d := some 25) (v := ?_) rfl (by kernel_rfl) (by kernel_rfl) (by kernel_rfl) rfl (fun _ _ _ h => h) (by rfl) ?_ (by assumption) ?_
    rotate_left
    · (intro w hSw; (try dsimp only at hSw); (try simp only [List.getElem_toArray, List.getElem_cons_zero, List.getElem_cons_succ]); go_simp; try with_reducible rfl)
    try simp only [Act.put, List.setIfInBounds_toArray, List.set_cons_zero, List.set_cons_succ]
    refine tkV (i := 10) (d := some 26) (v := ?_) rfl (by kernel_rfl) (by kernel_rfl) (by kernel_rfl) rfl (fun _ _ _ h => h) (by rfl) ?_ (by assumption) ?_
    rotate_left
    · (intro w hSw; (try dsimp only at hSw); (try simp only [List.getElem_toArray, List.getElem_cons_zero, List.getElem_cons_succ]); go_simp; try with_reducible rfl)
    try simp only [Act.put, List.setIfInBounds_toArray, List.set_cons_zero, List.set_cons_succ]
    refine tkV (i := 12) (d := some 28) (v := ?_) rfl (by kernel_rfl) (by kernel_rfl) (by kernel_rfl) rfl (fun _ _ _ h => h) (by rfl) ?_ (by assumption) ?_
    rotate_left
    · (intro w hSw; (try dsimp only at hSw); (try simp only [List.getElem_toArray, List.getElem_cons_zero, List.getElem_cons_succ]); go_simp; try with_reducible rfl)
    try simp only [Act.put, List.setIfInBounds_toArray, List.set_cons_zero, List.set_cons_succ]
    refine tkV (i := 13) (d := some 29) (v := ?_) rfl (by kernel_rfl) (by kernel_rfl) (by kernel_rfl) rfl (fun _ _ _ h => h) (by rfl) ?_ (by assumption) ?_
    rotate_left
    · (intro w hSw; (try dsimp only at hSw); (try simp only [List.getElem_toArray, List.getElem_cons_zero, List.getElem_cons_succ]); go_simp; try with_reducible rfl)
    try simp only [Act.put, List.setIfInBounds_toArray, List.set_cons_zero, List.set_cons_succ]
    refine wpAnyH_ready (rs := [2]) (by kernel_rfl) (by simp) (AllReadyH.cons rfl (fun K hK => ?_) AllReadyH.nil)
    try simp only [List.getElem_toArray, List.getElem_cons_zero, List.getElem_cons_succ]
    go_simp
    refine (H1.out w1.drew HD.out).mono ?_
    rintro e v1 ⟨u1, rfl, ps1, hb1, hm1, hl1⟩
    have HS1 := hid0 hl1.size
    have HBv1 := hid0 (Below.later HD.out hl1)
    have HQ1 := hid0 (hb1.lower (lo := w0.heap.size) HD.out.size)
    have HM1 := hid0 hm1
    obtain ⟨bL, dL, rfl, _⟩ := hb1.rwq' hm1 (Nat.le_refl _)
    have hsv1 := HXX.out v1 HBv1.out
    clear hb1 hm1 hl1
    go_wp2_with fail
    refine hK.out _ _ ?_ (fun hHeld2 => ?_)
    · exact hsv1
    clear hK K
    (try simp only [Act.put]); (try simp only [List.setIfInBounds_toArray]); (try simp only [List.set_cons_succ]); (try simp only [List.set_cons_zero])
    refine wpAnyH_ready (rs := [5]) (by kernel_rfl) (by simp) (AllReadyH.cons rfl (fun K hK => ?_) AllReadyH.nil)
    try simp only [List.getElem_toArray, List.getElem_cons_zero, List.getElem_cons_succ]
    go_simp
    refine (H2.out v1 HBv1.out).mono ?_
    rintro e v2 ⟨u2, rfl, ho2, hl2⟩
    have HBv2 := hid0 (Below.later HBv1.out hl2)
    have HBs2 := hid0 hl2
    have HQ2 := hid0 (ho2.lower (lo := w0.heap.size) HBv1.out.size)
    obtain ⟨bF, dF, rfl, _⟩ := ho2.iq
    have hsv2 := HXX.out v2 HBv2.out
    clear ho2 hl2
    go_wp2_with fail
    refine hK.out _ _ ?_ (fun hHeld5 => ?_)
    · exact hsv2
    clear hK K
    (try simp only [Act.put]); (try simp only [List.setIfInBounds_toArray]); (try simp only [List.set_cons_succ]); (try simp only [List.set_cons_zero])
    refine wpAnyH_ready (rs := [8]) (by kernel_rfl) (by simp) (AllReadyH.cons rfl (fun K hK => ?_) AllReadyH.nil)
    try simp only [List.getElem_toArray, List.getElem_cons_zero, List.getElem_cons_succ]
    go_simp
    refine (H3.out v2 HBv2.out).mono ?_
    rintro e v3 ⟨u3, rfl, ho3, hl3⟩
    have HBv3 := hid0 (Below.later HBv2.out hl3)
    have HBs3 := hid0 hl3
    have HQ3 := hid0 (ho3.lower (lo := w0.heap.size) HBv2.out.size)
    obtain ⟨bA, dA, rfl, _⟩ := ho3.iq
    have hsv3 := HXX.out v3 HBv3.out
    clear ho3 hl3
    go_wp2_with fail
    refine hK.out _ _ ?_ (fun hHeld8 => ?_)
    · exact hsv3
    clear hK K
    (try simp only [Act.put]); (try simp only [List.setIfInBounds_toArray]); (try simp only [List.set_cons_succ]); (try simp only [List.set_cons_zero])
    refine wpAnyH_ready (rs := [11]) (by kernel_rfl) (by simp) (AllReadyH.cons rfl (fun K hK => ?_) AllReadyH.nil)
    try simp only [List.getElem_toArray, List.getElem_cons_zero, List.getElem_cons_succ]
    go_simp
    refine (H4.out v3 HBv3.out HIn.out).mono ?_
    rintro e v4 ⟨u4, rfl, ps4, hb4, hm4, hl4⟩
    have HBv4 := hid0 (Below.later HBv3.out hl4)
    have HBs4 := hid0 hl4
    have HQ4 := hid0 (hb4.lower (lo := w0.heap.size) HBv3.out.size)
    have HM4 := hid0 hm4
    obtain ⟨bO, dO, rfl, _⟩ := hb4.rwq' hm4 (Nat.le_refl _)
    have hsv4 := HXX.out v4 HBv4.out
    have hY4 := (HBv4.out.block (w.heap.size + 1) (by have := HS0.out; omega)).trans HY0.out
    obtain ⟨y0, y1, y2, y3, y4⟩ := row5 hY4
    obtain ⟨f0, f1, f2, f3, f4⟩ := frz5 hY4
    have HY4 := hid0 hY4
    clear hb4 hm4 hl4 hY4
    go_wp2_with fail
    refine hK.out _ _ ?_ (fun hHeld11 => ?_)
    · exact hsv4
    clear hK K
    (try simp only [Act.put]); (try simp only [List.setIfInBounds_toArray]); (try simp only [List.set_cons_succ]); (try simp only [List.set_cons_zero])
    refine tkV (i := 14) (d := some 30) (v := ?_) rfl (by kernel_rfl) (by kernel_rfl) (by kernel_rfl) rfl (fun _ _ _ h => h) (by rfl) ?_ (by assumption) ?_
    rotate_left
    · (intro w hSw; (try dsimp only at hSw); (try simp only [List.getElem_toArray, List.getElem_cons_zero, List.getElem_cons_succ]); go_simp; try with_reducible rfl)
    try simp only [Act.put, List.setIfInBounds_toArray, List.set_cons_zero, List.set_cons_succ]
    refine wpAnyH_ready (rs := [15]) (by kernel_rfl) (by simp) (AllReadyH.cons rfl (fun K hK => ?_) AllReadyH.nil)
    try simp only [List.getElem_toArray, List.getElem_cons_zero, List.getElem_cons_succ]
    go_simp
    refine hK.out _ _ ?_ (fun hHeld15 => ?_)
    · exact row5 ((set5_other (X := w.heap.size + 1) (k := w.heap.size) (by omega) (.slice bL Le.length dL) (.slice bF La.length dF) (.slice bA Fi.length dA) (.slice bO (turnL Fo).length dO) (.bool em)).trans ((HBv4.out.block w.heap.size (by have := HS0.out; omega)).trans HX0.out))
    clear hK K
    (try simp only [Act.put]); (try simp only [List.setIfInBounds_toArray]); (try simp only [List.set_cons_succ]); (try simp only [List.set_cons_zero])
    refine wpAnyH_done (by kernel_rfl) ?_ _
    refine NoPanic.normal ?_
    obtain ⟨V5, hV5⟩ : ∃ V5, V5 = set5 v4 (w.heap.size + 1) (.slice bL Le.length dL) (.slice bF La.length dF) (.slice bA Fi.length dA) (.slice bO (turnL Fo).length dO) (.bool em) := ⟨_, rfl⟩
    obtain ⟨k0, k1, k2, k3, k4⟩ := row5 (hV5 ▸ set5_row HY4.out (.slice bL Le.length dL) (.slice bF La.length dF) (.slice bA Fi.length dA) (.slice bO (turnL Fo).length dO) (.bool em))
    have HPQ : Hid (PosQ v4 w0.heap.size bL bF bA bO Le (turnL Fo) La Fi) := hid0 ⟨by obtain ⟨a', c', e', h'⟩ := (HQ1.out.later (Below.later (Below.later HBs2.out HBs3.out) HBs4.out)).rwq' HM1.out (Nat.le_refl _); cases e'; exact h', by obtain ⟨a', c', e', h'⟩ := (HQ2.out.past (Below.later HBs3.out HBs4.out)).iq; cases e'; exact h', by obtain ⟨a', c', e', h'⟩ := (HQ3.out.past HBs4.out).iq; cases e'; exact h', by obtain ⟨a', c', e', h'⟩ := HQ4.out.rwq' HM4.out (Nat.le_refl _); cases e'; exact h'⟩
    have HR : Hid (RevR w (revP Le Fo Fi La em) (.returned (.agg #[.slice bL Le.length dL, .slice bF La.length dF, .slice bA Fi.length dA, .slice bO (turnL Fo).length dO, .bool em])) V5) := hid0 (by
      rw [HV.out, hV5]
      exact ⟨bL, bF, bA, bO, dL, dF, dA, dO, rfl, (set5_keep HPQ.out (by have := HS0.out; omega) (.slice bL Le.length dL) (.slice bF La.length dF) (.slice bA Fi.length dA) (.slice bO (turnL Fo).length dO) (.bool em)).lower (by have := HS0.out; omega), set5_below (Below.later HB0.out HBv4.out) (by omega) (.slice bL Le.length dL) (.slice bF La.length dF) (.slice bA Fi.length dA) (.slice bO (turnL Fo).length dO) (.bool em)⟩)
    unfold set5 at hV5
    rw [← hV5]
    clear hV5
    go_wp2
    exact bodyPost_ret (v := .agg #[.slice bL Le.length dL, .slice bF La.length dF, .slice bA Fi.length dA, .slice bO (turnL Fo).length dO, .bool em]) (by simp [results, Tryd.results7, go_sem, k0, k1, k2, k3, k4]) rfl HR.out
end Go.Proofs.YtlkgghbdgjomkaaDoor
namespace Go.Proofs.YtlkgghbdgjomkaaDoor
def hasL (l : List Int) (z : Int) : Bool := l.any (· == z)
/-- The places among whose letters a symbol is. -/
def holdF (Le : List (List Int)) (c : Int) (q : Nat) : Bool := hasL (Le.getD q []) c
/-- Where some place of a set leads to, of those below n. -/
def partF (Fo : List (List Int)) (f : Nat → Bool) (n t : Nat) : Bool := (List.range n).any (fun p => f p && hasL (Fo.getD p []) (t : Int))
def nextF (Fo : List (List Int)) (f : Nat → Bool) (t : Nat) : Bool := partF Fo f Fo.length t
/-- The same, with the first k numbers of place q's list. -/
def partK (Fo : List (List Int)) (f : Nat → Bool) (q k t : Nat) : Bool := partF Fo f q t || (f q && hasL ((Fo.getD q []).take k) (t : Int))
def atF (Le : List (List Int)) (nx : Nat → Bool) (c : Int) (q : Nat) : Bool := nx q && holdF Le c q
def lastF (La : List Int) (f : Nat → Bool) : Bool := La.any (fun z => f z.toNat)
def runM (Le Fo : List (List Int)) (La : List Int) : (Nat → Bool) → Int → List Int → Bool
  | nx, c, [] => lastF La (atF Le nx c)
  | nx, c, d :: r => runM Le Fo La (nextF Fo (atF Le nx c)) d r
theorem hasL_nil (z : Int) : hasL [] z = false := rfl
theorem hasL_append (l m : List Int) (z : Int) : hasL (l ++ m) z = (hasL l z || hasL m z) := by simp [hasL]
theorem partF_zero (Fo : List (List Int)) (f : Nat → Bool) (t : Nat) : partF Fo f 0 t = false := rfl
theorem partF_succ (Fo : List (List Int)) (f : Nat → Bool) (n t : Nat) : partF Fo f (n + 1) t = (partF Fo f n t || (f n && hasL (Fo.getD n []) (t : Int))) := by
  simp [partF, List.range_succ]
theorem partK_zero (Fo : List (List Int)) (f : Nat → Bool) (q t : Nat) : partK Fo f q 0 t = partF Fo f q t := by
  simp [partK, hasL_nil]
theorem partK_end (Fo : List (List Int)) (f : Nat → Bool) (q k t : Nat) (h : (Fo.getD q []).length ≤ k) : partK Fo f q k t = partF Fo f (q + 1) t := by
  rw [partK, partF_succ, List.take_of_length_le h]
theorem partK_off (Fo : List (List Int)) (f : Nat → Bool) (q k t : Nat) (h : f q = false) : partK Fo f q k t = partF Fo f (q + 1) t := by
  rw [partK, partF_succ, h, Bool.false_and, Bool.false_and]
theorem partK_succ (Fo : List (List Int)) (f : Nat → Bool) (q k t : Nat) (h : k < (Fo.getD q []).length) (hf : f q = true) : partK Fo f q (k + 1) t = (partK Fo f q k t || ((Fo.getD q [])[k] == (t : Int))) := by
  rw [partK, partK, List.take_succ_eq_append_getElem h, hasL_append, hf, Bool.true_and, Bool.true_and, ← Bool.or_assoc]
  simp [hasL]
theorem runM_none (Le Fo : List (List Int)) (La : List Int) : ∀ (r : List Int) (nx : Nat → Bool) (c : Int), (∀ q, atF Le nx c q = false) → runM Le Fo La nx c r = false
  | [], nx, c, h => by simp [runM, lastF, h]
  | d :: r, nx, c, h => by
    rw [runM]
    refine runM_none Le Fo La r _ d (fun q => ?_)
    have : nextF Fo (atF Le nx c) q = false := by simp [nextF, partF, h]
    simp [atF, this]
theorem atF_congr {Le : List (List Int)} {nx ny : Nat → Bool} {c : Int} (h : ∀ q, q < Le.length → nx q = ny q) : atF Le nx c = atF Le ny c := by
  funext q
  by_cases hq : q < Le.length
  · simp [atF, h q hq]
  · have : holdF Le c q = false := by
      rw [holdF, List.getD_eq_getElem?_getD, List.getElem?_eq_none (by omega)]; rfl
    simp [atF, this]
theorem runM_congr {Le Fo : List (List Int)} {La : List Int} {nx ny : Nat → Bool} {c : Int} {r : List Int} (h : ∀ q, q < Le.length → nx q = ny q) : runM Le Fo La nx c r = runM Le Fo La ny c r := by
  cases r with
  | nil => rw [runM, runM, atF_congr h]
  | cons d r => rw [runM, runM, atF_congr h]
/-- The rest of a word, from the places where the walk is. -/
def contM (Le Fo : List (List Int)) (La : List Int) : (Nat → Bool) → List Int → Bool
  | f, [] => lastF La f
  | f, d :: r => contM Le Fo La (atF Le (nextF Fo f) d) r
theorem run_cont (Le Fo : List (List Int)) (La : List Int) : ∀ (r : List Int) (nx : Nat → Bool) (c : Int), runM Le Fo La nx c r = contM Le Fo La (atF Le nx c) r
  | [], _, _ => rfl
  | d :: r, nx, c => by rw [runM, contM]; exact run_cont Le Fo La r _ d
/-- What Match says. -/
def matM (Le Fo : List (List Int)) (Fi La : List Int) (em : Bool) (word : List Int) : Bool :=
  soundP Le.length Fi La Fo && match word with
    | [] => em
    | c :: r => runM Le Fo La (fun q => hasL Fi (q : Int)) c r
end Go.Proofs.YtlkgghbdgjomkaaDoor
namespace Go.Proofs.YtlkgghbdgjomkaaDoor
/-- Does place p hold a symbol, as far as the walk has come: to place k's letter q? -/
def hK (Le : List (List Int)) (k q : Nat) (c : Int) (p : Nat) : Bool := (decide (p < k) && hasL (Le.getD p []) c) || (decide (p = k) && hasL ((Le.getD k []).take q) c)
structure HoldI (ks : List Int) (Le : List (List Int)) (k q : Nat) (T : List (List Int)) : Prop where
  len : T.length = ks.length
  say : ∀ i (h : i < ks.length) (p : Nat), hasL (T.getD i []) (p : Int) = hK Le k q ks[i] p
  inn : ∀ i, (T.getD i []).all (oneOf Le.length) = true
theorem getD_set_same (T : List (List Int)) (i : Nat) (v : List Int) (h : i < T.length) : (T.set i v).getD i [] = v := by
  rw [List.getD_eq_getElem?_getD, List.getElem?_set_self h]; rfl
theorem getD_set_other (T : List (List Int)) (i j : Nat) (v : List Int) (h : ¬ i = j) : (T.set i v).getD j [] = T.getD j [] := by
  rw [List.getD_eq_getElem?_getD, List.getD_eq_getElem?_getD, List.getElem?_set_ne h]
theorem hK_step (Le : List (List Int)) (k q : Nat) (c : Int) (p : Nat) (hk : k < Le.length) (hq : q < (Le[k]).length) : hK Le k (q + 1) c p = (hK Le k q c p || (decide (p = k) && (Le[k])[q] == c)) := by
  have e : Le.getD k [] = Le[k] := by rw [List.getD_eq_getElem?_getD, List.getElem?_eq_getElem hk]; rfl
  unfold hK
  rw [e, List.take_succ_eq_append_getElem hq, hasL_append]
  cases decide (p = k) <;> simp [hasL, Bool.or_assoc]
theorem hold_start (ks : List Int) (Le : List (List Int)) : HoldI ks Le 0 0 (List.replicate ks.length []) := by
  have e : ∀ i, (List.replicate ks.length ([] : List Int)).getD i [] = [] := fun i => by
    rw [List.getD_eq_getElem?_getD, List.getElem?_replicate]
    split <;> rfl
  exact ⟨by simp, fun i h p => by rw [e, hK]; simp [hasL], fun i => by rw [e]; rfl⟩
theorem HoldI.hit {ks : List Int} {Le : List (List Int)} {k q : Nat} {T : List (List Int)} (hn : ks.Nodup) (h : HoldI ks Le k q T) (hk : k < Le.length) (hq : q < (Le[k]).length) (i0 : Nat) (hi : i0 < ks.length) (e : (Le[k])[q] = ks[i0]) : HoldI ks Le k (q + 1) (T.set i0 (T.getD i0 [] ++ [(k : Int)])) where
  len := by rw [List.length_set]; exact h.len
  say := fun i hi' p => by
    rw [hK_step Le k q ks[i] p hk hq, e]
    by_cases hii : i0 = i
    · subst hii
      rw [getD_set_same _ _ _ (by rw [h.len]; exact hi), hasL_append, h.say i0 hi]
      congr 1
      by_cases hp : p = k
      · subst hp; simp [hasL]
      · have h2 : ¬ (k : Int) = (p : Int) := by omega
        simp [hasL, hp, h2]
    · rw [getD_set_other _ _ _ _ hii, h.say i hi']
      have : (ks[i0] == ks[i]) = false := by
        rw [beq_eq_false_iff_ne]
        intro he
        have hp := List.pairwise_iff_getElem.1 hn
        rcases Nat.lt_or_gt_of_ne hii with hlt | hlt
        · exact hp i0 i hi hi' hlt he
        · exact hp i i0 hi' hi hlt he.symm
      rw [this, Bool.and_false, Bool.or_false]
  inn := fun i => by
    by_cases hii : i0 = i
    · subst hii
      rw [getD_set_same _ _ _ (by rw [h.len]; exact hi), List.all_append, h.inn i0]
      simp only [List.all_cons, List.all_nil, Bool.and_true, Bool.true_and]
      rw [oneOf_iff]
      omega
    · rw [getD_set_other _ _ _ _ hii]
      exact h.inn i
theorem HoldI.miss {ks : List Int} {Le : List (List Int)} {k q : Nat} {T : List (List Int)} (h : HoldI ks Le k q T) (hk : k < Le.length) (hq : q < (Le[k]).length) (e : (Le[k])[q] ∉ ks) : HoldI ks Le k (q + 1) T where
  len := h.len
  say := fun i hi' p => by
    rw [hK_step Le k q ks[i] p hk hq, h.say i hi']
    have : ((Le[k])[q] == ks[i]) = false := by
      rw [beq_eq_false_iff_ne]
      exact fun he => e (by rw [he]; exact List.getElem_mem hi')
    rw [this, Bool.and_false, Bool.or_false]
  inn := h.inn
theorem HoldI.next {ks : List Int} {Le : List (List Int)} {k q : Nat} {T : List (List Int)} (h : HoldI ks Le k q T) (hk : k < Le.length) (hq : (Le[k]).length ≤ q) : HoldI ks Le (k + 1) 0 T where
  len := h.len
  say := fun i hi' p => by
    rw [h.say i hi']
    have e : Le.getD k [] = Le[k] := by rw [List.getD_eq_getElem?_getD, List.getElem?_eq_getElem hk]; rfl
    unfold hK
    rw [e, List.take_of_length_le hq, List.take_zero, hasL_nil, Bool.and_false, Bool.or_false]
    by_cases hp : p = k
    · subst hp
      rw [decide_eq_true (show p < p + 1 by omega), decide_eq_false (show ¬ p < p by omega), decide_eq_true (rfl : p = p), e]
      simp
    · rw [decide_eq_false hp, Bool.false_and, Bool.or_false]
      by_cases h1 : p < k
      · rw [decide_eq_true h1, decide_eq_true (show p < k + 1 by omega)]
      · rw [decide_eq_false h1, decide_eq_false (show ¬ p < k + 1 by omega)]
  inn := h.inn
theorem HoldI.whole {ks : List Int} {Le : List (List Int)} {k : Nat} {T : List (List Int)} (h : HoldI ks Le k 0 T) (hk : Le.length ≤ k) (i : Nat) (hi : i < ks.length) (p : Nat) : hasL (T.getD i []) (p : Int) = holdF Le ks[i] p := by
  rw [h.say i hi, hK, List.take_zero, hasL_nil, Bool.and_false, Bool.or_false, holdF]
  by_cases h1 : p < k
  · rw [decide_eq_true h1, Bool.true_and]
  · have : Le.getD p [] = [] := by rw [List.getD_eq_getElem?_getD, List.getElem?_eq_none (by omega)]; rfl
    rw [this, hasL_nil, Bool.and_false]
end Go.Proofs.YtlkgghbdgjomkaaDoor
namespace Go.Proofs.YtlkgghbdgjomkaaDoor
open Go.RowKit Go.Shelf
theorem LW.lt {w : World} {lo g c : Nat} {L : List Int} (h : LW w lo g c L) : lo ≤ g ∧ g < w.heap.size := World.ownsRow.lt h g rfl
theorem LW.frozen {w : World} {lo g c : Nat} {L : List Int} (h : LW w lo g c L) (k : Nat) : w.frozen? ⟨g, k, none⟩ = false := World.ownsRow.frozenAt h k
theorem LW.put {w : World} {lo g c : Nat} {L : List Int} (h : LW w lo g c L) (k : Nat) (hk : k < L.length) (z : Int) : LW (w.setCell ⟨g, k, none⟩ (.int .i64 z)) lo g c (L.set k z) := by
  have h1 := (World.ownsRow.stored h k (.int .i64 z)).1
  unfold LW
  rw [List.length_set, List.map_set]
  rw [List.set_append_left _ _ (by simpa using hk)] at h1
  exact h1
/-- A slice of such lists. -/
structure Pile (w : World) (base : Nat) (v : Value) (ps : Lot) : Prop where
  outer : w.ownsRow base 23 1 v ps.length (ps.map (·.1))
  row : ∀ x ∈ ps, ∃ g c, x.1 = .slice (some ⟨g, 0, none⟩) x.2.length c ∧ LW w base g c x.2
  apart : ps.Pairwise fun x y => ∀ g, x.1.ownBlock = some g → y.1.ownBlock ≠ some g
  away : ∀ x ∈ ps, ∀ g, v.ownBlock = some g → x.1.ownBlock ≠ some g
theorem Pile.nil (w : World) (base : Nat) : Pile w base (.slice none 0 0) [] := ⟨World.ownsRow_nil _ _ _ _, by simp, List.Pairwise.nil, by simp⟩
theorem Pile.later {w w' : World} {base : Nat} {v : Value} {ps : Lot} (h : Pile w base v ps) (hb : Below w.heap.size w w') : Pile w' base v ps :=
  ⟨row_later h.outer hb, fun x hx => by obtain ⟨g, c, e, hl⟩ := h.row x hx; exact ⟨g, c, e, hl.past hb⟩, h.apart, h.away⟩
theorem Pile.blk {w : World} {base : Nat} {v : Value} {ps : Lot} (h : Pile w base v ps) {x : Value × List Int} (hx : x ∈ ps) {g : Nat} (hg : x.1.ownBlock = some g) : base ≤ g ∧ g < w.heap.size := by
  obtain ⟨g', c, e, hl⟩ := h.row x hx
  rw [e] at hg
  obtain rfl : g' = g := by simpa [Value.ownBlock] using hg
  exact hl.lt
/-- What only other blocks are written into leaves a pile as it is. -/
theorem Pile.kept {w w' : World} {base : Nat} {v : Value} {ps : Lot} (h : Pile w base v ps) (hb : ∀ k, base ≤ k → k < w.heap.size → w'.heap[k]? = w.heap[k]?) : Pile w' base v ps :=
  ⟨own_blk h.outer (fun k hk => hb k (World.ownsRow.lt h.outer k hk).1 (World.ownsRow.lt h.outer k hk).2), fun x hx => by
    obtain ⟨g, c, e, hl⟩ := h.row x hx
    exact ⟨g, c, e, own_blk hl (fun k hk => hb k (World.ownsRow.lt hl k hk).1 (World.ownsRow.lt hl k hk).2)⟩, h.apart, h.away⟩
/-- One more, made behind the pile. -/
theorem Pile.snoc {W wr w1 : World} {base : Nat} {v v' : Value} {ps : Lot} {l : List Int} {g c : Nat} {o : Obj} {n : Nat} (hn : n = ps.length) (h : Pile W base v ps) (hk : Below W.heap.size W wr) (hx : LW wr W.heap.size g c l) (hbase : base ≤ W.heap.size)
    (hown' : w1.ownsRow base 23 1 v' (n + 1) (ps.map (·.1) ++ [.slice (some ⟨g, 0, none⟩) l.length c])) (hgrow : (wr.alloc o).grownBy w1 v.ownBlock) (hat : v'.ownBlock = v.ownBlock ∨ v'.ownBlock = some (wr.alloc o).heap.size) {w : World} (hb : Below base w W) :
    Pile w1 base v' (ps ++ [(.slice (some ⟨g, 0, none⟩) l.length c, l)]) ∧ Below base w w1 := by
  subst hn
  have h2 := h.later hk
  have hs := hk.size
  have hgl := hx.lt
  have old : ∀ {t : TypeId} {size m : Nat} {u : Value} {xs : List Value} {b : Nat}, wr.ownsRow b t size u m xs → (∀ g, v.ownBlock = some g → u.ownBlock ≠ some g) → w1.ownsRow b t size u m xs := fun {t size m u xs b} hu hne => by
    refine World.ownsRow.kept (World.ownsRow.alloc hu o) hgrow ?_
    cases e : u.ownBlock with
    | none => exact .inl rfl
    | some g => exact .inr fun hc => hne g hc.symm e
  have hxa : ∀ q, v.ownBlock = some q → q ≠ g := fun q hq hqg => by
    have e1 := (World.ownsRow.lt h.outer q hq).2
    omega
  refine ⟨⟨?_, ?_, ?_, ?_⟩, ?_⟩
  · rw [List.length_append, List.map_append]
    exact hown'
  · intro y hy
    rcases List.mem_append.1 hy with hy | hy
    · obtain ⟨g1, c1, e1, hl1⟩ := h2.row y hy
      refine ⟨g1, c1, e1, old hl1 (fun q hq hqg => ?_)⟩
      exact h.away y hy q hq (by rw [e1]; exact hqg)
    · rw [List.mem_singleton] at hy
      subst hy
      exact ⟨g, c, rfl, owns_lower (old hx (fun q hq hqg => hxa q hq (by simpa [Value.ownBlock] using hqg.symm))) hbase⟩
  · rw [List.pairwise_append]
    refine ⟨h.apart, List.pairwise_singleton _ _, ?_⟩
    intro y hy z hz q hq hzq
    rw [List.mem_singleton] at hz
    subst hz
    have e1 := (h.blk hy hq).2
    have e2 : g = q := by simpa [Value.ownBlock] using hzq
    omega
  · intro y hy q hq hyq
    have hyl : y.1.ownBlock = some q → q < wr.heap.size ∧ (y ∈ ps ∨ q = g) := fun e => by
      rcases List.mem_append.1 hy with hy | hy
      · exact ⟨(h2.blk hy e).2, .inl hy⟩
      · rw [List.mem_singleton] at hy
        subst hy
        have e2 : g = q := by simpa [Value.ownBlock] using e
        subst e2
        exact ⟨hgl.2, .inr rfl⟩
    obtain ⟨e1, e2⟩ := hyl hyq
    rcases hat with hat | hat
    · rw [hat] at hq
      rcases e2 with e2 | e2
      · exact h.away y e2 q hq hyq
      · exact hxa q hq e2
    · rw [hat] at hq
      simp at hq
      omega
  · refine ((hb.trans (hk.mono hbase)).alloc ?_ o).grown hgrow ?_ (fun k hk' => (World.ownsRow.lt h.outer k hk').1)
    · omega
    · simp; omega
theorem Pile.cells {w : World} {base : Nat} {v : Value} {ps : Lot} (h : Pile w base v ps) : ∃ a c, v = .slice a ps.length c ∧ (a = none → c = 0) ∧ ∀ j (hj : j < ps.length), ∃ b, a = some ⟨b, 0, none⟩ ∧ v.ownBlock = some b ∧ b < w.heap.size ∧ w.cell? ⟨b, j, none⟩ = some (ps[j]).1 := by
  have h0 := h.outer
  rcases h0.2 with ⟨hv, hn⟩ | ⟨g, cap, cur, hv, _⟩
  · exact ⟨none, 0, by rw [hv, hn], fun _ => rfl, fun j hj => by omega⟩
  · refine ⟨some ⟨g, 0, none⟩, cap, hv, fun e => (by cases e), fun j hj => ⟨g, rfl, by rw [hv]; rfl, ?_, ?_⟩⟩
    · exact (World.ownsRow.lt h0 g (by rw [hv]; rfl)).2
    · rw [hv] at h0
      rw [World.ownsRow.cellAt h0 j (by omega)]
      simp [hj]
theorem Pile.rwa {w : World} {base : Nat} {v : Value} {ps : Lot} (h : Pile w base v ps) : ∃ a c, v = .slice a ps.length c ∧ RwA w a (ps.map (·.2)) := by
  obtain ⟨a, c, hv, _, hc⟩ := h.cells
  refine ⟨a, c, hv, ⟨fun k hk => ?_⟩⟩
  have hk' : k < ps.length := by simpa using hk
  obtain ⟨b, rfl, _, hb, hcell⟩ := hc k hk'
  obtain ⟨g1, c1, e1, hl⟩ := h.row ps[k] (List.getElem_mem hk')
  refine ⟨b, 0, rfl, hb, some ⟨g1, 0, none⟩, c1, ?_, ?_⟩
  · rw [Nat.zero_add, hcell, e1]
    simp
  · simp only [List.getElem_map]
    exact hl.ia
/-- One number of one list written over. -/
theorem Pile.put {w : World} {base : Nat} {v : Value} {ps : Lot} (h : Pile w base v ps) (i : Nat) (hi : i < ps.length) {g c : Nat} (hp : (ps[i]).1 = .slice (some ⟨g, 0, none⟩) (ps[i]).2.length c) (k : Nat) (hk : k < (ps[i]).2.length) (z : Int) :
    ∃ ps', ps'.length = ps.length ∧ ps'.map (fun x => x.2.length) = ps.map (fun x => x.2.length) ∧ ps'.map (·.1) = ps.map (·.1) ∧ Pile (w.setCell ⟨g, k, none⟩ (.int .i64 z)) base v ps' := by
  have hmem : ps[i] ∈ ps := List.getElem_mem hi
  have hbl : (ps[i]).1.ownBlock = some g := by rw [hp]; rfl
  have haw : ∀ g', v.ownBlock = some g' → g' ≠ g := fun g' hg' e => by subst e; exact h.away _ hmem g' hg' hbl
  have keep : ∀ {t : TypeId} {size m : Nat} {u : Value} {xs : List Value}, w.ownsRow base t size u m xs → (∀ g', u.ownBlock = some g' → g' ≠ g) → (w.setCell ⟨g, k, none⟩ (.int .i64 z)).ownsRow base t size u m xs := by
    intro t size m u xs ho hne
    exact own_blk ho (fun q hq => Below.heap_setCell w _ _ q (hne q hq))
  have hmap : (ps.set i ((ps[i]).1, (ps[i]).2.set k z)).map (·.1) = ps.map (·.1) := by
    rw [List.map_set]
    apply List.ext_getElem
    · simp
    · intro j h1 h2
      rw [List.getElem_set]
      split
      · subst_vars; simp
      · rfl
  have hmap2 : (ps.set i ((ps[i]).1, (ps[i]).2.set k z)).map (fun x => x.2.length) = ps.map (fun x => x.2.length) := by
    rw [List.map_set]
    apply List.ext_getElem
    · simp
    · intro j h1 h2
      rw [List.getElem_set]
      split
      · subst_vars; simp
      · rfl
  refine ⟨ps.set i ((ps[i]).1, (ps[i]).2.set k z), by simp, hmap2, hmap, ?_, ?_, ?_, ?_⟩
  · rw [hmap, List.length_set]
    exact keep h.outer haw
  · intro x hx
    obtain ⟨j, hj, rfl⟩ := List.getElem_of_mem hx
    have hj2 : j < ps.length := by simpa using hj
    rw [List.getElem_set]
    split
    · obtain ⟨g1, c1, e1, hl⟩ := h.row _ hmem
      rw [hp] at e1
      simp only [Value.slice.injEq, Option.some.injEq, Addr.mk.injEq, and_true, true_and] at e1
      obtain ⟨rfl, rfl⟩ := e1
      exact ⟨g, c, by simp only [List.length_set]; exact hp, hl.put k hk z⟩
    · rename_i hne
      obtain ⟨g1, c1, e1, hl⟩ := h.row _ (List.getElem_mem hj2)
      refine ⟨g1, c1, e1, keep hl ?_⟩
      intro g' hg' e
      subst e
      have e2 : g1 = g' := by simpa [Value.ownBlock] using hg'
      subst e2
      have hbj : (ps[j]).1.ownBlock = some g1 := by rw [e1]; rfl
      have := List.pairwise_iff_getElem.1 h.apart
      rcases Nat.lt_or_gt_of_ne hne with hlt | hlt
      · exact this i j hi hj2 hlt g1 hbl hbj
      · exact this j i hj2 hi hlt g1 hbj hbl
  · have hpr : ∀ (qs : Lot), qs.Pairwise (fun x y => ∀ g, x.1.ownBlock = some g → y.1.ownBlock ≠ some g) ↔ (qs.map (·.1)).Pairwise (fun x y => ∀ g, x.ownBlock = some g → y.ownBlock ≠ some g) := fun qs => by rw [List.pairwise_map]
    rw [hpr, hmap, ← hpr]
    exact h.apart
  · intro x hx g' hg'
    have hx1 : x.1 ∈ ps.map (·.1) := by rw [← hmap]; exact List.mem_map_of_mem hx
    obtain ⟨y, hy, hye⟩ := List.mem_map.1 hx1
    rw [← hye]
    exact h.away y hy g' hg'
end Go.Proofs.YtlkgghbdgjomkaaDoor
namespace Go.Proofs.YtlkgghbdgjomkaaDoor
open Go.RowKit Go.Shelf
theorem app_nilI (w : World) (ty : TypeId) : (Builtin.append_ #[23, 23] ty #[.slice none 0 0, .slice none 0 0]).run Tryd.prog w = .ok (.slice none 0 0) w := by
  go_simp
theorem wpList_spreadI {ops : Array Oper} {rest : List Oper} {op : Oper} {a : Act} {w : World} {Q : Exit → Act → World → Prop} (hgd : op.guard = none) (s x : Operand) (ho : op.op = .call { callee := .builtin .append, args := #[s, x], argTypes := #[23, 23] })
    (aN : Option Addr) (L : List Int) (cN base : Nat) (hs : a.eval s = .slice none 0 0) (hx : a.eval x = .slice aN L.length cN) (hnil : aN = none → cN = 0) (ha : IA w aN L) (hl : L.length ≤ 17592186044416) (hb : base ≤ w.heap.size)
    (h : ∀ v' w', OwnI w' base v' L → w.grownBy w' none → wpList Tryd.prog ops Q rest (a.put op.dst v') w') : wpList Tryd.prog ops Q (op :: rest) a w := by
  obtain ⟨i0, hi, hz0, hz1, hz2⟩ := info_parts infoInt
  cases aN with
  | none =>
    have hL : L = [] := by
      cases L with
      | nil => rfl
      | cons y r => obtain ⟨b, off, e, _⟩ := ha.at' 0 (by simp); cases e
    subst hL
    have hc := hnil rfl
    subst hc
    refine wpList_plain hgd fun K hK => ?_
    have hr := app_nilI w op.type
    unfold Oper.wp execOp
    simp only [ho, resolve, invoke, builtin, Sem.run_bind, Sem.run_pure, Result.andThen_ok, List.map_toArray, List.map_cons, List.map_nil, hs, hx, List.length_nil, hr]
    exact hK _ _ (h _ _ (World.ownsRow_nil _ _ _ _) ⟨rfl, rfl, rfl, Nat.le_refl _, fun _ _ _ => rfl⟩)
  | some ad =>
    refine wpList_append_own _ hgd s x 23 ho base 3 i0 (.int .i64 0) 1 8 Tryd.underlying23 hi hz0 hz1 hz2 rfl (by decide) (.slice none 0 0) 0 [] hs (World.ownsRow_nil _ _ _ _) ad L.length cN (L.map (Value.int .i64)) hx (by simp) (fun j u hu => ?_) (fun u hu => by obtain ⟨y, _, rfl⟩ := List.mem_map.1 hu; rfl) (by unfold maxLen; omega) (by omega) hb (fun v' w' h1 h2 _ => h v' w' (by rw [Nat.zero_add] at h1; exact h1) h2)
    have hj : j < L.length := by have := (List.getElem?_eq_some_iff.1 hu).1; simpa using this
    obtain ⟨b, off, e, h1, h2⟩ := ha.at' j hj
    cases e
    rw [Addr.add_mid, h2]
    have : (L.map (Value.int .i64))[j]? = some (.int .i64 L[j]) := by simp [hj]
    rw [this] at hu
    exact hu
/-- Lists that are handed in: those without memory have no room. -/
structure RwN (w : World) (a : Option Addr) (L : List (List Int)) : Prop where
  at' : ∀ k (h : k < L.length), ∃ b off, a = some ⟨b, off, none⟩ ∧ b < w.heap.size ∧ ∃ a1 c1, w.cell? ⟨b, off + k, none⟩ = some (.slice a1 (L[k]).length c1) ∧ IA w a1 L[k] ∧ (a1 = none → c1 = 0)
theorem RwN.rwa {w : World} {a : Option Addr} {L : List (List Int)} (h : RwN w a L) : RwA w a L := ⟨fun k hk => by
  obtain ⟨b, off, e, h1, a1, c1, h2, h3, _⟩ := h.at' k hk
  exact ⟨b, off, e, h1, a1, c1, h2, h3⟩⟩
theorem RwN.past {w w' : World} {a : Option Addr} {L : List (List Int)} (h : RwN w a L) (hb : Below w.heap.size w w') : RwN w' a L := ⟨fun k hk => by
  obtain ⟨b, off, rfl, h1, a1, c1, h2, h3, h4⟩ := h.at' k hk
  exact ⟨b, off, rfl, Nat.lt_of_lt_of_le h1 hb.size, a1, c1, (hb.cell (p := ⟨b, off + k, none⟩) h1).trans h2, h3.past hb, h4⟩⟩
set_option maxRecDepth 10000 in
set_option maxHeartbeats 1600000 in
theorem refCopyOf_any (L : List (List Int)) (a : Option Addr) (cap : Nat) (w : World) (hl : L.length ≤ 1000000000) (hr : ∀ r ∈ L, r.length ≤ 1000000000) (ha : RwN w a L) :
    Calls Tryd.prog 41 #[.slice a L.length cap] w fun r w' => ∃ v, r = .returned v ∧ ∃ ps, Bag w' w.heap.size v ps ∧ ps.map (·.2) = L ∧ Below w.heap.size w w' := by
  obtain ⟨i0, hi, hz0, hz1, hz2⟩ := info_parts infoInts
  have HA := hid0 ha
  have HR := hid0 hr
  clear ha hr
  go_enter Tryd.func41, Tryd.ntmps41
  go_wp2
  go_loopw [3, 4] (fun v i wr => ∃ (k : Nat) (ps : Lot), k ≤ L.length ∧ i = .int .i64 (k : Int) ∧ Hid (ps.map (·.2) = L.take k) ∧ Hid (ps.length = k) ∧ Hid (Bag wr w.heap.size v ps) ∧ Hid (Below w.heap.size w wr)) (fun _ i _ => L.length - (intOf i).toNat)
  case atStart => exact ⟨0, [], Nat.zero_le _, rfl, hid0 rfl, hid0 rfl, hid0 (Bag.nil _ _), hid0 (Below.refl _ _)⟩
  case round =>
    obtain ⟨k, ps, hk, rfl, HM, HK, HP, HB⟩ := hrel
    have hbs := HB.out.size
    by_cases hlt : k < L.length
    · obtain ⟨b, off, rfl, _, a1, c1, d1, i1, n1⟩ := (HA.out.past HB.out).at' k hlt
      have hkI : (k : Int) < (L.length : Int) := by omega
      have hkI0 : (0 : Int) ≤ (k : Int) := by omega
      have hrl := HR.out _ (List.getElem_mem hlt)
      have HTK : Hid (L.take (k + 1) = L.take k ++ [L[k]]) := hid0 (by rw [List.take_add_one, List.getElem?_eq_getElem hlt]; rfl)
      have HI1 := hid0 i1
      have HN1 := hid0 n1
      clear i1 n1
      generalize L[k] = s at *
      have HOO : Hid (wr.ownsRow w.heap.size 23 1 u3 k (ps.map (·.1))) := hid0 (by have h := HP.out.outer; rw [HK.out] at h; exact h)
      go_wp2_with (first
        | (at_builtin; have hq := HX.out; go_loud (refine wpList_append_own_at _ rfl _ _ 22 rfl w.heap.size 23 i0 (.slice none 0 0) 1 24 Tryd.underlying22 hi hz0 hz1 hz2 rfl (by decide) _ k (ps.map (·.1)) rfl (World.ownsRow.alloc (row_later HOO.out HB1.out) _) ⟨w1.heap.size, 0, none⟩ 1 1 [.slice av s.length cv] rfl rfl (cell_one_new _ _ _) (by simp [Value.oneCell']) (by unfold maxLen; omega) (by omega) (by simp; omega) ?_; intro v2 w2 hown2 hgrow2 _ hat2; have HS := hid0 (Bag.snoc (w := w) HK.out.symm HP.out HB1.out HX.out hbs hown2 hgrow2 hat2 HB.out); clear hown2 hgrow2 hat2 hq))
        | (at_builtin; refine wpList_spreadI rfl _ _ rfl a1 s c1 wr.heap.size rfl rfl HN1.out HI1.out (by omega) (Nat.le_refl _) ?_; intro v1 w1 hown1 hgrow1; have hs1 := hgrow1.size; have HB1 := hid0 ((Below.refl wr.heap.size wr).grown hgrow1 (Nat.le_refl _) (fun k hk => by cases hk)); obtain ⟨av, cv, rfl, _⟩ := OwnI.ia hown1; have HX : Hid (OwnI w1 wr.heap.size (.slice av s.length cv) s) := hid0 hown1; clear hown1 hgrow1)
        | fail)
      have HP2 := hid0 HS.out.1
      have HB2 := hid0 HS.out.2
      have HM2 : Hid ((ps ++ [(Value.slice av s.length cv, s)]).map (·.2) = L.take (k + 1)) := hid0 (by rw [List.map_append, HM.out, HTK.out]; rfl)
      have HK2 : Hid ((ps ++ [(Value.slice av s.length cv, s)]).length = k + 1) := hid0 (by rw [List.length_append, HK.out]; rfl)
      clear HS HP HB HM HK HOO HTK HX HB1
      go_roundw
      case rel => exact ⟨k + 1, _, by omega, by go_num, HM2, HK2, HP2, HB2⟩
      case measure => simp [intOf]; omega
    · have hkI : ¬ (k : Int) < (L.length : Int) := by omega
      have HE : Hid (ps.map (·.2) = L) := hid0 (by rw [HM.out, List.take_of_length_le (by omega)])
      clear HM
      go_wp2
      go_ret
      exact ⟨u3, rfl, ps, HP.out, HE.out, HB.out⟩
end Go.Proofs.YtlkgghbdgjomkaaDoor
namespace Go.Proofs.YtlkgghbdgjomkaaDoor
open Go.RowKit Go.Shelf
/-- One more element behind the lists, that is none of them. -/
theorem Pile.tail {W wr w1 : World} {base g c n : Nat} {v x : Value} {ps : Lot} (hn : n = ps.length) (h : Pile W base v ps) (hk : Below W.heap.size W wr) (hbase : base ≤ W.heap.size)
    (hown' : w1.ownsRow base 23 1 (.slice (some ⟨g, 0, none⟩) (n + 1) c) (n + 1) (ps.map (·.1) ++ [x])) (hgrow : wr.grownBy w1 v.ownBlock) (hat : some g = v.ownBlock ∨ W.heap.size ≤ g) {w : World} (hb : Below base w W) :
    Pile w1 base (.slice (some ⟨g, 0, none⟩) n c) ps ∧ n + 1 ≤ c ∧ w1.cell? ⟨g, n, none⟩ = some x ∧ Below base w w1 := by
  subst hn
  have h2 := h.later hk
  have hs := hk.size
  have hrows : ∀ y ∈ ps, ∃ g1 c1, y.1 = .slice (some ⟨g1, 0, none⟩) y.2.length c1 ∧ LW w1 base g1 c1 y.2 := fun y hy => by
    obtain ⟨g1, c1, e1, hl1⟩ := h2.row y hy
    refine ⟨g1, c1, e1, World.ownsRow.kept hl1 hgrow ?_⟩
    right
    intro hc
    exact h.away y hy g1 hc.symm (by rw [e1]; rfl)
  refine ⟨⟨?_, hrows, h.apart, ?_⟩, ?_, ?_, ?_⟩
  · rcases hown'.2 with ⟨e, _⟩ | ⟨g', cap, cur, e, q1, q2, q3, q4, q5, q6⟩
    · cases e
    · cases e
      refine ⟨by simp, .inr ⟨g, c, cur, rfl, q1, q2, by omega, q4, q5, ?_⟩⟩
      have e2 : cur.toList.take (ps.length * 1) = (cur.toList.take ((ps.length + 1) * 1)).take (ps.length * 1) := by rw [List.take_take]; congr 1; omega
      rw [e2, q6, Nat.mul_one, List.take_append_of_le_length (by simp), List.take_of_length_le (by simp)]
  · intro y hy q hq hyq
    have e : g = q := by simpa [Value.ownBlock] using hq
    subst e
    rcases hat with hat | hat
    · exact h.away y hy g hat.symm hyq
    · have := (h.blk hy hyq).2; omega
  · rcases hown'.2 with ⟨e, _⟩ | ⟨g', cap, cur, e, _, _, q3, _⟩
    · cases e
    · cases e; exact q3
  · rw [World.ownsRow.cellAt hown' ps.length (by omega), List.getElem?_append_right (by simp)]
    simp
  · exact ((hb.trans (hk.mono hbase))).grown hgrow (by omega) (fun k hk' => (World.ownsRow.lt h.outer k hk').1)
/-- What Rows leaves: lists, and a row of marks behind them. -/
def RowsR (w : World) (L : List (List Int)) (r : Ending) (w' : World) : Prop := ∃ g c, r = .returned (.slice (some ⟨g, 0, none⟩) L.length c) ∧ ∃ gm ps, Pile w' w.heap.size (.slice (some ⟨g, 0, none⟩) L.length c) ps ∧ ps.map (·.2) = L ∧ L.length + 1 ≤ c ∧ w'.cell? ⟨g, L.length, none⟩ = some (.slice (some ⟨gm, 0, none⟩) 1 1) ∧ w'.cell? ⟨gm, 0, none⟩ = some (.int .i64 (-77)) ∧ Below w.heap.size w w' ∧ w.heap.size ≤ gm
set_option maxRecDepth 10000 in
set_option maxHeartbeats 1600000 in
theorem rows_any (L : List (List Int)) (a : Option Addr) (cap : Nat) (w : World) (hl : L.length ≤ 1000000000) (hr : ∀ r ∈ L, r.length ≤ 1000000000) (ha : RwA w a L) :
    Calls Tryd.prog 36 #[.slice a L.length cap] w fun r w' => RowsR w L r w' := by
  obtain ⟨i0, hi, hz0, hz1, hz2⟩ := info_parts infoInts
  have HA := hid0 ha
  have HR := hid0 hr
  clear ha hr
  go_enter Tryd.func36, Tryd.ntmps36
  go_wp2
  go_loopw [3, 4] (fun v i wr => ∃ (k : Nat) (ps : Lot), k ≤ L.length ∧ i = .int .i64 (k : Int) ∧ Hid (ps.map (·.2) = L.take k) ∧ Hid (ps.length = k) ∧ Hid (Pile wr w.heap.size v ps) ∧ Hid (Below w.heap.size w wr)) (fun _ i _ => L.length - (intOf i).toNat)
  case atStart => exact ⟨0, [], Nat.zero_le _, rfl, hid0 rfl, hid0 rfl, hid0 (Pile.nil _ _), hid0 (Below.refl _ _)⟩
  case round =>
    obtain ⟨k, ps, hk, rfl, HM, HK, HP, HB⟩ := hrel
    have hbs := HB.out.size
    have HOO : Hid (wr.ownsRow w.heap.size 23 1 u3 k (ps.map (·.1))) := hid0 (by have h := HP.out.outer; rw [HK.out] at h; exact h)
    by_cases hlt : k < L.length
    · obtain ⟨b, off, rfl, _, a1, c1, d1, i1⟩ := (HA.out.past HB.out).at' k hlt
      have hkI : (k : Int) < (L.length : Int) := by omega
      have hkI0 : (0 : Int) ≤ (k : Int) := by omega
      have HTK : Hid (L.take (k + 1) = L.take k ++ [L[k]]) := hid0 (by rw [List.take_add_one, List.getElem?_eq_getElem hlt]; rfl)
      have HLI := hid0 (list_any L[k] a1 c1 wr (HR.out _ (List.getElem_mem hlt)) i1)
      clear i1
      generalize L[k] = s at *
      go_wp2_with (first
        | (go_at_call 14; refine HLI.out.mono ?_; rintro e w1 ⟨g, c, rfl, hx, hb1⟩; have hs1 := hb1.size; have HX := hid0 hx; have HB1 := hid0 hb1; clear hx hb1)
        | (at_builtin; go_loud (refine wpList_append_own_at _ rfl _ _ 22 rfl w.heap.size 23 i0 (.slice none 0 0) 1 24 Tryd.underlying22 hi hz0 hz1 hz2 rfl (by decide) _ k (ps.map (·.1)) rfl (World.ownsRow.alloc (row_later HOO.out HB1.out) _) ⟨w1.heap.size, 0, none⟩ 1 1 [.slice (some ⟨g, 0, none⟩) s.length c] rfl rfl (cell_one_new _ _ _) (by simp [Value.oneCell']) (by unfold maxLen; omega) (by omega) (by simp; omega) ?_; intro v2 w2 hown2 hgrow2 _ hat2; have HS := hid0 (Pile.snoc (w := w) HK.out.symm HP.out HB1.out HX.out hbs hown2 hgrow2 hat2 HB.out); clear hown2 hgrow2 hat2))
        | fail)
      have HP2 := hid0 HS.out.1
      have HB2 := hid0 HS.out.2
      have HM2 : Hid ((ps ++ [(Value.slice (some ⟨g, 0, none⟩) s.length c, s)]).map (·.2) = L.take (k + 1)) := hid0 (by rw [List.map_append, HM.out, HTK.out]; rfl)
      have HK2 : Hid ((ps ++ [(Value.slice (some ⟨g, 0, none⟩) s.length c, s)]).length = k + 1) := hid0 (by rw [List.length_append, HK.out]; rfl)
      clear HS HP HB HM HK HOO HTK HX HB1
      go_roundw
      case rel => exact ⟨k + 1, _, by omega, by go_num, HM2, HK2, HP2, HB2⟩
      case measure => simp [intOf]; omega
    · have hkI : ¬ (k : Int) < (L.length : Int) := by omega
      have hkn : k = L.length := by omega
      have HE : Hid (ps.map (·.2) = L) := hid0 (by rw [HM.out, List.take_of_length_le (by omega)])
      subst hkn
      clear HM
      obtain ⟨w1, hw1⟩ : ∃ w1, w1 = wr.alloc (.cells #[.int .i64 (-77)] 3) := ⟨_, rfl⟩
      have hb1 : Below wr.heap.size wr w1 := by rw [hw1]; exact (Below.refl _ _).alloc (Nat.le_refl _) _
      have hr1 : w1.heap[wr.heap.size]? = some (.cells #[.int .i64 (-77)] 3 (0, 0)) := by rw [hw1]; exact heap_alloc_new wr _
      have hs1 : w1.heap.size = wr.heap.size + 1 := by rw [hw1]; simp
      have HB1 := hid0 hb1
      have HR1 := hid0 hr1
      have HS1 := hid0 hs1
      have hfold := hw1.symm
      clear hw1 hb1 hr1 hs1
      go_wp2_with (at_builtin; go_loud ((
        refine wpList_append_own_at _ rfl _ _ 22 rfl w.heap.size 23 i0 (.slice none 0 0) 1 24 Tryd.underlying22 hi hz0 hz1 hz2 rfl (by decide) _ L.length (ps.map (·.1)) rfl (World.ownsRow.alloc (row_later HOO.out HB1.out) _) ⟨w1.heap.size, 0, none⟩ 1 1 [.slice (some ⟨wr.heap.size, 0, none⟩) 1 1] rfl rfl (cell_one_new _ _ _) (by simp [Value.oneCell']) (by unfold maxLen; omega) (by omega) (by have := HS1.out; simp; omega) ?_
        intro v2 w2 hown2 hgrow2 _ hat2
        obtain ⟨g, c, rfl⟩ := Go.Joins.ownsRow_form hown2 (by omega)
        have ht := Pile.tail (w := w) HK.out.symm HP.out (Below.later HB1.out ((Below.refl _ w1).alloc (Nat.le_refl _) _)) hbs hown2 hgrow2 (hat2.imp (fun h => h) (fun h => by have e := Option.some.inj (show some g = _ from h); have := HS1.out; simp at e; omega)) HB.out
        have hcap := ht.2.1
        have HT := hid0 ht
        have HMk : Hid (w2.cell? ⟨wr.heap.size, 0, none⟩ = some (.int .i64 (-77))) := hid0 (by {
          have hc1 : (w1.alloc (.cells #[.slice (some ⟨wr.heap.size, 0, none⟩) 1 1] 23)).cell? ⟨wr.heap.size, 0, none⟩ = some (.int .i64 (-77)) := cell_alloc (by rw [cell_of_row _ _ _ _ _ _ HR1.out]; rfl) _
          exact hgrow2.cell hc1 (fun e => by have := (World.ownsRow.lt HOO.out wr.heap.size e.symm).2; omega) })
        clear hown2 hgrow2 hat2 ht)))
      go_ret
      exact ⟨g, c, rfl, wr.heap.size, ps, HT.out.1, HE.out, HT.out.2.1, HT.out.2.2.1, HMk.out, HT.out.2.2.2, HB.out.size⟩
set_option maxRecDepth 10000 in
set_option maxHeartbeats 1600000 in
theorem rowsLeft_any (ps : Lot) (base g c gm : Nat) (w : World) (hl : ps.length ≤ 1000000000) (hr : ∀ x ∈ ps, x.2.length ≤ 1000000000) (hP : Pile w base (.slice (some ⟨g, 0, none⟩) ps.length c) ps) (hc : ps.length + 1 ≤ c) (h1 : w.cell? ⟨g, ps.length, none⟩ = some (.slice (some ⟨gm, 0, none⟩) 1 1)) (h2 : w.cell? ⟨gm, 0, none⟩ = some (.int .i64 (-77))) :
    Calls Tryd.prog 42 #[.slice (some ⟨g, 0, none⟩) ps.length c] w fun r w' => r = .returned (.bool true) ∧ ∃ n, w' = w.drewN n := by
  obtain ⟨a', c', ev, _, hcell⟩ := hP.cells
  simp only [Value.slice.injEq, true_and] at ev
  obtain ⟨rfl, rfl⟩ := ev
  have HC := hid0 hcell
  have HP := hid0 hP
  have HR := hid0 hr
  clear hcell hP hr
  go_enter Tryd.func42, Tryd.ntmps42
  go_wp2
  go_loopw [4] (fun i wr => ∃ k : Nat, k ≤ ps.length ∧ i = .int .i64 (k : Int) ∧ ∃ n, wr = w.drewN n) (fun i _ => ps.length - (intOf i).toNat)
  case atStart => exact ⟨0, Nat.zero_le _, rfl, 0, rfl⟩
  case round =>
    obtain ⟨k, hk, rfl, nd, rfl⟩ := hrel
    by_cases hlt : k < ps.length
    · obtain ⟨b1, e1, _, _, d1⟩ := HC.out k hlt
      cases e1
      obtain ⟨g1, c1, e1, hlw⟩ := HP.out.row _ (List.getElem_mem hlt)
      have hrl := HR.out _ (List.getElem_mem hlt)
      rw [e1] at d1
      have HLL := hid0 (listLeft_any (ps[k]).2 base g1 c1 (w.drewN nd) hrl hlw)
      clear e1 hlw
      generalize (ps[k]).2 = s at *
      have hkI : (k : Int) < (ps.length : Int) := by omega
      have hkI0 : (0 : Int) ≤ (k : Int) := by omega
      go_wp2_with (go_at_call 18; refine HLL.out.mono ?_; rintro e w1 ⟨rfl, hw1⟩; obtain ⟨q1, rfl⟩ := drew_add hw1; clear hw1)
      go_roundw
      case rel => exact ⟨k + 1, by omega, by go_num, _, rfl⟩
      case measure => simp [intOf]; omega
    · have hkI : ¬ (k : Int) < (ps.length : Int) := by omega
      go_wp2
      go_ret
      exact ⟨rfl, nd, rfl⟩
end Go.Proofs.YtlkgghbdgjomkaaDoor
namespace Go.Proofs.YtlkgghbdgjomkaaDoor
open Go.RowKit Go.Shelf Go.Lib Go.Maps
theorem lawI : Keyed Tryd.prog 3 := int_keyed Tryd.underlying3
/-- A number that an int may be. -/
def inI (c : Int) : Prop := (Lit.int .i64 c).wf = true
def keyI (c : Int) : Lit := .int .i64 c
theorem keyI_is (c : Int) : WideAt.IsKeyLit (keyI c) := trivial
theorem keyI_inj {c d : Int} (h : keyI c = keyI d) : c = d := by unfold keyI at h; injection h
/-- A map that has the keys ks, each with its number. -/
structure SaysN (D : DataW Unit) (ks : List Int) : Prop where
  size : Maps.size D = ks.length
  has : ∀ c, Maps.has D (keyI c) = decide (c ∈ ks)
  at' : ∀ i (h : i < ks.length), D.atKey (keyI ks[i]) (.lit (.int .i64 0)) = .lit (.int .i64 (i : Int))
  off : ∀ c, c ∉ ks → D.atKey (keyI c) (.lit (.int .i64 0)) = .lit (.int .i64 0)
theorem saysN_nil : SaysN (.map []) [] := ⟨rfl, fun c => by rfl, fun i h => absurd h (Nat.not_lt_zero _), fun c _ => rfl⟩
theorem saysN_put {D : DataW Unit} {ks : List Int} (h : SaysN D ks) (hT : Tidy D) {c : Int} (hc : c ∉ ks) : SaysN (D.put (keyI c) (.lit (.int .i64 (ks.length : Int)))) (ks ++ [c]) where
  size := by
    rw [size_put hT, h.has, decide_eq_false hc, h.size]
    simp
  has := fun d => by
    by_cases e : d = c
    · subst e
      rw [has_put_same hT.isMap (keyI_is _)]
      simp
    · rw [has_put_other (fun he => e (keyI_inj he)), h.has]
      simp [e]
  at' := fun i hi => by
    by_cases e : i < ks.length
    · rw [List.getElem_append_left e, atKey_put_other (fun he => hc (by rw [← keyI_inj he]; exact List.getElem_mem e)), h.at' i e]
    · have e2 : i = ks.length := by simp at hi; omega
      subst e2
      rw [List.getElem_append_right (Nat.le_refl _)]
      simp only [Nat.sub_self, List.getElem_cons_zero]
      exact atKey_put_same hT.isMap (keyI_is _) _ _
  off := fun d hd => by
    rw [List.mem_append, not_or] at hd
    rw [atKey_put_other (fun he => hd.2 (by rw [keyI_inj he]; simp))]
    exact h.off d hd.1
/-- The block B is the map of the symbols ks. -/
def MapN (w : World) (B : Nat) (ks : List Int) : Prop := ∃ D, w.ownsMap Tryd.prog 3 (plainElem Tryd.prog 3) B ks.length D ∧ SaysN D ks
theorem MapN.lt {w : World} {B : Nat} {ks : List Int} (h : MapN w B ks) : B < w.heap.size := by
  obtain ⟨D, h1, _⟩ := h
  exact h1.lt
theorem MapN.keep {w w' : World} {B : Nat} {ks : List Int} (h : MapN w B ks) (hb : w'.heap[B]? = w.heap[B]?) : MapN w' B ks := by
  obtain ⟨D, ⟨es, clock, h1, h2⟩, hs⟩ := h
  exact ⟨D, ⟨es, clock, hb.trans h1, h2⟩, hs⟩
theorem MapN.made (w : World) : MapN (w.alloc (.map #[] 0)) w.heap.size [] := ⟨_, World.ownsMap_made w _ _ _, saysN_nil⟩
theorem MapN.look {w : World} {B : Nat} {ks : List Int} (h : MapN w B ks) {i : Nat} (hi : i < ks.length) (hc : inI ks[i]) :
    (Instr.lookup 53 (.map (some B)) (.int .i64 ks[i]) true).run Tryd.prog w = .ok (.tuple #[.int .i64 (i : Int), .bool true]) w := by
  obtain ⟨D, h1, hs⟩ := h
  obtain ⟨v, ps, hrun, hv⟩ := h1.look_ok (t := 53) lawI Tryd.underlying53 (Tryd.zeroValue3 w) (plainElem_int Tryd.underlying3 (by decide)) (keyOf_int_mk Tryd.underlying3 hc)
  obtain ⟨c, rfl, hcc, _⟩ := plainElem_int_inv Tryd.underlying3 hv
  have e := congrArg Prod.fst hcc
  have e2 := hs.at' i hi
  unfold keyI at e2
  simp only [e2] at e
  injection e with e
  injection e with _ e
  have h3 := hs.has ks[i]
  unfold keyI at h3
  rw [hrun, ← e, h3, decide_eq_true (List.getElem_mem hi)]
theorem MapN.lookNot {w : World} {B : Nat} {ks : List Int} (h : MapN w B ks) {d : Int} (hd : d ∉ ks) (hc : inI d) :
    (Instr.lookup 53 (.map (some B)) (.int .i64 d) true).run Tryd.prog w = .ok (.tuple #[.int .i64 0, .bool false]) w := by
  obtain ⟨D, h1, hs⟩ := h
  obtain ⟨v, ps, hrun, hv⟩ := h1.look_ok (t := 53) lawI Tryd.underlying53 (Tryd.zeroValue3 w) (plainElem_int Tryd.underlying3 (by decide)) (keyOf_int_mk Tryd.underlying3 hc)
  obtain ⟨c, rfl, hcc, _⟩ := plainElem_int_inv Tryd.underlying3 hv
  have e := congrArg Prod.fst hcc
  have e2 := hs.off d hd
  unfold keyI at e2
  simp only [e2] at e
  injection e with e
  injection e with _ e
  have h3 := hs.has d
  unfold keyI at h3
  rw [hrun, ← e, h3, decide_eq_false hd]
theorem MapN.get {w : World} {B : Nat} {ks : List Int} (h : MapN w B ks) {i : Nat} (hi : i < ks.length) (hc : inI ks[i]) :
    (Instr.lookup 53 (.map (some B)) (.int .i64 ks[i]) false).run Tryd.prog w = .ok (.int .i64 (i : Int)) w := by
  obtain ⟨D, h1, hs⟩ := h
  obtain ⟨c, hrun, e, _⟩ := h1.lookup_int (t := 53) lawI Tryd.underlying53 Tryd.underlying3 (Tryd.zeroValue3 w) (keyOf_int_mk Tryd.underlying3 hc)
  have e2 := hs.at' i hi
  unfold keyI at e2
  rw [e2] at e
  injection e with e
  injection e with _ e
  rw [hrun, ← e]
theorem MapN.len {w : World} {B : Nat} {ks : List Int} (h : MapN w B ks) (ty : TypeId) : (Builtin.len_ #[53] ty #[.map (some B)]).run Tryd.prog w = .ok (.int .i64 (ks.length : Int)) w := by
  obtain ⟨D, h1, hs⟩ := h
  rw [h1.len Tryd.underlying53 ty, hs.size]
theorem MapN.put {w : World} {B : Nat} {ks : List Int} (h : MapN w B ks) {d : Int} (hd : d ∉ ks) (hc : inI d) (hn : ks.length ≤ 1000000000000) :
    ∃ w', (Instr.mapUpdate 53 (.map (some B)) (.int .i64 d) (.int .i64 (ks.length : Int))).run Tryd.prog w = .ok () w' ∧ MapN w' B (ks ++ [d]) ∧ w.grownBy w' (some B) := by
  obtain ⟨D, h1, hs⟩ := h
  have hw : (Lit.int .i64 (ks.length : Int)).wf = true := by simp [Lit.wf, IntKind.min, IntKind.max, IntKind.signed, IntKind.bits]; omega
  obtain ⟨w', hrun, h2, h3⟩ := h1.update (t := 53) lawI Tryd.underlying53 (by unfold maxLen; omega) (keyOf_int_mk Tryd.underlying3 hc) (plainElem_int Tryd.underlying3 hw)
  refine ⟨w', hrun, ⟨_, ?_, saysN_put hs (h1.tidy lawI) hd⟩, h3⟩
  rw [List.length_append]
  exact h2
end Go.Proofs.YtlkgghbdgjomkaaDoor
namespace Go.Proofs.YtlkgghbdgjomkaaDoor
open Go.RowKit Go.Shelf
/-- Lists of no great length. -/
def LotLe (ps : Lot) : Prop := ∀ x ∈ ps, x.2.length ≤ 100000000000000
theorem map_set2 {ps : Lot} {y : Nat} (hy : y < ps.length) {v : Value} {x : Int} : (ps.set y (v, (ps[y]).2 ++ [x])).map (·.2) = (ps.map (·.2)).set y ((ps.map (·.2)).getD y [] ++ [x]) := by
  rw [List.map_set, List.getD_eq_getElem?_getD, List.getElem?_map, List.getElem?_eq_getElem hy]
  rfl
set_option maxRecDepth 10000 in
set_option maxHeartbeats 3200000 in
theorem holdersOf_any (B mp : Nat) (ks : List Int) (Le : List (List Int)) (a : Option Addr) (c : Nat) (w : World) (hl : Le.length ≤ 4000000) (hr : ∀ r ∈ Le, r.length ≤ 4000000) (hin : ∀ r ∈ Le, ∀ z ∈ r, inI z) (hkl : ks.length ≤ 4000000) (hnd : ks.Nodup) (ha : RwA w a Le) (hBl : B < w.heap.size) (hB : w.cell? ⟨B, 1, none⟩ = some (.map (some mp))) (hmp : MapN w mp ks) :
    Calls Tryd.prog 49 #[.pointer (some ⟨B, 0, none⟩), .slice a Le.length c] w fun e w' => ∃ v, e = .returned v ∧ ∃ ps, Bag w' w.heap.size v ps ∧ HoldI ks Le Le.length 0 (ps.map (·.2)) ∧ LotLe ps ∧ Below w.heap.size w w' := by
  obtain ⟨i0, hi, hz0, hz1, hz2⟩ := info_parts infoInt
  obtain ⟨j0, hj, hy0, hy1, hy2⟩ := info_parts infoInts
  have HA := hid0 ha
  have HR := hid0 hr
  have HIn := hid0 hin
  have HNd := hid0 hnd
  have HSm := hid0 (fun k => sumL_le hr hl k)
  have HMp : Hid (∀ W, Below w.heap.size w W → MapN W mp ks) := hid0 (fun W hW => hmp.keep (hW.block mp hmp.lt))
  have HBc : Hid (∀ W, Below w.heap.size w W → W.cell? ⟨B, 1, none⟩ = some (.map (some mp))) := hid0 (fun W hW => (hW.cell (p := ⟨B, 1, none⟩) hBl).trans hB)
  have hlen : ∀ ty, (Builtin.len_ #[53] ty #[.map (some mp)]).run Tryd.prog w = .ok (.int .i64 (ks.length : Int)) w := fun ty => hmp.len ty
  have HMl := hid0 hmp.lt
  clear ha hr hin hnd hmp
  go_enter Tryd.func49, Tryd.ntmps49
  go_upto_region 3 with (at_make; refine wpList_make_full _ rfl _ _ 22 rfl w.heap.size 23 j0 (.slice none 0 0) 1 Tryd.underlying22 hj hy0 hy1 .i64 .i64 _ _ ks.length rfl rfl rfl rfl (by rw [hy2]; omega) (by unfold maxLen; omega) (Nat.le_refl _) ?_; intro w1 hown1 hgrow1; have HBg := hid0 (Bag.make hown1); have HB := hid0 ((Below.refl w.heap.size w).grown hgrow1 (Nat.le_refl _) (fun k hk => by cases hk)); clear hown1 hgrow1)
  have HT0 : Hid (HoldI ks Le 0 0 ((List.replicate ks.length ((Value.slice none 0 0, []) : Value × List Int)).map (·.2))) := hid0 (by rw [List.map_replicate]; exact hold_start ks Le)
  have HSz0 : Hid (∀ x ∈ List.replicate ks.length ((Value.slice none 0 0, []) : Value × List Int), x.2.length ≤ sumL (Le.take 0)) := hid0 (fun x hx => by rw [List.eq_of_mem_replicate hx]; simp)
  have HPl0 : Hid ((List.replicate ks.length ((Value.slice none 0 0, []) : Value × List Int)).length = ks.length) := hid0 (by simp)
  clear hlen hB
  go_loopw [20] (fun i w2 => ∃ (k : Nat) (ps : Lot), k ≤ Le.length ∧ i = .int .i64 (k : Int) ∧ Hid (Bag w2 w.heap.size (.slice (some ⟨w.heap.size, 0, none⟩) ks.length ks.length) ps) ∧ Hid (ps.length = ks.length) ∧ Hid (HoldI ks Le k 0 (ps.map (·.2))) ∧ Hid (∀ x ∈ ps, x.2.length ≤ sumL (Le.take k)) ∧ Hid (Below w.heap.size w w2)) (fun i _ => Le.length - (intOf i).toNat)
  case atStart => exact ⟨0, _, Nat.zero_le _, rfl, HBg, HPl0, HT0, HSz0, HB⟩
  case round =>
    clear HBg HPl0 HT0 HSz0 HB
    obtain ⟨k, ps, hk, rfl, HBg, HPl, HT, HSz, HB⟩ := hrel
    have hsk := HSm.out k
    by_cases hlt : k < Le.length
    · obtain ⟨b, off, rfl, _, a1, c1, d1, i1⟩ := (HA.out.past HB.out).at' k hlt
      have hkI : (k : Int) < (Le.length : Int) := by omega
      have hkI0 : (0 : Int) ≤ (k : Int) := by omega
      have hrl := HR.out _ (List.getElem_mem hlt)
      have HInk := hid0 (HIn.out _ (List.getElem_mem hlt))
      have HTk := hid0 (sumL_take hlt)
      have HHit := hid0 (fun q T (h : HoldI ks Le k q T) hq i0 hi e => HoldI.hit HNd.out h hlt hq i0 hi e)
      have HMiss := hid0 (fun q T (h : HoldI ks Le k q T) hq e => HoldI.miss h hlt hq e)
      have HNext := hid0 (fun q T (h : HoldI ks Le k q T) hq => HoldI.next h hlt hq)
      have HIk : Hid (∀ W, Below w.heap.size w W → IA W a1 Le[k]) := hid0 (fun W hW => by
        obtain ⟨b', off', e', _, a1', c1', d1', i1'⟩ := (HA.out.past hW).at' k hlt
        obtain ⟨b2, off2, e2, hb2, a12, c12, d12, _⟩ := HA.out.at' k hlt
        cases e'
        cases e2
        have q1 := (hW.cell (p := ⟨b, off + k, none⟩) hb2).trans d12
        have q2 := (HB.out.cell (p := ⟨b, off + k, none⟩) hb2).trans d12
        rw [q1] at d1'
        rw [q2] at d1
        simp only [Option.some.injEq, Value.slice.injEq] at d1 d1'
        rw [← d1.1, d1'.1]
        exact i1')
      clear i1
      generalize Le[k] = r at *
      generalize sumL (Le.take k) = m at *
      have HSz1 : Hid (∀ x ∈ ps, x.2.length ≤ m + 0) := HSz
      clear HSz
      go_wp2
      go_loopw [27] (fun i w2 => ∃ (q : Nat) (ps : Lot), q ≤ r.length ∧ i = .int .i64 (q : Int) ∧ Hid (Bag w2 w.heap.size (.slice (some ⟨w.heap.size, 0, none⟩) ks.length ks.length) ps) ∧ Hid (ps.length = ks.length) ∧ Hid (HoldI ks Le k q (ps.map (·.2))) ∧ Hid (∀ x ∈ ps, x.2.length ≤ m + q) ∧ Hid (Below w.heap.size w w2)) (fun i _ => r.length - (intOf i).toNat)
      case atStart => exact ⟨0, ps, Nat.zero_le _, rfl, HBg, HPl, HT, HSz1, HB⟩
      case round =>
        clear HBg HPl HT HSz1 HB
        obtain ⟨q, ps, hq, rfl, HBg, HPl, HT, HSz, HB⟩ := hrel
        by_cases hql : q < r.length
        · obtain ⟨b2, off2, rfl, _, d2⟩ := (HIk.out _ HB.out).at' q hql
          have hqI : (q : Int) < (r.length : Int) := by omega
          have hqI0 : (0 : Int) ≤ (q : Int) := by omega
          have hy := HInk.out _ (List.getElem_mem hql)
          have HHit1 := hid0 (fun T h i0 hi e => HHit.out q T h hql i0 hi e)
          have HMiss1 := hid0 (fun T h e => HMiss.out q T h hql e)
          have hBc := HBc.out _ HB.out
          have HMk := hid0 (HMp.out _ HB.out)
          generalize r[q] = y at *
          by_cases hyk : y ∈ ks
          · obtain ⟨yn, hyn0, rfl⟩ := List.mem_iff_getElem.1 hyk
            have hlk := HMk.out.look hyn0 hy
            have hyn : yn < ps.length := by rw [HPl.out]; exact hyn0
            have HT1 := hid0 (HHit1.out _ HT.out yn hyn0 rfl)
            generalize ks[yn] = y at *
            have hyI1 : (yn : Int) < (ks.length : Int) := by omega
            have hyI0 : (0 : Int) ≤ (yn : Int) := by omega
            obtain ⟨cc, ff⟩ := HBg.out.cells HPl.out.symm yn hyn
            have hro := HBg.out.row _ (List.getElem_mem hyn)
            have hszy := HSz.out _ (List.getElem_mem hyn)
            obtain ⟨av, cv, ev, _⟩ := hro.ia
            have HMP := hid0 (fun v => map_set2 (x := (k : Int)) hyn (v := v))
            have HGr := hid0 (fun (w2 : World) (o : Obj) (row : Option Nat) hrow hgrow => HBg.out.grown (w2 := w2) (o := o) (row := row) HPl.out.symm yn hyn hrow hgrow)
            have HSet := hid0 (fun (w1 : World) (v' : Value) (l' : List Int) hk hv hnew => HBg.out.set (w1 := w1) (v' := v') (l' := l') HPl.out.symm yn hyn hk hv hnew)
            have HRo := hid0 hro
            rw [ev] at cc HRo HSet HGr
            have hGs := (World.ownsRow.lt HBg.out.outer w.heap.size rfl).2
            have HMem : Hid (∀ (v' : Value), ∀ x ∈ ps.set yn (v', (ps[yn]).2 ++ [(k : Int)]), x.2.length ≤ m + (q + 1)) := hid0 (fun v' x hx => by
              rcases List.mem_or_eq_of_mem_set hx with hx | rfl
              · have := HSz.out x hx; omega
              · simp; omega)
            have hbs := HB.out.size
            clear hro ev hy hyk HMk HHit1 HMiss1
            generalize (ps[yn]).2 = T at *
            go_wp2_with (at_builtin; go_loud ((
              refine wpList_append_own_at _ rfl _ _ 23 rfl w.heap.size 3 i0 (.int .i64 0) 1 8 Tryd.underlying23 hi hz0 hz1 hz2 rfl (by decide) _ T.length (T.map (Value.int .i64)) rfl (World.ownsRow.alloc HRo.out _) ⟨wr.heap.size, 0, none⟩ 1 1 [.int .i64 (k : Int)] rfl rfl (cell_one_new _ _ _) (by simp [Value.oneCell']) (by unfold maxLen; omega) (by omega) (by simp; omega) ?_
              intro v2 w2 hown2 hgrow2 _ hat2
              obtain ⟨cc2, ff2, hk2⟩ := HGr.out w2 _ _ rfl hgrow2
              have hov : OwnI w2 w.heap.size v2 (T ++ [(k : Int)]) := by { unfold OwnI; rw [List.length_append, List.map_append]; exact hown2 }
              have hbg := HSet.out w2 v2 (T ++ [(k : Int)]) hk2 hov (fun q' hq' => hat2.elim (fun h => .inl (h.symm.trans hq')) (fun h => .inr (by have e := Option.some.inj (h.symm.trans hq'); simp at e; omega)))
              have HBg2 := hid0 hbg
              have hb2 : Below w.heap.size wr w2 := ((Below.refl w.heap.size wr).alloc (by omega) _).grown hgrow2 (by simp; omega) (fun k' hk' => (World.ownsRow.lt HRo.out k' hk').1)
              have HB2 := hid0 ((HB.out.trans (hb2.mono (by omega))).setCell (p := ⟨w.heap.size, yn, none⟩) (by show w.heap.size ≤ w.heap.size; omega) v2)
              obtain ⟨av2, cv2, ev2, _⟩ := hov.ia
              rw [List.length_append, List.length_singleton] at ev2
              subst ev2
              clear hown2 hgrow2 hat2 hov hbg hb2 hk2)))
            have HPl2 : Hid ((ps.set yn (Value.slice av2 (T.length + 1) cv2, T ++ [(k : Int)])).length = ks.length) := hid0 (by rw [List.length_set]; exact HPl.out)
            have HT2 : Hid (HoldI ks Le k (q + 1) ((ps.set yn (Value.slice av2 (T.length + 1) cv2, T ++ [(k : Int)])).map (·.2))) := hid0 (by rw [HMP.out]; exact HT1.out)
            have HSz2 := hid0 (HMem.out (Value.slice av2 (T.length + 1) cv2))
            clear HBg HPl HT HSz HB HMem HMP HSet HGr HRo HT1
            go_roundw
            case rel => exact ⟨q + 1, _, by omega, by go_num, HBg2, HPl2, HT2, HSz2, HB2⟩
            case measure => simp [intOf]; omega
          · have hlk := HMk.out.lookNot hyk hy
            have HT2 := hid0 (HMiss1.out _ HT.out hyk)
            have HSz2 : Hid (∀ x ∈ ps, x.2.length ≤ m + (q + 1)) := hid0 (fun x hx => by have := HSz.out x hx; omega)
            clear hy hyk HMk HHit1 HMiss1 HT HSz
            go_wp2
            go_roundw
            case rel => exact ⟨q + 1, ps, by omega, by go_num, HBg, HPl, HT2, HSz2, HB⟩
            case measure => simp [intOf]; omega
        · have hqI : ¬ (q : Int) < (r.length : Int) := by omega
          have HT2 := hid0 (HNext.out q _ HT.out (by omega))
          have HSz2 : Hid (∀ x ∈ ps, x.2.length ≤ sumL (Le.take (k + 1))) := hid0 (fun x hx => by have := HSz.out x hx; rw [HTk.out]; omega)
          clear HT HSz
          go_wp2
          go_roundw
          case rel => exact ⟨k + 1, ps, by omega, by go_num, HBg, HPl, HT2, HSz2, HB⟩
          case measure => simp [intOf]; omega
    · have hkI : ¬ (k : Int) < (Le.length : Int) := by omega
      have hke : k = Le.length := by omega
      subst hke
      have HBl : Hid (Bag wr w.heap.size (.slice (some ⟨w.heap.size, 0, none⟩) ks.length ks.length) ps) := hid0 ⟨owns_lower HBg.out.outer (by omega), fun x hx => owns_lower (HBg.out.row x hx) (by omega), HBg.out.apart, HBg.out.away⟩
      have HSz2 : Hid (LotLe ps) := hid0 (fun x hx => by have := HSz.out x hx; omega)
      go_wp2
      go_ret
      exact ⟨_, rfl, ps, HBl.out, HT.out, HSz2.out, HB.out⟩
end Go.Proofs.YtlkgghbdgjomkaaDoor
namespace Go.Proofs.YtlkgghbdgjomkaaDoor
open Go.RowKit Go.Shelf
/-- A word of bits of which those are set that f tells, from 64 * i on. -/
def wordOf (f : Nat → Bool) (i : Nat) : Nat := (List.range 64).foldr (fun k n => n ||| (if f (64 * i + k) then 2 ^ k else 0)) 0
theorem wordOf_bit (f : Nat → Bool) (i k : Nat) : (wordOf f i).testBit k = (decide (k < 64) && f (64 * i + k)) := by
  have key : ∀ (l : List Nat), (l.foldr (fun k n => n ||| (if f (64 * i + k) then 2 ^ k else 0)) 0).testBit k = (decide (k ∈ l) && f (64 * i + k)) := by
    intro l
    induction l with
    | nil => simp
    | cons a r ih =>
      rw [List.foldr_cons, Nat.testBit_or, ih]
      by_cases ha : k = a
      · subst ha
        cases hf : f (64 * i + k) <;> simp [Nat.testBit_two_pow_self]
      · cases hf : f (64 * i + a)
        · simp [ha]
        · simp [ha, Nat.testBit_two_pow_of_ne (fun h => ha h.symm)]
  rw [wordOf, key]
  simp
theorem wordOf_lt (f : Nat → Bool) (i : Nat) : wordOf f i < 2 ^ 64 := by
  apply Nat.lt_pow_two_of_testBit
  intro k hk
  rw [wordOf_bit]
  simp; omega
theorem word_and (f : Nat → Bool) (p : Nat) : (wordOf f (p / 64) &&& 2 ^ (p % 64) = 0) ↔ f p = false := by
  have hp : 64 * (p / 64) + p % 64 = p := by omega
  have hb := wordOf_bit f (p / 64) (p % 64)
  rw [hp, decide_eq_true (Nat.mod_lt p (by omega)), Bool.true_and] at hb
  constructor
  · intro h
    have h1 := congrArg (fun n => n.testBit (p % 64)) h
    simp only [Nat.testBit_and, Nat.testBit_two_pow_self, Nat.zero_testBit, Bool.and_true] at h1
    rw [← hb, h1]
  · intro h
    apply Nat.eq_of_testBit_eq
    intro k
    rw [Nat.testBit_and, Nat.zero_testBit]
    by_cases hk : k = p % 64
    · subst hk; rw [hb, h]; rfl
    · rw [Nat.testBit_two_pow_of_ne (fun e => hk e.symm), Bool.and_false]
theorem word_or (f : Nat → Bool) (p : Nat) : wordOf f (p / 64) ||| 2 ^ (p % 64) = wordOf (fun q => decide (q = p) || f q) (p / 64) := by
  apply Nat.eq_of_testBit_eq
  intro k
  rw [Nat.testBit_or, wordOf_bit, wordOf_bit]
  by_cases hk : k = p % 64
  · subst hk
    have hp : 64 * (p / 64) + p % 64 = p := by omega
    rw [hp, Nat.testBit_two_pow_self]
    simp; omega
  · rw [Nat.testBit_two_pow_of_ne (fun e => hk e.symm), Bool.or_false]
    by_cases hl : k < 64
    · have : ¬ 64 * (p / 64) + k = p := by omega
      simp [this]
    · simp [hl]
theorem word_other (f : Nat → Bool) (p i : Nat) (h : ¬ i = p / 64) : wordOf (fun q => decide (q = p) || f q) i = wordOf f i := by
  apply Nat.eq_of_testBit_eq
  intro k
  rw [wordOf_bit, wordOf_bit]
  by_cases hl : k < 64
  · have : ¬ 64 * i + k = p := by omega
    simp [this]
  · simp [hl]
/-- A set of places in m blocks. -/
structure BS (w : World) (g m : Nat) (f : Nat → Bool) : Prop where
  row : ∃ cur, w.heap[g]? = some (.cells cur 74 (0, 0)) ∧ ∀ i, i < 8 * m → cur[i]? = some (.int .u64 (wordOf f i : Int))
  out : ∀ q, 512 * m ≤ q → f q = false
theorem BS.cell {w : World} {g m : Nat} {f : Nat → Bool} (h : BS w g m f) (i : Nat) (hi : i < 8 * m) : w.cell? ⟨g, i, none⟩ = some (.int .u64 (wordOf f i : Int)) ∧ w.frozen? ⟨g, i, none⟩ = false := by
  obtain ⟨cur, h1, h2⟩ := h.row
  exact ⟨by rw [cell_of_row _ g _ _ _ _ h1]; exact h2 i hi, by simp [World.frozen?, h1]⟩
theorem BS.lt {w : World} {g m : Nat} {f : Nat → Bool} (h : BS w g m f) : g < w.heap.size := by
  obtain ⟨cur, h1, _⟩ := h.row
  exact (Array.getElem?_eq_some_iff.1 h1).1
theorem BS.kept {w w' : World} {g m : Nat} {f : Nat → Bool} (h : BS w g m f) (hk : w'.heap[g]? = w.heap[g]?) : BS w' g m f := by
  obtain ⟨cur, h1, h2⟩ := h.row
  exact ⟨⟨cur, hk.trans h1, h2⟩, h.out⟩
theorem BS.set {w : World} {g m : Nat} {f : Nat → Bool} (h : BS w g m f) (p : Nat) (hp : p < 512 * m) : BS (w.setCell ⟨g, p / 64, none⟩ (.int .u64 (wordOf (fun q => decide (q = p) || f q) (p / 64) : Int))) g m (fun q => decide (q = p) || f q) := by
  obtain ⟨cur, h1, h2⟩ := h.row
  refine ⟨⟨_, heap_setCell_same w g (p / 64) _ _ _ h1, fun i hi => ?_⟩, fun q hq => ?_⟩
  · by_cases e : i = p / 64
    · subst e
      have : p / 64 < cur.size := (Array.getElem?_eq_some_iff.1 (h2 _ hi)).1
      simp [this]
    · rw [Array.getElem?_setIfInBounds_ne (fun e' => e e'.symm), h2 i hi, word_other f p i e]
  · have : ¬ q = p := by omega
    simp [this, h.out q hq]
set_option maxRecDepth 10000 in
set_option maxHeartbeats 1600000 in
theorem add_any (A o g m : Nat) (f : Nat → Bool) (p : Nat) (w : World) (hp : p < 512 * m) (hm : m ≤ 1000000) (hs : w.cell? ⟨A, o, none⟩ = some (.slice (some ⟨g, 0, none⟩) m m)) (h : BS w g m f) :
    Calls Tryd.prog 56 #[.pointer (some ⟨A, o, none⟩), .int .i64 (p : Int)] w fun e w' => e = .returned (.tuple #[]) ∧ BS w' g m (fun q => decide (q = p) || f q) ∧ Only w w' (fun k => k = g) := by
  obtain ⟨d, hd⟩ : ∃ d : Nat, d = p / 512 := ⟨_, rfl⟩
  obtain ⟨r, hr⟩ : ∃ r : Nat, r = p % 512 := ⟨_, rfl⟩
  obtain ⟨e, he⟩ : ∃ e : Nat, e = r / 64 := ⟨_, rfl⟩
  obtain ⟨b, hb⟩ : ∃ b : Nat, b = 2 ^ (p % 64) := ⟨_, rfl⟩
  have hde : d * 8 + e = p / 64 := by omega
  obtain ⟨k0, k1⟩ := h.cell (p / 64) (by omega)
  have hp0 : (0 : Int) ≤ (p : Int) := by omega
  have hdI : (p : Int) / 512 = (d : Int) := by omega
  have hrI : (p : Int) % 512 = (r : Int) := by omega
  have heI' : (r : Int) / 64 = (e : Int) := by omega
  have hr0 : (0 : Int) ≤ (r : Int) := by omega
  have hdI1 : (d : Int) < (m : Int) := by omega
  have hdI0 : (0 : Int) ≤ (d : Int) := by omega
  have hdI2 : (d : Int) + 1 ≤ (m : Int) := by omega
  have heI1 : (e : Int) < 8 := by omega
  have heI0 : (0 : Int) ≤ (e : Int) := by omega
  have hmI : (0 : Int) ≤ (p : Int) % 64 := by omega
  have hmI2 : (p : Int) % 64 < 64 := by omega
  have hbl : b < 18446744073709551616 := by
    rw [hb]; exact Nat.lt_of_lt_of_le (Nat.pow_lt_pow_right (by omega) (Nat.mod_lt p (by omega) : p % 64 < 64)) (by decide)
  have hwb : IntKind.u64.wrap (2 ^ (p % 64)) = (b : Int) := by
    rw [hb, IntKind.wrap_u64]
    have e : (2 : Int) ^ (p % 64) = ((2 ^ (p % 64) : Nat) : Int) := by simp
    rw [e]
    rw [hb] at hbl
    omega
  obtain ⟨a, ha⟩ : ∃ a : Nat, a = wordOf f (p / 64) := ⟨_, rfl⟩
  rw [← ha] at k0
  obtain ⟨aI, haI⟩ : ∃ aI : Int, (a : Int) = aI := ⟨_, rfl⟩
  obtain ⟨bI, hbI⟩ : ∃ bI : Int, (b : Int) = bI := ⟨_, rfl⟩
  have hal : a < 18446744073709551616 := by rw [ha]; exact wordOf_lt _ _
  obtain ⟨eI, heI⟩ : ∃ eI : Int, ((a ||| b : Nat) : Int) = eI := ⟨_, rfl⟩
  have hor : bits .or .u64 aI bI = eI := by rw [← haI, ← hbI, ← heI]; exact bits_or_u64_nat a b hal hbl
  have hs2 := word_or f p
  rw [← ha, ← hb] at hs2
  have hBS := h.set p hp
  rw [← hs2, heI, ← hde] at hBS
  have HBS : Hid (∀ n, BS ((w.drewN n).setCell ⟨g, d * 8 + e, none⟩ (.int .u64 eI)) g m (fun q => decide (q = p) || f q)) := hid0 (fun n => ⟨hBS.row, hBS.out⟩)
  have HO : Hid (∀ n, Only w ((w.drewN n).setCell ⟨g, d * 8 + e, none⟩ (.int .u64 eI)) (fun k => k = g)) := hid0 (fun n => (Only.drewN w n _).trans (Only.setCell _ g _ _) (fun i hi => .inl hi))
  rw [haI, ← hde] at k0
  rw [← hde] at k1
  rw [hbI] at hwb
  clear hb hd hr he hde hp ha hbl haI hbI heI hal hs2 hBS h
  go_enter Tryd.func56, Tryd.ntmps56
  go_wp2
  go_region
  go_wp2
  go_end0
  exact ⟨rfl, HBS.out _, HO.out _⟩
end Go.Proofs.YtlkgghbdgjomkaaDoor
namespace Go.Proofs.YtlkgghbdgjomkaaDoor
open Go.RowKit Go.Shelf
def addF (l : List Int) (f : Nat → Bool) (q : Nat) : Bool := l.any (fun x => decide (x = (q : Int))) || f q
theorem addF_nil (f : Nat → Bool) : addF [] f = f := by funext q; simp [addF]
theorem addF_snoc {L : List Int} {k : Nat} (hk : k < L.length) {p : Nat} (hp : L[k] = (p : Int)) (f : Nat → Bool) : (fun q => decide (q = p) || addF (L.take k) f q) = addF (L.take (k + 1)) f := by
  funext q
  have e : decide ((p : Int) = (q : Int)) = decide (q = p) := by
    by_cases h : q = p
    · subst h; simp
    · rw [decide_eq_false h, decide_eq_false (by omega)]
  simp only [addF, List.take_succ_eq_append_getElem hk, List.any_append, hp, List.any_cons, List.any_nil, Bool.or_false, e]
  cases decide (q = p) <;> simp
theorem oneOf_at {n : Nat} {L : List Int} (h : L.all (oneOf n) = true) {k : Nat} (hk : k < L.length) : ∃ p : Nat, p < n ∧ L[k] = (p : Int) := by
  have := (oneOf_iff n L[k]).1 (List.all_eq_true.1 h _ (List.getElem_mem hk))
  exact ⟨(L[k]).toNat, by omega, by omega⟩
set_option maxRecDepth 10000 in
set_option maxHeartbeats 800000 in
theorem addAll_any (A o g m n : Nat) (f : Nat → Bool) (L : List Int) (a : Option Addr) (c : Nat) (w : World) (hl : L.length ≤ 100000000000000) (hm : m ≤ 1000000) (hn : n ≤ 512 * m) (hall : L.all (oneOf n) = true) (hAl : A < w.heap.size) (hA : ¬ A = g) (hs : w.cell? ⟨A, o, none⟩ = some (.slice (some ⟨g, 0, none⟩) m m)) (ha : IA w a L) (hag : ∀ p, a = some p → ¬ p.block = g) (h : BS w g m f) :
    Calls Tryd.prog 50 #[.pointer (some ⟨A, o, none⟩), .slice a L.length c] w fun e w' => e = .returned (.tuple #[]) ∧ BS w' g m (addF L f) ∧ Only w w' (fun k => k = g) := by
  have HAll := hid0 hall
  have HI := hid0 ha
  have HAg := hid0 hag
  have HB0 := hid0 h
  have HS := hid0 hs
  clear hall ha hag h hs
  go_enter Tryd.func50, Tryd.ntmps50
  go_wp2
  go_loopw [8] (fun i wr => ∃ k : Nat, k ≤ L.length ∧ i = .int .i64 (k : Int) ∧ Hid (BS wr g m (addF (L.take k) f)) ∧ Hid (Only w wr (fun k => k = g))) (fun i _ => L.length - (intOf i).toNat)
  case atStart => exact ⟨0, Nat.zero_le _, rfl, hid0 (by rw [List.take_zero, addF_nil]; exact HB0.out), hid0 (Only.refl _ _)⟩
  case round =>
    obtain ⟨k, hk, rfl, HB, HO⟩ := hrel
    by_cases hlt : k < L.length
    · obtain ⟨p, hp, hpk⟩ := oneOf_at HAll.out hlt
      obtain ⟨b, off, rfl, hb, d1⟩ := HI.out.at' k hlt
      have d2 : wr.cell? ⟨b, off + k, none⟩ = some (.int .i64 (p : Int)) := by
        rw [HO.out.cell (p := ⟨b, off + k, none⟩) hb (HAg.out ⟨b, off, none⟩ rfl), d1, hpk]
      have hkI : (k : Int) < (L.length : Int) := by omega
      have hkI0 : (0 : Int) ≤ (k : Int) := by omega
      have HC := hid0 (add_any A o g m _ p wr (by omega) hm ((HO.out.cell (p := ⟨A, o, none⟩) hAl hA).trans HS.out) HB.out)
      have HN := hid0 (addF_snoc hlt hpk f)
      clear d1 hpk
      go_wp2_with (go_at_call 56; refine HC.out.mono ?_; rintro e w1 ⟨rfl, hb1, ho1⟩; have HB1 := hid0 hb1; have HO1 := hid0 ho1; clear hb1 ho1)
      go_roundw
      case rel => exact ⟨k + 1, by omega, by go_num, hid0 (by rw [← HN.out]; exact HB1.out), hid0 (HO.out.trans HO1.out (fun i hi => .inl hi))⟩
      case measure => simp [intOf]; omega
    · have hkI : ¬ (k : Int) < (L.length : Int) := by omega
      have HE : Hid (BS wr g m (addF L f)) := hid0 (by have := HB.out; rwa [List.take_of_length_le (by omega)] at this)
      clear HB
      go_wp2
      go_end0
      exact ⟨rfl, HE.out, HO.out⟩
theorem word_ask (f : Nat → Bool) (p : Nat) : bits .and .u64 ((wordOf f (p / 64) : Int) / 2 ^ (p % 64)) 1 = if f p then 1 else 0 := by
  have hp : 64 * (p / 64) + p % 64 = p := by omega
  have hb := wordOf_bit f (p / 64) (p % 64)
  rw [hp, decide_eq_true (Nat.mod_lt p (by omega)), Bool.true_and, Nat.testBit_eq_decide_div_mod_eq] at hb
  have hl := wordOf_lt f (p / 64)
  have e : ((wordOf f (p / 64) : Int) / 2 ^ (p % 64)) = ((wordOf f (p / 64) / 2 ^ (p % 64) : Nat) : Int) := by simp
  have hq : wordOf f (p / 64) / 2 ^ (p % 64) < 2 ^ 64 := Nat.lt_of_le_of_lt (Nat.div_le_self _ _) hl
  rw [e, show (1 : Int) = ((1 : Nat) : Int) from rfl, bits_and_u64_nat _ _ hq (by decide), Nat.and_one_is_mod]
  cases hf : f p
  · rw [hf] at hb
    have := of_decide_eq_false hb
    simp only [Bool.false_eq_true, if_false]
    omega
  · rw [hf] at hb
    have := of_decide_eq_true hb
    simp only [if_true]
    omega
set_option maxRecDepth 10000 in
set_option maxHeartbeats 1600000 in
theorem hasOneOf_any (g m n : Nat) (f : Nat → Bool) (L : List Int) (a : Option Addr) (c : Nat) (w : World) (hl : L.length ≤ 100000000000000) (hm : m ≤ 1000000) (hn : n ≤ 512 * m) (hall : L.all (oneOf n) = true) (ha : IA w a L) (h : BS w g m f) :
    Calls Tryd.prog 35 #[.agg #[.slice (some ⟨g, 0, none⟩) m m], .slice a L.length c] w fun e w' => e = .returned (.bool (L.any (fun x => f x.toNat))) ∧ Below w.heap.size w w' := by
  have HAll := hid0 hall
  obtain ⟨w0, hw0⟩ : ∃ w0, w0 = w.alloc (.cells #[.slice (some ⟨g, 0, none⟩) m m] 56) := ⟨_, rfl⟩
  have hb0 : Below w.heap.size w w0 := by rw [hw0]; exact (Below.refl _ _).alloc (Nat.le_refl _) _
  have HI := hid0 (ha.past hb0)
  have HB0 := hid0 (h.kept (w' := w0) (hb0.block g h.lt))
  have hs : w0.cell? ⟨w.heap.size, 0, none⟩ = some (.slice (some ⟨g, 0, none⟩) m m) := by rw [hw0]; exact cell_one_new _ _ _ 0 _ rfl
  have HBe := hid0 hb0
  have hfold := hw0.symm
  clear hall ha h hb0 hw0
  go_enter Tryd.func35, Tryd.ntmps35
  go_wp2
  go_loopw [9] (fun i wr => ∃ k : Nat, k ≤ L.length ∧ i = .int .i64 (k : Int) ∧ wr = w0 ∧ Hid ((L.drop k).any (fun x => f x.toNat) = L.any (fun x => f x.toNat))) (fun i _ => L.length - (intOf i).toNat)
  case atStart => exact ⟨0, Nat.zero_le _, rfl, rfl, hid0 rfl⟩
  case round =>
    obtain ⟨k, hk, rfl, rfl, HD⟩ := hrel
    by_cases hlt : k < L.length
    · obtain ⟨p, hp, hpk⟩ := oneOf_at HAll.out hlt
      obtain ⟨b, off, rfl, hb, d1⟩ := HI.out.at' k hlt
      rw [hpk] at d1
      have HS : Hid ((L.drop k).any (fun x => f x.toNat) = (f p || (L.drop (k + 1)).any (fun x => f x.toNat))) := hid0 (by rw [List.drop_eq_getElem_cons hlt, List.any_cons, hpk]; rfl)
      have hkI : (k : Int) < (L.length : Int) := by omega
      have hkI0 : (0 : Int) ≤ (k : Int) := by omega
      obtain ⟨d, hd⟩ : ∃ d : Nat, d = p / 512 := ⟨_, rfl⟩
      obtain ⟨r, hr⟩ : ∃ r : Nat, r = p % 512 := ⟨_, rfl⟩
      obtain ⟨e, he⟩ : ∃ e : Nat, e = r / 64 := ⟨_, rfl⟩
      have hde : d * 8 + e = p / 64 := by omega
      obtain ⟨k0, k1⟩ := HB0.out.cell (p / 64) (by omega)
      have hp0 : (0 : Int) ≤ (p : Int) := by omega
      have hdI : (p : Int) / 512 = (d : Int) := by omega
      have hrI : (p : Int) % 512 = (r : Int) := by omega
      have heI' : (r : Int) / 64 = (e : Int) := by omega
      have hr0 : (0 : Int) ≤ (r : Int) := by omega
      have hdI1 : (d : Int) < (m : Int) := by omega
      have hdI0 : (0 : Int) ≤ (d : Int) := by omega
      have hdI2 : (d : Int) + 1 ≤ (m : Int) := by omega
      have heI1 : (e : Int) < 8 := by omega
      have heI0 : (0 : Int) ≤ (e : Int) := by omega
      have hmI : (0 : Int) ≤ (p : Int) % 64 := by omega
      have hmI2 : (p : Int) % 64 < 64 := by omega
      have hbit := word_ask f p
      rw [← hde] at k0 hbit
      clear hde hd hr he hpk
      cases hf : f p
      · have HD2 : Hid ((L.drop (k + 1)).any (fun x => f x.toNat) = L.any (fun x => f x.toNat)) := hid0 (by rw [← HD.out, HS.out, hf, Bool.false_or])
        rw [hf] at hbit
        simp only [Bool.false_eq_true, if_false] at hbit
        clear HS HD
        go_wp2
        go_roundw
        case rel => exact ⟨k + 1, by omega, by go_num, trivial, HD2⟩
        case measure => simp [intOf]; omega
      · have HD2 : Hid (L.any (fun x => f x.toNat) = true) := hid0 (by rw [← HD.out, HS.out, hf, Bool.true_or])
        rw [hf] at hbit
        simp only [if_true] at hbit
        clear HS HD
        go_wp2
        go_ret
        exact ⟨by rw [HD2.out]; rfl, HBe.out⟩
    · have hkI : ¬ (k : Int) < (L.length : Int) := by omega
      have HD2 : Hid (L.any (fun x => f x.toNat) = false) := hid0 (by rw [← HD.out, List.drop_of_length_le (by omega)]; rfl)
      clear HD
      go_wp2
      go_ret
      exact ⟨by rw [HD2.out]; rfl, HBe.out⟩
end Go.Proofs.YtlkgghbdgjomkaaDoor
namespace Go.Proofs.YtlkgghbdgjomkaaDoor
open Go.RowKit Go.Shelf
def zeroBlk : Value := .agg #[.int .u64 0, .int .u64 0, .int .u64 0, .int .u64 0, .int .u64 0, .int .u64 0, .int .u64 0, .int .u64 0]
theorem infoBlk : (Tryd.prog.info? 74).map (fun i => (i.zero, i.size, i.bytes)) = some (some zeroBlk, 8, 64) := by kernel_rfl
theorem wordOf_zero (i : Nat) : wordOf (fun _ => false) i = 0 := by
  apply Nat.eq_of_testBit_eq
  intro k
  rw [wordOf_bit]; simp
theorem made_blk (n i : Nat) (hi : i < n) : (madeCells zeroBlk.cells n)[i]? = some (.int .u64 0) := by
  have h8 : i % 8 = 0 ∨ i % 8 = 1 ∨ i % 8 = 2 ∨ i % 8 = 3 ∨ i % 8 = 4 ∨ i % 8 = 5 ∨ i % 8 = 6 ∨ i % 8 = 7 := by omega
  have hz : zeroBlk.cells = #[.int .u64 0, .int .u64 0, .int .u64 0, .int .u64 0, .int .u64 0, .int .u64 0, .int .u64 0, .int .u64 0] := by kernel_rfl
  have hs : zeroBlk.cells.size = 8 := by rw [hz]; rfl
  have : (madeCells zeroBlk.cells n)[i]? = some (zeroBlk.cells[i % 8]!) := by
    simp only [madeCells, Array.getElem?_map, Array.getElem?_range, hi, hs, if_true, Option.map_some]
  rw [this, hz]
  rcases h8 with h | h | h | h | h | h | h | h <;> rw [h] <;> rfl
set_option maxRecDepth 10000 in
set_option maxHeartbeats 800000 in
theorem roomFor_any (n : Nat) (w : World) (hn : n ≤ 100000000) :
    Calls Tryd.prog 47 #[.int .i64 (n : Int)] w fun e w' => ∃ g, e = .returned (.agg #[.slice (some ⟨g, 0, none⟩) ((n + 511) / 512) ((n + 511) / 512)]) ∧ w.heap.size ≤ g ∧ BS w' g ((n + 511) / 512) (fun _ => false) ∧ Below w.heap.size w w' := by
  obtain ⟨m, hm⟩ : ∃ m : Nat, m = (n + 511) / 512 := ⟨_, rfl⟩
  rw [← hm]
  have hmI : ((n : Int) + 512 - 1) / 512 = (m : Int) := by omega
  have hm1 : m ≤ 1000000 := by omega
  have hn0 : (0 : Int) ≤ (n : Int) + 512 - 1 := by omega
  have hnI : (n : Int) ≤ 100000000 := by omega
  have hmI0 : (0 : Int) ≤ (m : Int) := by omega
  obtain ⟨i0, hi, hz0, hz1, hz2⟩ := info_parts infoBlk
  obtain ⟨w0, hw0⟩ : ∃ w0, w0 = w.alloc (.cells #[.slice none 0 0] 56) := ⟨_, rfl⟩
  have hb0 : Below w.heap.size w w0 := by rw [hw0]; exact (Below.refl _ _).alloc (Nat.le_refl _) _
  have hr0 : w0.heap[w.heap.size]? = some (.cells #[.slice none 0 0] 56 (0, 0)) := by rw [hw0]; exact heap_alloc_new w _
  have hs0 : w0.heap.size = w.heap.size + 1 := by rw [hw0]; simp
  have hfold := hw0.symm
  have HB0 := hid0 hb0
  clear hw0 hb0 hm
  go_enter Tryd.func47, Tryd.ntmps47
  go_wp2_with (at_make; go_loud ((
    refine wpList_make_full _ rfl _ _ 54 rfl w0.heap.size 74 i0 zeroBlk 8 Tryd.underlying54 hi hz0 hz1 .i64 .i64 _ _ m rfl rfl hmI hmI (by rw [hz2]; omega) (by unfold maxLen; omega) (Nat.le_refl _) ?_
    intro w1 hown1 hgrow1
    have hb1 : Below w0.heap.size w0 w1 := ⟨hgrow1.os, hgrow1.tape, hgrow1.output, hgrow1.size, fun k hk => hgrow1.block k hk (by simp)⟩
    have hr1 : w1.heap[w.heap.size]? = some (.cells #[.slice none 0 0] 56 (0, 0)) := (hb1.block _ (by omega)).trans hr0
    have hc1 : w1.cell? ⟨w.heap.size, 0, none⟩ = some (.slice none 0 0) := by rw [cell_of_row _ _ _ _ _ _ hr1]; rfl
    have hf1 : w1.frozen? ⟨w.heap.size, 0, none⟩ = false := by simp [World.frozen?, hr1]
    have HBS : Hid (∀ u, BS (w1.setCell ⟨w.heap.size, 0, none⟩ u) w0.heap.size m (fun _ => false)) := hid0 (fun u => by {
      rcases hown1.2 with ⟨h, _⟩ | ⟨g, cap, cur, hv, _, hrow, _, _, hsz, htk⟩
      · simp at h
      · simp only [Value.slice.injEq, Option.some.injEq, Addr.mk.injEq] at hv
        obtain ⟨⟨hg, _⟩, _, hcap⟩ := hv
        subst hg; subst hcap
        refine ⟨⟨cur, by rw [Below.heap_setCell _ _ _ _ (by show w0.heap.size ≠ w.heap.size; omega)]; exact hrow, fun i hi' => ?_⟩, fun _ _ => rfl⟩
        have e1 : cur.toList[i]? = (cur.toList.take (m * 8))[i]? := by rw [List.getElem?_take_of_lt (by omega)]
        rw [← Array.getElem?_toList, e1, htk, Array.getElem?_toList, made_blk _ _ (by omega), wordOf_zero]
        rfl })
    have HBl : Hid (∀ u, Below w.heap.size w (w1.setCell ⟨w.heap.size, 0, none⟩ u)) := hid0 (fun u => (Below.later HB0.out (hb1.mono (by omega))).setCell (p := ⟨w.heap.size, 0, none⟩) (Nat.le_refl _) u)
    have hc2 : ∀ u, (w1.setCell ⟨w.heap.size, 0, none⟩ u).cell? ⟨w.heap.size, 0, none⟩ = some u := fun u => by rw [cell_of_row _ _ _ _ _ _ (heap_setCell_same w1 _ _ _ _ _ hr1)]; rfl
    clear hown1 hgrow1 hb1 hr1)))
  have hc3 := hc2 (.slice (some ⟨w.heap.size + 1, 0, none⟩) m m)
  have HE : Hid (w.heap.size ≤ w.heap.size + 1) := hid0 (by omega)
  rw [hs0] at HBS
  exact bodyPost_ret (v := .agg #[.slice (some ⟨w.heap.size + 1, 0, none⟩) m m]) (by simp [results, Tryd.results47, go_sem, hc3]) rfl ⟨_, rfl, HE.out, HBS.out _, HBl.out _⟩
end Go.Proofs.YtlkgghbdgjomkaaDoor
