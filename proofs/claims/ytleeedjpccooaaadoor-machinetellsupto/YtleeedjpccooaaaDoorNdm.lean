/-
  PlFbW, PlEdW, PlGbM, PlGcM, PlGdM, PlHaM, QlXW, QlYW, QlEdW, QlGcM, QlGdM, PlRM.
-/
import Derived.Test.YtleeedjpccooaaaDoorNdl
import Derived.Test.YtleeedjpccooaaaDoorNda
import Derived.Test.YtleeedjpccooaaaDoorNdc
import Derived.Laws.CopyRow
import Derived.Test.YtleeedjpccooaaaDoorNdg
import Derived.Test.YtleeedjpccooaaaDoorNdb
import Derived.Deep.RegionLaw
namespace Go.Proofs.YtleeedjpccooaaaDoor
open Go.RowKit Go.Shelf
/-- Lists of no great length. -/
def LotLe (ps : Lot) : Prop := ∀ x ∈ ps, x.2.length ≤ 100000000000000
theorem map_set2 {ps : Lot} {y : Nat} (hy : y < ps.length) {v : Value} {x : Int} : (ps.set y (v, (ps[y]).2 ++ [x])).map (·.2) = (ps.map (·.2)).set y ((ps.map (·.2)).getD y [] ++ [x]) := by
  rw [List.map_set, List.getD_eq_getElem?_getD, List.getElem?_map, List.getElem?_eq_getElem hy]
  rfl
set_option maxRecDepth 10000 in
set_option maxHeartbeats 3200000 in
theorem holdersOf_any (B mp : Nat) (ks : List Int) (Le : List (List Int)) (a : Option Addr) (c : Nat) (w : World) (hl : Le.length ≤ 4000000) (hr : ∀ r ∈ Le, r.length ≤ 4000000) (hin : ∀ r ∈ Le, ∀ z ∈ r, inI z) (hkl : ks.length ≤ 4000000) (hnd : ks.Nodup) (ha : RwA w a Le) (hBl : B < w.heap.size) (hB : w.cell? ⟨B, 1, none⟩ = some (.map (some mp))) (hmp : MapN w mp ks) :
    Calls Tryd.prog 79 #[.pointer (some ⟨B, 0, none⟩), .slice a Le.length c] w fun e w' => ∃ v, e = .returned v ∧ ∃ ps, Bag w' w.heap.size v ps ∧ HoldI ks Le Le.length 0 (ps.map (·.2)) ∧ LotLe ps ∧ Below w.heap.size w w' := by
  obtain ⟨i0, hi, hz0, hz1, hz2⟩ := info_parts infoInt
  obtain ⟨j0, hj, hy0, hy1, hy2⟩ := info_parts infoInts
  have HA := hid0 ha
  have HR := hid0 hr
  have HIn := hid0 hin
  have HNd := hid0 hnd
  have HSm := hid0 (fun k => sumL_le hr hl k)
  have HMp : Hid (∀ W, Below w.heap.size w W → MapN W mp ks) := hid0 (fun W hW => hmp.keep (hW.block mp hmp.lt))
  have HBc : Hid (∀ W, Below w.heap.size w W → W.cell? ⟨B, 1, none⟩ = some (.map (some mp))) := hid0 (fun W hW => (hW.cell (p := ⟨B, 1, none⟩) hBl).trans hB)
  have hlen : ∀ ty, (Builtin.len_ #[116] ty #[.map (some mp)]).run Tryd.prog w = .ok (.int .i64 (ks.length : Int)) w := fun ty => hmp.len ty
  have HMl := hid0 hmp.lt
  clear ha hr hin hnd hmp
  go_enter Tryd.func79, Tryd.ntmps79
  go_upto_region 3 with (at_make; refine wpList_make_full _ rfl _ _ 26 rfl w.heap.size 34 j0 (.slice none 0 0) 1 Tryd.underlying26 hj hy0 hy1 .i64 .i64 _ _ ks.length rfl rfl rfl rfl (by rw [hy2]; omega) (by unfold maxLen; omega) (Nat.le_refl _) ?_; intro w1 hown1 hgrow1; have HBg := hid0 (Bag.make hown1); have HB := hid0 ((Below.refl w.heap.size w).grown hgrow1 (Nat.le_refl _) (fun k hk => by cases hk)); clear hown1 hgrow1)
  have HT0 : Hid (HoldI ks Le 0 0 ((List.replicate ks.length ((Value.slice none 0 0, []) : Value × List Int)).map (·.2))) := hid0 (by rw [List.map_replicate]; exact hold_start ks Le)
  have HSz0 : Hid (∀ x ∈ List.replicate ks.length ((Value.slice none 0 0, []) : Value × List Int), x.2.length ≤ sumL (Le.take 0)) := hid0 (fun x hx => by rw [List.eq_of_mem_replicate hx]; simp)
  have HPl0 : Hid ((List.replicate ks.length ((Value.slice none 0 0, []) : Value × List Int)).length = ks.length) := hid0 (by simp)
  clear hlen hB
  go_loopw [20] (fun i w2 => ∃ (k : Nat) (ps : Lot), k ≤ Le.length ∧ i = .int .i64 (k : Int) ∧ Hid (Bag w2 w.heap.size (.slice (some ⟨w.heap.size, 0, none⟩) ks.length ks.length) ps) ∧ Hid (ps.length = ks.length) ∧ Hid (HoldI ks Le k 0 (ps.map (·.2))) ∧ Hid (∀ x ∈ ps, x.2.length ≤ sumL (Le.take k)) ∧ Hid (Below w.heap.size w w2)) (fun i _ => Le.length - (intOf i).toNat)
  case atStart => exact ⟨0, _, Nat.zero_le _, rfl, HBg, HPl0, HT0, HSz0, HB⟩
  case round =>
    clear HBg HPl0 HT0 HSz0 HB
    obtain ⟨k, ps, hk, rfl, HBg, HPl, HT, HSz, HB⟩ := hrel
    have hsk := HSm.out k
    by_cases hlt : k < Le.length
    · obtain ⟨b, off, rfl, _, a1, c1, d1, i1⟩ := (HA.out.past HB.out).at' k hlt
      have hkI : (k : Int) < (Le.length : Int) := by omega
      have hkI0 : (0 : Int) ≤ (k : Int) := by omega
      have hrl := HR.out _ (List.getElem_mem hlt)
      have HInk := hid0 (HIn.out _ (List.getElem_mem hlt))
      have HTk := hid0 (sumL_take hlt)
      have HHit := hid0 (fun q T (h : HoldI ks Le k q T) hq i0 hi e => HoldI.hit HNd.out h hlt hq i0 hi e)
      have HMiss := hid0 (fun q T (h : HoldI ks Le k q T) hq e => HoldI.miss h hlt hq e)
      have HNext := hid0 (fun q T (h : HoldI ks Le k q T) hq => HoldI.next h hlt hq)
      have HIk : Hid (∀ W, Below w.heap.size w W → IA W a1 Le[k]) := hid0 (fun W hW => by
        obtain ⟨b', off', e', _, a1', c1', d1', i1'⟩ := (HA.out.past hW).at' k hlt
        obtain ⟨b2, off2, e2, hb2, a12, c12, d12, _⟩ := HA.out.at' k hlt
        cases e'
        cases e2
        have q1 := (hW.cell (p := ⟨b, off + k, none⟩) hb2).trans d12
        have q2 := (HB.out.cell (p := ⟨b, off + k, none⟩) hb2).trans d12
        rw [q1] at d1'
        rw [q2] at d1
        simp only [Option.some.injEq, Value.slice.injEq] at d1 d1'
        rw [← d1.1, d1'.1]
        exact i1')
      clear i1
      generalize Le[k] = r at *
      generalize sumL (Le.take k) = m at *
      have HSz1 : Hid (∀ x ∈ ps, x.2.length ≤ m + 0) := HSz
      clear HSz
      go_wp2
      go_loopw [27] (fun i w2 => ∃ (q : Nat) (ps : Lot), q ≤ r.length ∧ i = .int .i64 (q : Int) ∧ Hid (Bag w2 w.heap.size (.slice (some ⟨w.heap.size, 0, none⟩) ks.length ks.length) ps) ∧ Hid (ps.length = ks.length) ∧ Hid (HoldI ks Le k q (ps.map (·.2))) ∧ Hid (∀ x ∈ ps, x.2.length ≤ m + q) ∧ Hid (Below w.heap.size w w2)) (fun i _ => r.length - (intOf i).toNat)
      case atStart => exact ⟨0, ps, Nat.zero_le _, rfl, HBg, HPl, HT, HSz1, HB⟩
      case round =>
        clear HBg HPl HT HSz1 HB
        obtain ⟨q, ps, hq, rfl, HBg, HPl, HT, HSz, HB⟩ := hrel
        by_cases hql : q < r.length
        · obtain ⟨b2, off2, rfl, _, d2⟩ := (HIk.out _ HB.out).at' q hql
          have hqI : (q : Int) < (r.length : Int) := by omega
          have hqI0 : (0 : Int) ≤ (q : Int) := by omega
          have hy := HInk.out _ (List.getElem_mem hql)
          have HHit1 := hid0 (fun T h i0 hi e => HHit.out q T h hql i0 hi e)
          have HMiss1 := hid0 (fun T h e => HMiss.out q T h hql e)
          have hBc := HBc.out _ HB.out
          have HMk := hid0 (HMp.out _ HB.out)
          generalize r[q] = y at *
          by_cases hyk : y ∈ ks
          · obtain ⟨yn, hyn0, rfl⟩ := List.mem_iff_getElem.1 hyk
            have hlk := HMk.out.look hyn0 hy
            have hyn : yn < ps.length := by rw [HPl.out]; exact hyn0
            have HT1 := hid0 (HHit1.out _ HT.out yn hyn0 rfl)
            generalize ks[yn] = y at *
            have hyI1 : (yn : Int) < (ks.length : Int) := by omega
            have hyI0 : (0 : Int) ≤ (yn : Int) := by omega
            obtain ⟨cc, ff⟩ := HBg.out.cells HPl.out.symm yn hyn
            have hro := HBg.out.row _ (List.getElem_mem hyn)
            have hszy := HSz.out _ (List.getElem_mem hyn)
            obtain ⟨av, cv, ev, _⟩ := hro.ia
            have HMP := hid0 (fun v => map_set2 (x := (k : Int)) hyn (v := v))
            have HGr := hid0 (fun (w2 : World) (o : Obj) (row : Option Nat) hrow hgrow => HBg.out.grown (w2 := w2) (o := o) (row := row) HPl.out.symm yn hyn hrow hgrow)
            have HSet := hid0 (fun (w1 : World) (v' : Value) (l' : List Int) hk hv hnew => HBg.out.set (w1 := w1) (v' := v') (l' := l') HPl.out.symm yn hyn hk hv hnew)
            have HRo := hid0 hro
            rw [ev] at cc HRo HSet HGr
            have hGs := (World.ownsRow.lt HBg.out.outer w.heap.size rfl).2
            have HMem : Hid (∀ (v' : Value), ∀ x ∈ ps.set yn (v', (ps[yn]).2 ++ [(k : Int)]), x.2.length ≤ m + (q + 1)) := hid0 (fun v' x hx => by
              rcases List.mem_or_eq_of_mem_set hx with hx | rfl
              · have := HSz.out x hx; omega
              · simp; omega)
            have hbs := HB.out.size
            clear hro ev hy hyk HMk HHit1 HMiss1
            generalize (ps[yn]).2 = T at *
            go_wp2_with (at_builtin; go_loud ((
              refine wpList_append_own_at _ rfl _ _ 34 rfl w.heap.size 3 i0 (.int .i64 0) 1 8 Tryd.underlying34 hi hz0 hz1 hz2 rfl (by decide) _ T.length (T.map (Value.int .i64)) rfl (World.ownsRow.alloc HRo.out _) ⟨wr.heap.size, 0, none⟩ 1 1 [.int .i64 (k : Int)] rfl rfl (cell_one_new _ _ _) (by simp [Value.oneCell']) (by unfold maxLen; omega) (by omega) (by simp; omega) ?_
              intro v2 w2 hown2 hgrow2 _ hat2
              obtain ⟨cc2, ff2, hk2⟩ := HGr.out w2 _ _ rfl hgrow2
              have hov : OwnI w2 w.heap.size v2 (T ++ [(k : Int)]) := by { unfold OwnI; rw [List.length_append, List.map_append]; exact hown2 }
              have hbg := HSet.out w2 v2 (T ++ [(k : Int)]) hk2 hov (fun q' hq' => hat2.elim (fun h => .inl (h.symm.trans hq')) (fun h => .inr (by have e := Option.some.inj (h.symm.trans hq'); simp at e; omega)))
              have HBg2 := hid0 hbg
              have hb2 : Below w.heap.size wr w2 := ((Below.refl w.heap.size wr).alloc (by omega) _).grown hgrow2 (by simp; omega) (fun k' hk' => (World.ownsRow.lt HRo.out k' hk').1)
              have HB2 := hid0 ((HB.out.trans (hb2.mono (by omega))).setCell (p := ⟨w.heap.size, yn, none⟩) (by show w.heap.size ≤ w.heap.size; omega) v2)
              obtain ⟨av2, cv2, ev2, _⟩ := hov.ia
              rw [List.length_append, List.length_singleton] at ev2
              subst ev2
              clear hown2 hgrow2 hat2 hov hbg hb2 hk2)))
            have HPl2 : Hid ((ps.set yn (Value.slice av2 (T.length + 1) cv2, T ++ [(k : Int)])).length = ks.length) := hid0 (by rw [List.length_set]; exact HPl.out)
            have HT2 : Hid (HoldI ks Le k (q + 1) ((ps.set yn (Value.slice av2 (T.length + 1) cv2, T ++ [(k : Int)])).map (·.2))) := hid0 (by rw [HMP.out]; exact HT1.out)
            have HSz2 := hid0 (HMem.out (Value.slice av2 (T.length + 1) cv2))
            clear HBg HPl HT HSz HB HMem HMP HSet HGr HRo HT1
            go_roundw
            case rel => exact ⟨q + 1, _, by omega, by go_num, HBg2, HPl2, HT2, HSz2, HB2⟩
            case measure => simp [intOf]; omega
          · have hlk := HMk.out.lookNot hyk hy
            have HT2 := hid0 (HMiss1.out _ HT.out hyk)
            have HSz2 : Hid (∀ x ∈ ps, x.2.length ≤ m + (q + 1)) := hid0 (fun x hx => by have := HSz.out x hx; omega)
            clear hy hyk HMk HHit1 HMiss1 HT HSz
            go_wp2
            go_roundw
            case rel => exact ⟨q + 1, ps, by omega, by go_num, HBg, HPl, HT2, HSz2, HB⟩
            case measure => simp [intOf]; omega
        · have hqI : ¬ (q : Int) < (r.length : Int) := by omega
          have HT2 := hid0 (HNext.out q _ HT.out (by omega))
          have HSz2 : Hid (∀ x ∈ ps, x.2.length ≤ sumL (Le.take (k + 1))) := hid0 (fun x hx => by have := HSz.out x hx; rw [HTk.out]; omega)
          clear HT HSz
          go_wp2
          go_roundw
          case rel => exact ⟨k + 1, ps, by omega, by go_num, HBg, HPl, HT2, HSz2, HB⟩
          case measure => simp [intOf]; omega
    · have hkI : ¬ (k : Int) < (Le.length : Int) := by omega
      have hke : k = Le.length := by omega
      subst hke
      have HBl : Hid (Bag wr w.heap.size (.slice (some ⟨w.heap.size, 0, none⟩) ks.length ks.length) ps) := hid0 ⟨owns_lower HBg.out.outer (by omega), fun x hx => owns_lower (HBg.out.row x hx) (by omega), HBg.out.apart, HBg.out.away⟩
      have HSz2 : Hid (LotLe ps) := hid0 (fun x hx => by have := HSz.out x hx; omega)
      go_wp2
      go_ret
      exact ⟨_, rfl, ps, HBl.out, HT.out, HSz2.out, HB.out⟩
end Go.Proofs.YtleeedjpccooaaaDoor
namespace Go.Proofs.YtleeedjpccooaaaDoor
open Go.RowKit Go.Shelf
theorem zero_blk (m i : Nat) (hi : i < m * 8) : (Builtin.zeroCells zeroBlk.cells m)[i]? = some (.int .u64 0) := by
  have h8 : i % 8 = 0 ∨ i % 8 = 1 ∨ i % 8 = 2 ∨ i % 8 = 3 ∨ i % 8 = 4 ∨ i % 8 = 5 ∨ i % 8 = 6 ∨ i % 8 = 7 := by omega
  have hz : zeroBlk.cells = #[.int .u64 0, .int .u64 0, .int .u64 0, .int .u64 0, .int .u64 0, .int .u64 0, .int .u64 0, .int .u64 0] := by kernel_rfl
  have hs : zeroBlk.cells.size = 8 := by rw [hz]; rfl
  have : (Builtin.zeroCells zeroBlk.cells m)[i]? = some (zeroBlk.cells[i % 8]!) := by
    simp only [Builtin.zeroCells, Array.getElem?_map, Array.getElem?_range, hi, hs, if_true, Option.map_some]
  rw [this, hz]
  rcases h8 with h | h | h | h | h | h | h | h <;> rw [h] <;> rfl
theorem clear_blk (g m : Nat) (f : Nat → Bool) (w : World) (h : BS w g m f) : ∃ w', (∀ ty, (Builtin.clear_ #[117] ty #[.slice (some ⟨g, 0, none⟩) m m]).run Tryd.prog w = .ok (.tuple #[]) w') ∧ BS w' g m (fun _ => false) ∧ Only w w' (fun k => k = g) := by
  obtain ⟨cur, h1, h2⟩ := h.row
  cases m with
  | zero => exact ⟨w, fun ty => by simp [Builtin.clear_, run_underlying Tryd.underlying117, Result.andThen], ⟨⟨cur, h1, fun i hi => absurd hi (Nat.not_lt_zero _)⟩, fun _ _ => rfl⟩, Only.refl _ _⟩
  | succ m =>
    have hzl : (Builtin.zeroCells zeroBlk.cells (m + 1)).toList.length = (m + 1) * 8 := by
      have hs : zeroBlk.cells.size = 8 := by kernel_rfl
      simp [Builtin.zeroCells, hs]
    have hmem : ∀ v ∈ (Builtin.zeroCells zeroBlk.cells (m + 1)).toList, v = .int .u64 0 := fun v hv => by
      obtain ⟨i, hi, rfl⟩ := List.mem_iff_getElem.1 hv
      have := zero_blk (m + 1) i (by rw [hzl] at hi; exact hi)
      rw [← Array.getElem?_toList, List.getElem?_eq_getElem hi] at this
      exact Option.some.inj this
    have hcs : (m + 1) * 8 ≤ cur.size := by
      have := (Array.getElem?_eq_some_iff.1 (h2 (8 * (m + 1) - 1) (by omega))).1
      omega
    have hrun := run_storeCells_at (P := Tryd.prog) g 0 149 (Builtin.zeroCells zeroBlk.cells (m + 1)).toList 0 cur w h1 (by rw [hzl]; omega) (fun v hv => by rw [hmem v hv]; rfl)
    refine ⟨_, fun ty => by simp [Builtin.clear_, run_underlying Tryd.underlying117, Tryd.zeroValue149, Result.andThen, Sem.run_bind]; exact (by rw [show (Value.agg #[.int .u64 0, .int .u64 0, .int .u64 0, .int .u64 0, .int .u64 0, .int .u64 0, .int .u64 0, .int .u64 0]) = zeroBlk from rfl, hrun]), ?_, ?_⟩
    · refine ⟨⟨_, setRow_heap w g cur _ _ _ h1, fun i hi => ?_⟩, fun _ _ => rfl⟩
      rw [wordOf_zero]
      simp only [Nat.zero_add, List.take_zero, List.nil_append, List.getElem?_toArray]
      rw [List.getElem?_append_left (by rw [hzl]; omega), Array.getElem?_toList, zero_blk _ _ (by omega)]
      rfl
    · exact ⟨rfl, rfl, rfl, by simp [World.setRow], fun k _ hk => setRow_other w g k _ hk⟩
/-- Rows of places, one beside the other. -/
structure Rws (w : World) (g m : Nat) (Ls : List (List Int)) (R : Nat → Prop) : Prop where
  lt : g < w.heap.size
  in' : R g
  at' : ∀ k (h : k < Ls.length), ∃ x u v, w.cell? ⟨g, k * 2, none⟩ = some u ∧ w.cell? ⟨g, k * 2 + 1, none⟩ = some v ∧ RowIs w m Ls[k] x (.agg #[u, v]) ∧ ∀ b, x = some b → R b
theorem Rws.only {w w' : World} {g m : Nat} {Ls : List (List Int)} {R S : Nat → Prop} (h : Rws w g m Ls R) (ho : Only w w' S) (hs : ∀ k, R k → ¬ S k) : Rws w' g m Ls R :=
  ⟨Nat.lt_of_lt_of_le h.lt ho.size, h.in', fun k hk => by
    obtain ⟨x, u, v, h1, h2, h3, h4⟩ := h.at' k hk
    exact ⟨x, u, v, (ho.cell (p := ⟨g, k * 2, none⟩) h.lt (hs g h.in')).trans h1, (ho.cell (p := ⟨g, k * 2 + 1, none⟩) h.lt (hs g h.in')).trans h2, h3.only ho (fun b hb => hs b (h4 b hb)), h4⟩⟩
/-- A walk in memory: where it is, and where a step may lead to. -/
structure Wk (w : World) (B gf gh ga gn mp m cF cH : Nat) (ks : List Int) (Fo H : List (List Int)) (fa fx : Nat → Bool) (R : Nat → Prop) : Prop where
  row : w.heap[B]? = some (.cells #[.slice (some ⟨gf, 0, none⟩) Fo.length cF, .map (some mp), .slice (some ⟨gh, 0, none⟩) H.length cH, .slice (some ⟨ga, 0, none⟩) m m, .slice (some ⟨gn, 0, none⟩) m m] 121 (0, 0))
  fo : Rws w gf m Fo R
  ho : Rws w gh m H R
  nu : MapN w mp ks
  at' : BS w ga m fa
  nx : BS w gn m fx
  tab : TabAt 11 Lib.deBruijn64tab w
  tabl : 11 < w.heap.size
  rB : R B
  rm : R mp
  rt : R 11
  ra : ∀ k, R k → ¬ k = ga ∧ ¬ k = gn
  ne : ¬ ga = gn
theorem tab_only {w w' : World} {S : Nat → Prop} (h : TabAt 11 Lib.deBruijn64tab w) (hl : 11 < w.heap.size) (ho : Only w w' S) (hs : ¬ S 11) : TabAt 11 Lib.deBruijn64tab w' := fun j hj => (ho.cell (p := ⟨11, j, none⟩) hl hs).trans (h j hj)
/-- Where the places of a list lead to. -/
def nxF (Fo : List (List Int)) (pre : List Nat) : Nat → Bool := pre.foldl (fun f p => addF (Fo.getD p []) f) (fun _ => false)
theorem nxF_snoc (Fo : List (List Int)) (pre : List Nat) (p : Nat) (hp : p < Fo.length) : nxF Fo (pre ++ [p]) = addF Fo[p] (nxF Fo pre) := by
  unfold nxF
  rw [List.foldl_append]
  simp only [List.foldl_cons, List.foldl_nil]
  rw [List.getD_eq_getElem?_getD, List.getElem?_eq_getElem hp]
  rfl
/-- What is left behind a step: where the walk is. -/
def stepAt (L : List Int) (fx : Nat → Bool) (m : Nat) : Nat → Bool := andTo (addF L (fun _ => false)) fx (64 * (m * 8))
end Go.Proofs.YtleeedjpccooaaaDoor
namespace Go.Proofs.YtleeedjpccooaaaDoor
open Go.RowKit Go.Shelf
theorem infoRow : (Tryd.prog.info? 142).map (fun i => (i.zero, i.size, i.bytes)) = some (some (.agg #[.slice none 0 0, .slice none 0 0]), 2, 48) := by kernel_rfl
/-- Rows that are made. -/
def Made (W : World) (g n : Nat) : Prop := ∃ cur, W.heap[g]? = some (.cells cur 142 (0, 0)) ∧ n * 2 ≤ cur.size
theorem Made.keep {W W' : World} {g n : Nat} (h : Made W g n) (hb : W'.heap[g]? = W.heap[g]?) : Made W' g n := by
  obtain ⟨cur, h1, h2⟩ := h
  exact ⟨cur, hb.trans h1, h2⟩
theorem Made.lt {W : World} {g n : Nat} (h : Made W g n) : g < W.heap.size := by
  obtain ⟨cur, h1, _⟩ := h
  exact (Array.getElem?_eq_some_iff.1 h1).1
theorem Made.cell {W : World} {g n : Nat} (h : Made W g n) (i : Nat) (hi : i < n * 2) : (∃ u, W.cell? ⟨g, i, none⟩ = some u) ∧ W.frozen? ⟨g, i, none⟩ = false := by
  obtain ⟨cur, h1, h2⟩ := h
  refine ⟨⟨cur[i]'(by omega), ?_⟩, by simp [World.frozen?, h1]⟩
  rw [cell_of_row _ _ _ _ _ _ h1]
  exact Array.getElem?_eq_getElem (by omega)
theorem Made.set {W : World} {g n : Nat} (h : Made W g n) (i : Nat) (u : Value) : Made (W.setCell ⟨g, i, none⟩ u) g n := by
  obtain ⟨cur, h1, h2⟩ := h
  exact ⟨_, heap_setCell_same W g i _ _ u h1, by simpa using h2⟩
theorem make_rows (n : Nat) (w : World) (hn : n ≤ 4000000) : ∃ w', (Instr.makeSlice 115 (.int .i64 (n : Int)) (.int .i64 (n : Int))).run Tryd.prog w = .ok (.slice (some ⟨w.heap.size, 0, none⟩) n n) w' ∧ Made w' w.heap.size n ∧ Below w.heap.size w w' := by
  obtain ⟨i0, hi, hz0, hz1, hz2⟩ := info_parts infoRow
  obtain ⟨w', h1, h2, h3⟩ := run_make_full (P := Tryd.prog) w w.heap.size 115 142 i0 _ 2 Tryd.underlying115 hi hz0 hz1 .i64 .i64 n (by rw [hz2]; omega) (by unfold maxLen; omega) (Nat.le_refl _)
  refine ⟨w', h1, ?_, (Below.refl _ _).grown h3 (Nat.le_refl _) (fun k hk => by cases hk)⟩
  rcases h2.2 with ⟨hv, _⟩ | ⟨g, cap, cur, hv, _, hr, hc, _, hsz, _⟩
  · simp at hv
  · simp only [Value.slice.injEq, Option.some.injEq, Addr.mk.injEq] at hv
    obtain ⟨⟨hg, _⟩, _, hcap⟩ := hv
    subst hg; subst hcap
    exact ⟨cur, hr, by omega⟩
theorem make_map (w : World) : ∃ w', (Instr.makeMap 116 none).run Tryd.prog w = .ok (.map (some w.heap.size)) w' ∧ MapN w' w.heap.size [] ∧ Below w.heap.size w w' :=
  ⟨_, rfl, MapN.made w, (Below.refl _ _).alloc (Nat.le_refl _) _⟩
/-- A walk as it begins. -/
structure NwI (w0 W : World) (n m gF mp ga gn B : Nat) : Prop where
  row : W.heap[B]? = some (.cells #[.slice (some ⟨gF, 0, none⟩) n n, .map (some mp), .slice none 0 0, .slice (some ⟨ga, 0, none⟩) m m, .slice (some ⟨gn, 0, none⟩) m m] 121 (0, 0))
  fol : Made W gF n
  nu : MapN W mp []
  at' : BS W ga m (fun _ => false)
  nx : BS W gn m (fun _ => false)
  bel : Below w0.heap.size w0 W
  lo : w0.heap.size ≤ gF ∧ w0.heap.size ≤ mp ∧ w0.heap.size ≤ ga ∧ w0.heap.size ≤ gn ∧ w0.heap.size ≤ B
  ne : ¬ gF = mp ∧ ¬ gF = ga ∧ ¬ gF = gn ∧ ¬ gF = B ∧ ¬ mp = ga ∧ ¬ mp = gn ∧ ¬ mp = B ∧ ¬ ga = gn ∧ ¬ ga = B ∧ ¬ gn = B
theorem BS.below {w w' : World} {g m : Nat} {f : Nat → Bool} (h : BS w g m f) (hb : Below w.heap.size w w') : BS w' g m f := h.kept (hb.block g h.lt)
theorem MapN.below {w w' : World} {B : Nat} {ks : List Int} (h : MapN w B ks) (hb : Below w.heap.size w w') : MapN w' B ks := h.keep (hb.block B h.lt)
theorem Made.below {w w' : World} {g n : Nat} (h : Made w g n) (hb : Below w.heap.size w w') : Made w' g n := h.keep (hb.block g h.lt)
end Go.Proofs.YtleeedjpccooaaaDoor
namespace Go.Proofs.YtleeedjpccooaaaDoor
open Go.RowKit Go.Shelf
theorem RowIs.shape {w : World} {m : Nat} {L : List Int} {x : Option Nat} {v : Value} (h : RowIs w m L x v) : ∃ a1 n1 c1 a2 n2 c2, v = .agg #[.slice a1 n1 c1, .slice a2 n2 c2] := by
  cases h with
  | short a c h => exact ⟨_, _, _, _, _, _, rfl⟩
  | long g h => exact ⟨_, _, _, _, _, _, rfl⟩
/-- Lists of numbers in memory, in blocks that there are. -/
structure RwB (w : World) (a : Option Addr) (L : List (List Int)) : Prop where
  at' : ∀ k (h : k < L.length), ∃ b off, a = some ⟨b, off, none⟩ ∧ b < w.heap.size ∧ ∃ a1 c1, w.cell? ⟨b, off + k, none⟩ = some (.slice a1 (L[k]).length c1) ∧ IA w a1 L[k] ∧ ∀ p, a1 = some p → p.block < w.heap.size
theorem RwB.past {w w' : World} {a : Option Addr} {L : List (List Int)} (h : RwB w a L) (hb : Below w.heap.size w w') : RwB w' a L := ⟨fun k hk => by
  obtain ⟨b, off, rfl, h1, a1, c1, h2, h3, h4⟩ := h.at' k hk
  exact ⟨b, off, rfl, Nat.lt_of_lt_of_le h1 hb.size, a1, c1, (hb.cell (p := ⟨b, off + k, none⟩) h1).trans h2, h3.past hb, fun p hp => Nat.lt_of_lt_of_le (h4 p hp) hb.size⟩⟩
/-- Blocks other than those of the walk. -/
def Oth (gF mp ga gn B b : Nat) : Prop := ¬ b = gF ∧ ¬ b = mp ∧ ¬ b = ga ∧ ¬ b = gn ∧ ¬ b = B
/-- The first k rows. -/
structure FolI (W : World) (g m k : Nat) (Ls : List (List Int)) (Rb : Nat → Prop) : Prop where
  at' : ∀ i (h : i < Ls.length), i < k → ∃ x u v, W.cell? ⟨g, i * 2, none⟩ = some u ∧ W.cell? ⟨g, i * 2 + 1, none⟩ = some v ∧ RowIs W m Ls[i] x (.agg #[u, v]) ∧ ∀ b, x = some b → b < W.heap.size ∧ Rb b
theorem FolI.only {W W' : World} {g m k : Nat} {Ls : List (List Int)} {Rb S : Nat → Prop} (h : FolI W g m k Ls Rb) (hg : g < W.heap.size) (ho : Only W W' S) (hs : ¬ S g) (hb : ∀ b, Rb b → ¬ S b) : FolI W' g m k Ls Rb := ⟨fun i hi hk => by
  obtain ⟨x, u, v, h1, h2, h3, h4⟩ := h.at' i hi hk
  exact ⟨x, u, v, (ho.cell (p := ⟨g, i * 2, none⟩) hg hs).trans h1, (ho.cell (p := ⟨g, i * 2 + 1, none⟩) hg hs).trans h2, h3.only ho (fun b e => hb b (h4 b e).2), fun b e => ⟨Nat.lt_of_lt_of_le (h4 b e).1 ho.size, (h4 b e).2⟩⟩⟩
theorem cell_two {W : World} {g n i j : Nat} (h : Made W g n) (u v : Value) (hi : i < n * 2) : ((W.setCell ⟨g, j, none⟩ u).setCell ⟨g, j + 1, none⟩ v).cell? ⟨g, i, none⟩ = if i = j + 1 then some v else if i = j then some u else W.cell? ⟨g, i, none⟩ := by
  obtain ⟨cur, h1, h2⟩ := h
  have e1 := heap_setCell_same W g j _ _ u h1
  have e2 := heap_setCell_same _ g (j + 1) _ _ v e1
  have hc : i < cur.size := by omega
  rw [cell_of_row _ _ _ _ _ _ e2, cell_of_row _ _ _ _ _ _ h1]
  by_cases h3 : i = j + 1
  · subst h3
    rw [if_pos rfl]
    simp [hc]
  · rw [if_neg h3]
    by_cases h4 : i = j
    · subst h4
      rw [if_pos rfl, Array.getElem?_setIfInBounds_ne (by omega)]
      simp [hc]
    · rw [if_neg h4, Array.getElem?_setIfInBounds_ne (by omega), Array.getElem?_setIfInBounds_ne (by omega)]
/-- Row k is put. -/
theorem FolI.put {W : World} {g m k n : Nat} {Ls : List (List Int)} {Rb : Nat → Prop} (h : FolI W g m k Ls Rb) (hM : Made W g n) (hn : Ls.length ≤ n) (hg : ∀ b, Rb b → ¬ b = g) (hk : k < Ls.length) (x : Option Nat) (u v : Value) (hr : RowIs W m Ls[k] x (.agg #[u, v])) (hx : ∀ b, x = some b → b < W.heap.size ∧ Rb b) :
    FolI ((W.setCell ⟨g, k * 2, none⟩ u).setCell ⟨g, k * 2 + 1, none⟩ v) g m (k + 1) Ls Rb := by
  have ho : Only W ((W.setCell ⟨g, k * 2, none⟩ u).setCell ⟨g, k * 2 + 1, none⟩ v) (fun b => b = g) := (Only.setCell W g (k * 2) u).trans (Only.setCell _ g (k * 2 + 1) v) (fun i hi => .inl hi)
  refine ⟨fun i hi hk' => ?_⟩
  rw [cell_two hM u v (show i * 2 < n * 2 by omega), cell_two hM u v (show i * 2 + 1 < n * 2 by omega)]
  by_cases e : i = k
  · subst e
    rw [if_neg (show ¬ i * 2 = i * 2 + 1 by omega), if_pos rfl, if_pos rfl]
    exact ⟨x, u, v, rfl, rfl, hr.only ho (fun b e => hg b (hx b e).2), fun b e => ⟨Nat.lt_of_lt_of_le (hx b e).1 ho.size, (hx b e).2⟩⟩
  · obtain ⟨x', u', v', h1, h2, h3, h4⟩ := h.at' i hi (by omega)
    rw [if_neg (by omega), if_neg (by omega), if_neg (by omega), if_neg (by omega)]
    exact ⟨x', u', v', h1, h2, h3.only ho (fun b e => hg b (h4 b e).2), fun b e => ⟨Nat.lt_of_lt_of_le (h4 b e).1 ho.size, (h4 b e).2⟩⟩
/-- A walk that is being made. -/
structure NwL (w0 W : World) (n m gF mp ga gn B k : Nat) (ks : List Int) (Fo : List (List Int)) (vH : Value) : Prop where
  row : W.heap[B]? = some (.cells #[.slice (some ⟨gF, 0, none⟩) n n, .map (some mp), vH, .slice (some ⟨ga, 0, none⟩) m m, .slice (some ⟨gn, 0, none⟩) m m] 121 (0, 0))
  fol : Made W gF n
  rws : FolI W gF m k Fo (Oth gF mp ga gn B)
  nu : MapN W mp ks
  at' : BS W ga m (fun _ => false)
  nx : BS W gn m (fun _ => false)
  bel : Below w0.heap.size w0 W
def Apart5 (w0 : World) (gF mp ga gn B : Nat) : Prop := (w0.heap.size ≤ gF ∧ w0.heap.size ≤ mp ∧ w0.heap.size ≤ ga ∧ w0.heap.size ≤ gn ∧ w0.heap.size ≤ B) ∧ ¬ gF = mp ∧ ¬ gF = ga ∧ ¬ gF = gn ∧ ¬ gF = B ∧ ¬ mp = ga ∧ ¬ mp = gn ∧ ¬ mp = B ∧ ¬ ga = gn ∧ ¬ ga = B ∧ ¬ gn = B
theorem NwI.begin {w0 W : World} {n m gF mp ga gn B : Nat} (Fo : List (List Int)) (h : NwI w0 W n m gF mp ga gn B) : NwL w0 W n m gF mp ga gn B 0 [] Fo (.slice none 0 0) ∧ Apart5 w0 gF mp ga gn B :=
  ⟨⟨h.row, h.fol, ⟨fun _ _ hk => absurd hk (Nat.not_lt_zero _)⟩, h.nu, h.at', h.nx, h.bel⟩, h.lo, h.ne⟩
theorem NwL.past {w0 W W' : World} {n m gF mp ga gn B k : Nat} {ks : List Int} {Fo : List (List Int)} {vH : Value} (h : NwL w0 W n m gF mp ga gn B k ks Fo vH) (hb : Below W.heap.size W W') : NwL w0 W' n m gF mp ga gn B k ks Fo vH :=
  ⟨(hb.block B (Array.getElem?_eq_some_iff.1 h.row).1).trans h.row, h.fol.below hb, h.rws.only h.fol.lt (Only.ofNew hb (fun _ => False)) (fun e => e) (fun _ _ e => e), h.nu.below hb, h.at'.below hb, h.nx.below hb, h.bel.trans (hb.mono h.bel.size)⟩
theorem NwL.put {w0 W : World} {n m gF mp ga gn B k : Nat} {ks : List Int} {Fo : List (List Int)} {vH : Value} (h : NwL w0 W n m gF mp ga gn B k ks Fo vH) (hA : Apart5 w0 gF mp ga gn B) (hn : Fo.length ≤ n) (hk : k < Fo.length) (x : Option Nat) (u v : Value) (hr : RowIs W m Fo[k] x (.agg #[u, v])) (hx : ∀ b, x = some b → b < W.heap.size ∧ Oth gF mp ga gn B b) :
    NwL w0 ((W.setCell ⟨gF, k * 2, none⟩ u).setCell ⟨gF, k * 2 + 1, none⟩ v) n m gF mp ga gn B (k + 1) ks Fo vH := by
  obtain ⟨⟨l1, l2, l3, l4, l5⟩, n1, n2, n3, n4, n5, n6, n7, n8, n9, n10⟩ := hA
  have hb : ∀ b, ¬ b = gF → ((W.setCell ⟨gF, k * 2, none⟩ u).setCell ⟨gF, k * 2 + 1, none⟩ v).heap[b]? = W.heap[b]? := fun b hb => by
    rw [Below.heap_setCell _ _ _ b hb, Below.heap_setCell _ _ _ b hb]
  exact ⟨(hb B (fun e => n4 e.symm)).trans h.row, (h.fol.set _ _).set _ _, h.rws.put h.fol hn (fun b hb => hb.1) hk x u v hr hx, h.nu.keep (hb mp (fun e => n1 e.symm)), h.at'.kept (hb ga (fun e => n2 e.symm)), h.nx.kept (hb gn (fun e => n3 e.symm)), (h.bel.setCell (p := ⟨gF, k * 2, none⟩) l1 u).setCell (p := ⟨gF, k * 2 + 1, none⟩) l1 v⟩
theorem NwL.map {w0 W W' : World} {n m gF mp ga gn B k : Nat} {ks ks' : List Int} {Fo : List (List Int)} {vH : Value} (h : NwL w0 W n m gF mp ga gn B k ks Fo vH) (hA : Apart5 w0 gF mp ga gn B) (hg : W.grownBy W' (some mp)) (hm : MapN W' mp ks') : NwL w0 W' n m gF mp ga gn B k ks' Fo vH := by
  obtain ⟨⟨l1, l2, l3, l4, l5⟩, n1, n2, n3, n4, n5, n6, n7, n8, n9, n10⟩ := hA
  have ho : Only W W' (fun b => b = mp) := ⟨hg.os, hg.tape, hg.output, hg.size, fun i hi hs => hg.block i hi (fun e => hs (Option.some.inj e))⟩
  exact ⟨(ho.block B (Array.getElem?_eq_some_iff.1 h.row).1 (fun e => n7 e.symm)).trans h.row, h.fol.keep (ho.block gF h.fol.lt n1), h.rws.only h.fol.lt ho n1 (fun b hb => hb.2.1), hm, h.at'.only ho (fun e => n5 e.symm), h.nx.only ho (fun e => n6 e.symm), h.bel.trans (ho.below h.bel.size (fun i hi => by subst hi; exact l2))⟩
theorem NwL.setH {w0 W : World} {n m gF mp ga gn B k : Nat} {ks : List Int} {Fo : List (List Int)} {vH : Value} (h : NwL w0 W n m gF mp ga gn B k ks Fo vH) (hA : Apart5 w0 gF mp ga gn B) (v : Value) : NwL w0 (W.setCell ⟨B, 2, none⟩ v) n m gF mp ga gn B k ks Fo v := by
  obtain ⟨⟨l1, l2, l3, l4, l5⟩, n1, n2, n3, n4, n5, n6, n7, n8, n9, n10⟩ := hA
  have ho := Only.setCell W B 2 v
  exact ⟨heap_setCell_same _ _ 2 _ _ v h.row, h.fol.keep (ho.block gF h.fol.lt n4), h.rws.only h.fol.lt ho n4 (fun b hb => hb.2.2.2.2), h.nu.keep (ho.block mp h.nu.lt n7), h.at'.only ho n9, h.nx.only ho n10, h.bel.setCell (p := ⟨B, 2, none⟩) l5 v⟩
theorem NwL.cells {w0 W : World} {n m gF mp ga gn B k : Nat} {ks : List Int} {Fo : List (List Int)} {vH : Value} (h : NwL w0 W n m gF mp ga gn B k ks Fo vH) : W.cell? ⟨B, 0, none⟩ = some (.slice (some ⟨gF, 0, none⟩) n n) ∧ W.cell? ⟨B, 1, none⟩ = some (.map (some mp)) ∧ W.cell? ⟨B, 2, none⟩ = some vH ∧ W.frozen? ⟨B, 2, none⟩ = false :=
  ⟨by rw [cell_of_row _ _ _ _ _ _ h.row]; rfl, by rw [cell_of_row _ _ _ _ _ _ h.row]; rfl, by rw [cell_of_row _ _ _ _ _ _ h.row]; rfl, by simp [World.frozen?, h.row]⟩
/-- The rows of holders that have been added. -/
def HolI (W Wb : World) (m k : Nat) (H : List (List Int)) (Rb : Nat → Prop) (vH : Value) : Prop := ∃ xs, W.ownsRow Wb.heap.size 142 2 vH k xs ∧ ∀ i (h : i < H.length), i < k → ∃ x u v, xs[i * 2]? = some u ∧ xs[i * 2 + 1]? = some v ∧ RowIs W m H[i] x (.agg #[u, v]) ∧ ∀ b, x = some b → (b < W.heap.size ∧ Rb b) ∧ vH.ownBlock ≠ some b
theorem HolI.begin (W Wb : World) (m : Nat) (H : List (List Int)) (Rb : Nat → Prop) : HolI W Wb m 0 H Rb (.slice none 0 0) := ⟨[], World.ownsRow_nil _ _ _ _, fun _i _ hk => absurd hk (Nat.not_lt_zero _)⟩
theorem HolI.only {W W' Wb : World} {m k : Nat} {H : List (List Int)} {Rb S : Nat → Prop} {vH : Value} (h : HolI W Wb m k H Rb vH) (ho : Only W W' S) (hs : ∀ b, S b → b < Wb.heap.size) (hb : ∀ b, Rb b → ¬ S b) : HolI W' Wb m k H Rb vH := by
  obtain ⟨xs, h1, h2⟩ := h
  refine ⟨xs, own_blk h1 (fun g hg => ho.block g (World.ownsRow.lt h1 g hg).2 (fun s => by have := hs g s; have := (World.ownsRow.lt h1 g hg).1; omega)), fun i hi hk => ?_⟩
  obtain ⟨x, u, v, e1, e2, h3, h4⟩ := h2 i hi hk
  exact ⟨x, u, v, e1, e2, h3.only ho (fun b e => hb b (h4 b e).1.2), fun b e => ⟨⟨Nat.lt_of_lt_of_le (h4 b e).1.1 ho.size, (h4 b e).1.2⟩, (h4 b e).2⟩⟩
/-- One more row. -/
theorem HolI.put {W1 W2 Wb : World} {m k : Nat} {H : List (List Int)} {Rb : Nat → Prop} {vH v' : Value} {xs : List Value} (h1 : W1.ownsRow Wb.heap.size 142 2 vH k xs)
    (h2 : ∀ i (h : i < H.length), i < k → ∃ x u v, xs[i * 2]? = some u ∧ xs[i * 2 + 1]? = some v ∧ RowIs W1 m H[i] x (.agg #[u, v]) ∧ ∀ b, x = some b → (b < W1.heap.size ∧ Rb b) ∧ vH.ownBlock ≠ some b) (hk : k < H.length)
    (x : Option Nat) (u v : Value) (hr : RowIs W1 m H[k] x (.agg #[u, v])) (hx : ∀ b, x = some b → (b < W1.heap.size ∧ Rb b) ∧ vH.ownBlock ≠ some b) (hown : W2.ownsRow Wb.heap.size 142 2 v' (k + 1) (xs ++ [u, v])) (hg : W1.grownBy W2 vH.ownBlock) (hat : v'.ownBlock = vH.ownBlock ∨ v'.ownBlock = some W1.heap.size) :
    HolI W2 Wb m (k + 1) H Rb v' := by
  have hl : xs.length = k * 2 := by
    have e1 := h1.1
    exact e1
  have ho : Only W1 W2 (fun b => vH.ownBlock = some b) := ⟨hg.os, hg.tape, hg.output, hg.size, fun i hi hs => hg.block i hi (fun e => hs e.symm)⟩
  have hne : ∀ b, b < W1.heap.size → vH.ownBlock ≠ some b → v'.ownBlock ≠ some b := fun b hb hn e => by
    rcases hat with h | h
    · exact hn (h ▸ e)
    · rw [h] at e
      have := Option.some.inj e
      omega
  refine ⟨_, hown, fun i hi hk' => ?_⟩
  by_cases e : i = k
  · subst e
    refine ⟨x, u, v, ?_, ?_, hr.only ho (fun b e => (hx b e).2), fun b e => ⟨⟨Nat.lt_of_lt_of_le (hx b e).1.1 ho.size, (hx b e).1.2⟩, hne b (hx b e).1.1 (hx b e).2⟩⟩
    · rw [List.getElem?_append_right (by omega), hl, Nat.sub_self]; rfl
    · rw [List.getElem?_append_right (by omega), hl, show i * 2 + 1 - i * 2 = 1 by omega]; rfl
  · obtain ⟨x', u', v'', q1, q2, q3, q4⟩ := h2 i hi (by omega)
    have b1 := (List.getElem?_eq_some_iff.1 q1).1
    have b2 := (List.getElem?_eq_some_iff.1 q2).1
    refine ⟨x', u', v'', ?_, ?_, q3.only ho (fun b e => (q4 b e).2), fun b e => ⟨⟨Nat.lt_of_lt_of_le (q4 b e).1.1 ho.size, (q4 b e).1.2⟩, hne b (q4 b e).1.1 (q4 b e).2⟩⟩
    · rw [List.getElem?_append_left b1]; exact q1
    · rw [List.getElem?_append_left b2]; exact q2
theorem Bag.rwb {w : World} {base : Nat} {v : Value} {ps : Lot} (h : Bag w base v ps) {H : List (List Int)} (hH : ps.map (fun x : Value × List Int => x.2) = H) : ∃ a c, v = .slice a H.length c ∧ ∀ k (hk : k < H.length), ∃ b, a = some ⟨b, 0, none⟩ ∧ base ≤ b ∧ b < w.heap.size ∧ ∃ a1 c1, w.cell? ⟨b, k, none⟩ = some (.slice a1 (H[k]).length c1) ∧ IA w a1 H[k] ∧ ∀ p, a1 = some p → base ≤ p.block ∧ p.block < w.heap.size := by
  subst hH
  have h0 := h.outer
  rcases h0.2 with ⟨hv, hn⟩ | ⟨g, cap, cur, hv, hg, _⟩
  · have hps : ps = [] := List.eq_nil_of_length_eq_zero (by omega)
    subst hps
    exact ⟨none, 0, hv, fun k hk => by simp at hk⟩
  · refine ⟨some ⟨g, 0, none⟩, cap, by rw [hv, List.length_map], fun k hk => ?_⟩
    have hk' : k < ps.length := by simpa using hk
    have hr := h.row ps[k] (List.getElem_mem hk')
    have hr0 := hr
    rw [hv] at h0
    obtain ⟨a1, c1, e1, hq⟩ := hr.ia
    refine ⟨g, rfl, hg, (World.ownsRow.lt h0 g rfl).2, a1, c1, ?_, ?_, ?_⟩
    · rw [World.ownsRow.cellAt h0 k (by omega)]
      simp [hk', e1]
    · simp only [List.getElem_map]
      exact hq
    · rintro p rfl
      rcases hr0.2 with ⟨hv1, _⟩ | ⟨g1, cap1, cur1, hv1, _⟩
      · rw [e1] at hv1
        cases hv1
      · rw [e1] at hv1
        simp only [Value.slice.injEq, Option.some.injEq] at hv1
        obtain ⟨rfl, _⟩ := hv1
        exact World.ownsRow.lt hr0 g1 (by rw [e1]; rfl)
theorem NwL.onlyB {w0 Wb W : World} {n m gF mp ga gn B k : Nat} {ks : List Int} {Fo : List (List Int)} {v0 vH : Value} (h : NwL w0 Wb n m gF mp ga gn B k ks Fo v0) (hA : Apart5 w0 gF mp ga gn B) (ho : Only Wb W (fun b => b = B))
    (hr : W.heap[B]? = some (.cells #[.slice (some ⟨gF, 0, none⟩) n n, .map (some mp), vH, .slice (some ⟨ga, 0, none⟩) m m, .slice (some ⟨gn, 0, none⟩) m m] 121 (0, 0))) : NwL w0 W n m gF mp ga gn B k ks Fo vH := by
  obtain ⟨⟨l1, l2, l3, l4, l5⟩, n1, n2, n3, n4, n5, n6, n7, n8, n9, n10⟩ := hA
  exact ⟨hr, h.fol.keep (ho.block gF h.fol.lt n4), h.rws.only h.fol.lt ho n4 (fun b hb => hb.2.2.2.2), h.nu.keep (ho.block mp h.nu.lt n7), h.at'.only ho n9, h.nx.only ho n10, h.bel.trans (ho.below h.bel.size (fun i hi => by subst hi; exact l5))⟩
end Go.Proofs.YtleeedjpccooaaaDoor
namespace Go.Proofs.YtleeedjpccooaaaDoor
open Go.RowKit Go.Shelf
/-- What newWalk leaves. -/
def NwR (w : World) (Le Fo : List (List Int)) (Fi Wd : List Int) (e : Ending) (w' : World) : Prop := ∃ B gf gh ga gn mp cF cH ks H, e = .returned (.pointer (some ⟨B, 0, none⟩)) ∧ Wk w' B gf gh ga gn mp ((Le.length + 511) / 512) cF cH ks Fo H (fun _ => false) (addF Fi (fun _ => false)) (fun k => ¬ k = ga ∧ ¬ k = gn) ∧
  (∀ c ∈ Wd, c ∈ ks) ∧ (∀ c ∈ ks, inI c) ∧ ks.length ≤ 4000000 ∧ HoldI ks Le Le.length 0 H ∧ (∀ r ∈ H, r.length ≤ 100000000000000) ∧ (w.heap.size ≤ ga ∧ w.heap.size ≤ gn) ∧ Below w.heap.size w w'
theorem drew_below (w : World) : Below w.heap.size w w.drew := ⟨rfl, rfl, rfl, Nat.le_refl _, fun _ _ => rfl⟩
theorem cell_pair_new (w : World) (u v : Value) (t : TypeId) : ∀ j x, [u, v][j]? = some x → (w.alloc (.cells #[u, v] t)).cell? ((⟨w.heap.size, 0, none⟩ : Addr).add j) = some x := by
  intro j x h
  rw [Addr.add_lit, cell_of_row _ w.heap.size _ _ _ _ (heap_alloc_new w _), Nat.zero_add]
  simpa using h
theorem below_drew {w w2 : World} (h : Below w.drew.heap.size w.drew w2) : Below w.heap.size w w2 := ⟨h.os, h.tape, h.output, h.size, h.block⟩
theorem oth_old {w0 : World} {gF mp ga gn B b : Nat} (h : Apart5 w0 gF mp ga gn B) (hb : b < w0.heap.size) : Oth gF mp ga gn B b := by
  obtain ⟨⟨l1, l2, l3, l4, l5⟩, _⟩ := h
  exact ⟨by omega, by omega, by omega, by omega, by omega⟩
theorem oth_new {w0 W : World} {n m gF mp ga gn B k b : Nat} {ks : List Int} {Fo : List (List Int)} {vH : Value} (h : NwL w0 W n m gF mp ga gn B k ks Fo vH) (hb : W.heap.size ≤ b) : Oth gF mp ga gn B b := by
  have h1 := h.fol.lt
  have h2 := h.nu.lt
  have h3 := h.at'.lt
  have h4 := h.nx.lt
  have h5 := (Array.getElem?_eq_some_iff.1 h.row).1
  exact ⟨by omega, by omega, by omega, by omega, by omega⟩
theorem nw_end {w w0 Wb W w2 : World} {Le Fo H : List (List Int)} {Fi Wd ks : List Int} {m gF mp ga gn B : Nat} {v0 vH : Value} (hm : m = (Le.length + 511) / 512) (hb0 : Below w.heap.size w w0) (hLb : NwL w0 Wb Le.length m gF mp ga gn B Fo.length ks Fo v0) (hL : NwL w0 W Le.length m gF mp ga gn B Fo.length ks Fo vH) (hA : Apart5 w0 gF mp ga gn B)
    (hH : HolI W Wb m H.length H (Oth gF mp ga gn B) vH) (hHp : 0 < H.length) (hFl : Fo.length = Le.length) (hadd : BS w2 gn m (addF Fi (fun _ => false))) (ho : Only W w2 (fun k => k = gn)) (hT : TabAt 11 Lib.deBruijn64tab w) (hT11 : 11 < w.heap.size)
    (h1 : ∀ c ∈ Wd, c ∈ ks) (h2 : ∀ c ∈ ks, inI c) (h3 : ks.length ≤ 4000000) (h4 : HoldI ks Le Le.length 0 H) (h5 : ∀ r ∈ H, r.length ≤ 100000000000000) : NwR w Le Fo Fi Wd (.returned (.pointer (some ⟨B, 0, none⟩))) w2 := by
  subst hm
  have hA0 := hA
  obtain ⟨⟨l1, l2, l3, l4, l5⟩, n1, n2, n3, n4, n5, n6, n7, n8, n9, n10⟩ := hA
  obtain ⟨xs, hox, hrx⟩ := hH
  obtain ⟨gh, cH, rfl, hg1, hg2, hg3⟩ := own_form hox hHp
  have ka := hLb.at'.lt
  have kn := hLb.nx.lt
  have hsz := hb0.size
  have hbw2 : Below w.heap.size w w2 := Below.later hb0 (hL.bel.trans (ho.below hL.bel.size (fun i hi => by subst hi; exact l4)))
  have hf2 := hL.rws.only hL.fol.lt ho n3 (fun b hb => hb.2.2.2.1)
  refine ⟨B, gF, gh, ga, gn, mp, Le.length, cH, ks, H, rfl, ⟨?_, ?_, ?_, hL.nu.keep (ho.block mp hL.nu.lt n6), hL.at'.only ho n8, hadd, fun j hj => (hbw2.cell (p := ⟨11, j, none⟩) hT11).trans (hT j hj), Nat.lt_of_lt_of_le hT11 hbw2.size, ⟨fun e => n9 e.symm, fun e => n10 e.symm⟩, ⟨n5, n6⟩, ⟨by omega, by omega⟩, fun k hk => hk, n8⟩, h1, h2, h3, h4, h5, ⟨by omega, by omega⟩, hbw2⟩
  · rw [hFl]
    exact (ho.block B (Array.getElem?_eq_some_iff.1 hL.row).1 (fun e => n10 e.symm)).trans hL.row
  · refine ⟨Nat.lt_of_lt_of_le hL.fol.lt ho.size, ⟨n2, n3⟩, fun k hk => ?_⟩
    obtain ⟨x, u, v, e1, e2, e3, e4⟩ := hf2.at' k hk hk
    exact ⟨x, u, v, e1, e2, e3, fun b hb => ⟨(e4 b hb).2.2.2.1, (e4 b hb).2.2.2.2.1⟩⟩
  · refine ⟨Nat.lt_of_lt_of_le hg2 ho.size, ⟨by omega, by omega⟩, fun k hk => ?_⟩
    obtain ⟨x, u, v, e1, e2, e3, e4⟩ := hrx k hk hk
    have hcell : ∀ j y, xs[j]? = some y → w2.cell? ⟨gh, j, none⟩ = some y := fun j y hy => by
      rw [ho.cell (p := ⟨gh, j, none⟩) hg2 (by show ¬ gh = gn; omega)]
      have hl : xs.length = H.length * 2 := hox.1
      have hj := (List.getElem?_eq_some_iff.1 hy).1
      rw [World.ownsRow.cellAt hox j (by omega)]
      exact hy
    exact ⟨x, u, v, hcell _ _ e1, hcell _ _ e2, e3.only ho (fun b hb => (e4 b hb).1.2.2.2.2.1), fun b hb => ⟨(e4 b hb).1.2.2.2.1, (e4 b hb).1.2.2.2.2.1⟩⟩
end Go.Proofs.YtleeedjpccooaaaDoor
namespace Go.Proofs.YtleeedjpccooaaaDoor
theorem addF_has (L : List Int) (q : Nat) : addF L (fun _ => false) q = hasL L (q : Int) := by
  unfold addF hasL
  rw [Bool.or_false]
  rfl
theorem nxF_any (Fo : List (List Int)) (t : Nat) : ∀ (pre : List Nat) (f : Nat → Bool), (pre.foldl (fun f p => addF (Fo.getD p []) f) f) t = (pre.any (fun p => hasL (Fo.getD p []) (t : Int)) || f t)
  | [], f => by simp
  | p :: r, f => by
    rw [List.foldl_cons, nxF_any Fo t r, List.any_cons]
    have : addF (Fo.getD p []) f t = (hasL (Fo.getD p []) (t : Int) || f t) := rfl
    rw [this]
    cases hasL (Fo.getD p []) (t : Int) <;> simp
theorem nxF_next (Fo : List (List Int)) (f : Nat → Bool) (n : Nat) (hf : ∀ q, f q = true → q < Fo.length) (hn : Fo.length ≤ n) : nxF Fo (plB f n) = nextF Fo f := by
  funext t
  unfold nxF nextF partF plB
  rw [nxF_any, Bool.or_false, Bool.eq_iff_iff, List.any_eq_true, List.any_eq_true]
  constructor
  · rintro ⟨p, hp, h⟩
    rw [List.mem_filter] at hp
    exact ⟨p, List.mem_range.2 (hf p hp.2), by rw [hp.2, h]; rfl⟩
  · rintro ⟨p, hp, h⟩
    rw [Bool.and_eq_true] at h
    exact ⟨p, List.mem_filter.2 ⟨List.mem_range.2 (by have := List.mem_range.1 hp; omega), h.1⟩, h.2⟩
theorem hold_lt {Le : List (List Int)} {c : Int} {q : Nat} (h : holdF Le c q = true) : q < Le.length := by
  apply Classical.byContradiction
  intro hq
  rw [holdF, List.getD_eq_getElem?_getD, List.getElem?_eq_none (by omega)] at h
  cases h
theorem at_lt {Le : List (List Int)} {nx : Nat → Bool} {c : Int} {q : Nat} (h : atF Le nx c q = true) : q < Le.length := by
  unfold atF at h
  rw [Bool.and_eq_true] at h
  exact hold_lt h.2
theorem stepAt_at {Le : List (List Int)} {L : List Int} {fx : Nat → Bool} {m : Nat} {c : Int} (hL : ∀ p : Nat, hasL L (p : Int) = holdF Le c p) (hm : Le.length ≤ 512 * m) : stepAt L fx m = atF Le fx c := by
  funext q
  unfold stepAt andTo atF
  rw [addF_has, hL]
  by_cases h : holdF Le c q = true
  · have := hold_lt h
    rw [h, decide_eq_false (show ¬ 64 * (m * 8) ≤ q by omega)]
    simp
  · rw [Bool.not_eq_true] at h
    rw [h]
    simp
/-- What is left to be said, from where the walk is and where a step may lead to. -/
def cM (Le Fo : List (List Int)) (La : List Int) (fa fx : Nat → Bool) : List Int → Bool
  | [] => lastF La fa
  | d :: r => contM Le Fo La (atF Le fx d) r
theorem cM_next (Le Fo : List (List Int)) (La : List Int) (f : Nat → Bool) : ∀ l, cM Le Fo La f (nextF Fo f) l = contM Le Fo La f l
  | [] => rfl
  | _ :: _ => rfl
theorem cM_drop {Le Fo : List (List Int)} {La : List Int} {fa fx : Nat → Bool} {Wd : List Int} {k : Nat} (hk : k < Wd.length) : cM Le Fo La fa fx (Wd.drop k) = cM Le Fo La (atF Le fx Wd[k]) (nextF Fo (atF Le fx Wd[k])) (Wd.drop (k + 1)) := by
  rw [List.drop_eq_getElem_cons hk, cM_next]
  rfl
theorem cont_none (Le Fo : List (List Int)) (La : List Int) : ∀ (l : List Int) (f : Nat → Bool), (∀ q, f q = false) → contM Le Fo La f l = false
  | [], f, h => by simp [contM, lastF, h]
  | d :: r, f, h => by
    rw [contM]
    refine cont_none Le Fo La r _ (fun q => ?_)
    have : nextF Fo f q = false := by simp [nextF, partF, h]
    simp [atF, this]
theorem cM_start {Le Fo : List (List Int)} {Fi La : List Int} {em : Bool} {Wd : List Int} (hs : soundP Le.length Fi La Fo = true) (hw : 0 < Wd.length) : cM Le Fo La (fun _ => false) (addF Fi (fun _ => false)) (Wd.drop 0) = matM Le Fo Fi La em Wd := by
  cases Wd with
  | nil => simp at hw
  | cons c r =>
    rw [matM, hs, Bool.true_and, List.drop_zero, cM, run_cont]
    have : addF Fi (fun _ => false) = fun q : Nat => hasL Fi (q : Int) := by funext q; exact addF_has Fi q
    rw [this]
theorem em_none {Le : List (List Int)} {fx : Nat → Bool} {c : Int} {m : Nat} (h : emF (atF Le fx c) m = true) (hm : Le.length ≤ 512 * m) (q : Nat) : atF Le fx c q = false := by
  by_cases hq : q < 512 * m
  · exact (emF_iff _ _).1 h q hq
  · cases h2 : atF Le fx c q with
    | false => rfl
    | true => have := at_lt h2; omega
end Go.Proofs.YtleeedjpccooaaaDoor
namespace Go.Proofs.YtleeedjpccooaaaDoor
open Go.RowKit Go.Shelf
/-- Where a list lies, if it has anything. -/
def blkL (a : Option Addr) (L : List Int) : Option Nat := if L = [] then none else a.map (·.block)
theorem blkL_at {a : Option Addr} {L : List Int} (h : L ≠ []) {p : Addr} (hp : a = some p) : blkL a L = some p.block := by
  unfold blkL
  rw [if_neg h, hp]
  rfl
theorem blkL_none {a : Option Addr} {L : List Int} {b : Nat} (h : blkL a L = some b) : L ≠ [] ∧ ∃ p, a = some p ∧ p.block = b := by
  unfold blkL at h
  split at h
  · cases h
  · rename_i hl
    obtain ⟨p, h1, h2⟩ := Option.map_eq_some_iff.1 h
    exact ⟨hl, p, h1, h2⟩
theorem IA.onlyE {w w' : World} {a : Option Addr} {L : List Int} {S : Nat → Prop} (h : IA w a L) (ho : Only w w' S) (hs : L ≠ [] → ∀ p, a = some p → ¬ S p.block) : IA w' a L := ⟨fun k hk => by
  obtain ⟨b, off, rfl, h1, h2⟩ := h.at' k hk
  have hl : L ≠ [] := by rintro rfl; simp at hk
  exact ⟨b, off, rfl, Nat.lt_of_lt_of_le h1 ho.size, (ho.cell (p := ⟨b, off + k, none⟩) h1 (hs hl ⟨b, off, none⟩ rfl)).trans h2⟩⟩
set_option maxRecDepth 10000 in
set_option maxHeartbeats 800000 in
theorem addAllE_any (A o g m n : Nat) (f : Nat → Bool) (L : List Int) (a : Option Addr) (c : Nat) (w : World) (hl : L.length ≤ 100000000000000) (hm : m ≤ 1000000) (hn : n ≤ 512 * m) (hall : L.all (oneOf n) = true) (hAl : A < w.heap.size) (hA : ¬ A = g) (hs : w.cell? ⟨A, o, none⟩ = some (.slice (some ⟨g, 0, none⟩) m m)) (ha : IA w a L) (hag : L ≠ [] → ∀ p, a = some p → ¬ p.block = g) (h : BS w g m f) :
    Calls Tryd.prog 80 #[.pointer (some ⟨A, o, none⟩), .slice a L.length c] w fun e w' => e = .returned (.tuple #[]) ∧ BS w' g m (addF L f) ∧ Only w w' (fun k => k = g) := by
  by_cases hL : L = []
  · subst hL
    have HB := hid0 h
    clear ha hag h hs hall
    go_enter Tryd.func80, Tryd.ntmps80
    go_wp2
    go_loopw [8] (fun i wr => i = .int .i64 0 ∧ wr = w) (fun _ _ => 0)
    case atStart => exact ⟨rfl, rfl⟩
    case round =>
      obtain ⟨rfl, rfl⟩ := hrel
      go_wp2
      go_end0
      exact ⟨rfl, by rw [addF_nil]; exact HB.out, Only.refl _ _⟩
  · exact addAll_any A o g m n f L a c w hl hm hn hall hAl hA hs ha (hag hL) h
/-- A row of places. -/
inductive RowJs (w : World) (m : Nat) (L : List Int) : Option Nat → Value → Prop
  | short (a : Option Addr) (c : Nat) (h : IA w a L) : RowJs w m L (blkL a L) (.agg #[.slice a L.length c, .slice none 0 0])
  | long (g : Nat) (h : BS w g m (addF L (fun _ => false))) : RowJs w m L (some g) (.agg #[.slice none 0 0, .slice (some ⟨g, 0, none⟩) m m])
theorem RowJs.only {w w' : World} {m : Nat} {L : List Int} {x : Option Nat} {v : Value} {S : Nat → Prop} (h : RowJs w m L x v) (ho : Only w w' S) (hs : ∀ b, x = some b → ¬ S b) : RowJs w' m L x v := by
  cases h with
  | short a c h => exact .short a c (h.onlyE ho (fun hl p hp => hs _ (blkL_at hl hp)))
  | long g h => exact .long g (h.only ho (hs g rfl))
set_option maxRecDepth 10000 in
set_option maxHeartbeats 1600000 in
theorem joinToj_any (A o g m n : Nat) (f : Nat → Bool) (L : List Int) (x : Option Nat) (v : Value) (w : World) (hl : L.length ≤ 100000000000000) (hm : m ≤ 1000000) (hn : n ≤ 512 * m) (hall : L.all (oneOf n) = true) (hAl : A < w.heap.size) (hA : ¬ A = g) (hs : w.cell? ⟨A, o, none⟩ = some (.slice (some ⟨g, 0, none⟩) m m)) (h : BS w g m f) (hv : RowJs w m L x v) (hx : ¬ x = some g) :
    Calls Tryd.prog 81 #[v, .pointer (some ⟨A, o, none⟩)] w fun e w' => e = .returned (.tuple #[]) ∧ BS w' g m (addF L f) ∧ Only w w' (fun k => k = g) := by
  have hgl := h.lt
  cases hv with
  | short a c hi =>
    obtain ⟨w0, hw0⟩ : ∃ w0, w0 = w.alloc (.cells #[.slice a L.length c, .slice none 0 0] 142) := ⟨_, rfl⟩
    have ho0 : Only w w0 (fun k => k = g) := by rw [hw0]; exact Only.alloc _ _ _
    have hb0 : Below w.heap.size w w0 := by rw [hw0]; exact (Below.refl _ _).alloc (Nat.le_refl _) _
    have hr0 : w0.heap[w.heap.size]? = some (.cells #[.slice a L.length c, .slice none 0 0] 142 (0, 0)) := by rw [hw0]; exact heap_alloc_new w _
    have hs0 : w0.heap.size = w.heap.size + 1 := by rw [hw0]; simp
    have c0 : w0.cell? ⟨w.heap.size, 0, none⟩ = some (.slice a L.length c) := by rw [cell_of_row _ _ _ _ _ _ hr0]; rfl
    have hsA : w0.cell? ⟨A, o, none⟩ = some (.slice (some ⟨g, 0, none⟩) m m) := by rw [hb0.cell (p := ⟨A, o, none⟩) hAl]; exact hs
    have HC := hid0 (addAllE_any A o g m n f L a c w0 hl hm hn hall (by omega) hA hsA (hi.past hb0) (fun hl p hp e => hx (by rw [blkL_at hl hp, e])) (h.kept (hb0.block g h.lt)))
    have HN : Hid (∀ w1, Only w0 w1 (fun k => k = g) → Calls Tryd.prog 93 #[.pointer (some ⟨A, o, none⟩), .agg #[.slice none 0 0]] w1 fun e w' => e = .returned (.tuple #[]) ∧ Below w1.heap.size w1 w') := hid0 (fun w1 ho1 => joinNil_any A o g m w1 hm (by have := ho1.size; omega) (by rw [ho1.cell (p := ⟨A, o, none⟩) (by show A < _; omega) hA]; exact hsA))
    have HR : Hid (∀ w1, Only w0 w1 (fun k => k = g) → w1.cell? ⟨w.heap.size, 1, none⟩ = some (.slice none 0 0)) := hid0 (fun w1 ho1 => by
      rw [ho1.cell (p := ⟨w.heap.size, 1, none⟩) (by show w.heap.size < _; omega) (by show ¬ w.heap.size = g; omega), cell_of_row _ _ _ _ _ _ hr0]; rfl)
    have HO := hid0 ho0
    have hfold := hw0.symm
    clear hw0 ho0 hb0 hr0 hs h hi hall
    go_enter Tryd.func81, Tryd.ntmps81
    go_wp2_with (first
      | (go_at_call 80; refine HC.out.mono ?_; rintro e w1 ⟨rfl, hb1, ho1⟩; have HB1 := hid0 hb1; have c1 := HR.out w1 ho1; have HJ := hid0 (HN.out w1 ho1); have HO1 := hid0 ho1; clear hb1 ho1)
      | (go_at_call 93; refine HJ.out.mono ?_; rintro e w2 ⟨rfl, hb2⟩; have HB2 := hid0 hb2; clear hb2))
    go_end0
    exact ⟨rfl, HB1.out.kept (HB2.out.block g HB1.out.lt), (HO.out.trans HO1.out (fun i hi => .inl hi)).trans (Only.ofBelow HB2.out (fun _ => False) (fun i h1 h2 => by omega)) (fun i hi => absurd hi id)⟩
  | long g2 h2 =>
    have hg2 : ¬ g2 = g := fun e => hx (by rw [e])
    have hl2 := h2.lt
    obtain ⟨w0, hw0⟩ : ∃ w0, w0 = w.alloc (.cells #[.slice none 0 0, .slice (some ⟨g2, 0, none⟩) m m] 142) := ⟨_, rfl⟩
    have ho0 : Only w w0 (fun k => k = g) := by rw [hw0]; exact Only.alloc _ _ _
    have hb0 : Below w.heap.size w w0 := by rw [hw0]; exact (Below.refl _ _).alloc (Nat.le_refl _) _
    have hr0 : w0.heap[w.heap.size]? = some (.cells #[.slice none 0 0, .slice (some ⟨g2, 0, none⟩) m m] 142 (0, 0)) := by rw [hw0]; exact heap_alloc_new w _
    have hs0 : w0.heap.size = w.heap.size + 1 := by rw [hw0]; simp
    have c0 : w0.cell? ⟨w.heap.size, 0, none⟩ = some (.slice none 0 0) := by rw [cell_of_row _ _ _ _ _ _ hr0]; rfl
    have hsA : w0.cell? ⟨A, o, none⟩ = some (.slice (some ⟨g, 0, none⟩) m m) := by rw [hb0.cell (p := ⟨A, o, none⟩) hAl]; exact hs
    have HC := hid0 (addAll_any A o g m n f [] none 0 w0 (by simp) hm hn rfl (by omega) hA hsA ⟨fun k hk => by simp at hk⟩ (fun p hp => by cases hp) (h.kept (hb0.block g h.lt)))
    have h20 := h2.kept (hb0.block g2 h2.lt)
    have HN : Hid (∀ w1, BS w1 g m (addF [] f) → Only w0 w1 (fun k => k = g) → Calls Tryd.prog 93 #[.pointer (some ⟨A, o, none⟩), .agg #[.slice (some ⟨g2, 0, none⟩) m m]] w1 fun e w' => e = .returned (.tuple #[]) ∧ BS w' g m (addF L f) ∧ Only w1 w' (fun k => k = g)) := hid0 (fun w1 hb1 ho1 => by
      rw [addF_nil] at hb1
      rw [← addF_or L f n hall m hn]
      exact join_any A o g g2 m f _ w1 hm (by have := ho1.size; omega) hA hg2 (by rw [ho1.cell (p := ⟨A, o, none⟩) (by show A < _; omega) hA]; exact hsA) hb1 (h20.only ho1 hg2))
    have HR : Hid (∀ w1, Only w0 w1 (fun k => k = g) → w1.cell? ⟨w.heap.size, 1, none⟩ = some (.slice (some ⟨g2, 0, none⟩) m m)) := hid0 (fun w1 ho1 => by
      rw [ho1.cell (p := ⟨w.heap.size, 1, none⟩) (by show w.heap.size < _; omega) (by show ¬ w.heap.size = g; omega), cell_of_row _ _ _ _ _ _ hr0]; rfl)
    have HO := hid0 ho0
    have hfold := hw0.symm
    clear hw0 ho0 hb0 hr0 hs h h2 h20 hall
    go_enter Tryd.func81, Tryd.ntmps81
    go_wp2_with (first
      | (go_at_call 80; refine HC.out.mono ?_; rintro e w1 ⟨rfl, hb1, ho1⟩; have c1 := HR.out w1 ho1; have HJ := hid0 (HN.out w1 hb1 ho1); have HO1 := hid0 ho1; clear hb1 ho1)
      | (go_at_call 93; refine HJ.out.mono ?_; rintro e w2 ⟨rfl, hb2, ho2⟩; have HB2 := hid0 hb2; have HO2 := hid0 ho2; clear hb2 ho2))
    go_end0
    exact ⟨rfl, HB2.out, (HO.out.trans HO1.out (fun i hi => .inl hi)).trans HO2.out (fun i hi => .inl hi)⟩
end Go.Proofs.YtleeedjpccooaaaDoor
namespace Go.Proofs.YtleeedjpccooaaaDoor
open Go.RowKit Go.Shelf
def RowRj (n : Nat) (L : List Int) (a : Option Addr) (w : World) (e : Ending) (w' : World) : Prop :=
  ∃ x v, e = .returned v ∧ RowJs w' ((n + 511) / 512) L x v ∧ (x = blkL a L ∨ ∃ b, x = some b ∧ w.heap.size ≤ b ∧ b < w'.heap.size) ∧ Below w.heap.size w w'
set_option maxRecDepth 10000 in
set_option maxHeartbeats 1600000 in
theorem rowOfj_any (n : Nat) (L : List Int) (a : Option Addr) (c : Nat) (w : World) (hn : n ≤ 100000000) (hl : L.length ≤ 100000000000000) (hall : L.all (oneOf n) = true) (ha : IA w a L) :
    Calls Tryd.prog 78 #[.slice a L.length c, .int .i64 (n : Int)] w (RowRj n L a w) := by
  obtain ⟨w0, hw0⟩ : ∃ w0, w0 = w.alloc (.cells #[.slice none 0 0, .slice none 0 0] 142) := ⟨_, rfl⟩
  have hb0 : Below w.heap.size w w0 := by rw [hw0]; exact (Below.refl _ _).alloc (Nat.le_refl _) _
  have hr0 : w0.heap[w.heap.size]? = some (.cells #[.slice none 0 0, .slice none 0 0] 142 (0, 0)) := by rw [hw0]; exact heap_alloc_new w _
  have hs0 : w0.heap.size = w.heap.size + 1 := by rw [hw0]; simp
  have hfold := hw0.symm
  have hn0 : (0 : Int) ≤ (n : Int) := by omega
  have hB2 : ∀ (w1 : World) u v, Below w.heap.size w w1 → Below w.heap.size w ((w1.setCell ⟨w.heap.size, 0, none⟩ u).setCell ⟨w.heap.size, 1, none⟩ v) := fun w1 u v h => (h.setCell (p := ⟨w.heap.size, 0, none⟩) (Nat.le_refl _) u).setCell (p := ⟨w.heap.size, 1, none⟩) (Nat.le_refl _) v
  have hC2 : ∀ (w1 : World), w1.heap[w.heap.size]? = some (.cells #[.slice none 0 0, .slice none 0 0] 142 (0, 0)) → (w1.cell? ⟨w.heap.size, 0, none⟩ = some (.slice none 0 0) ∧ w1.cell? ⟨w.heap.size, 1, none⟩ = some (.slice none 0 0) ∧ w1.frozen? ⟨w.heap.size, 0, none⟩ = false ∧ w1.frozen? ⟨w.heap.size, 1, none⟩ = false) ∧ ∀ u v, ((w1.setCell ⟨w.heap.size, 0, none⟩ u).setCell ⟨w.heap.size, 1, none⟩ v).cell? ⟨w.heap.size, 0, none⟩ = some u ∧ ((w1.setCell ⟨w.heap.size, 0, none⟩ u).setCell ⟨w.heap.size, 1, none⟩ v).cell? ⟨w.heap.size, 1, none⟩ = some v := fun w1 h1 => by
    refine ⟨⟨by rw [cell_of_row _ _ _ _ _ _ h1]; rfl, by rw [cell_of_row _ _ _ _ _ _ h1]; rfl, by simp [World.frozen?, h1], by simp [World.frozen?, h1]⟩, fun u v => ?_⟩
    have h2 := heap_setCell_same w1 w.heap.size 0 _ _ u h1
    have h3 := heap_setCell_same _ w.heap.size 1 _ _ v h2
    exact ⟨by rw [cell_of_row _ _ _ _ _ _ h3]; rfl, by rw [cell_of_row _ _ _ _ _ _ h3]; rfl⟩
  by_cases hsh : L.length ≤ n / 64
  · have hI : (L.length : Int) ≤ (n : Int) / 64 := by omega
    obtain ⟨⟨k0, k1, f0, f1⟩, hk⟩ := hC2 w0 hr0
    obtain ⟨j0, j1⟩ := hk (.slice a L.length c) (.slice none 0 0)
    have HE : Hid (RowRj n L a w (.returned (.agg #[.slice a L.length c, .slice none 0 0])) ((w0.setCell ⟨w.heap.size, 0, none⟩ (.slice a L.length c)).setCell ⟨w.heap.size, 1, none⟩ (.slice none 0 0))) := hid0 (by
      exact ⟨_, _, rfl, .short a c (ha.past (hB2 w0 _ _ hb0)), .inl rfl, hB2 w0 _ _ hb0⟩)
    clear hB2 hC2 hb0 hr0 hk ha hall hw0
    go_enter Tryd.func78, Tryd.ntmps78
    go_wp2
    exact bodyPost_ret (v := .agg #[.slice a L.length c, .slice none 0 0]) (by simp [results, Tryd.results78, go_sem, j0, j1]) rfl HE.out
  · have hI : ¬ (L.length : Int) ≤ (n : Int) / 64 := by omega
    have hag : ∀ p, a = some p → p.block < w.heap.size := by
      obtain ⟨b, off, rfl, h1, _⟩ := ha.at' 0 (by omega)
      intro p hp; cases hp; exact h1
    obtain ⟨m, hm⟩ : ∃ m : Nat, m = (n + 511) / 512 := ⟨_, rfl⟩
    have HRm := hid0 (roomFor_any n w0 hn)
    rw [← hm] at HRm
    have HA : Hid (∀ (w1 : World) g, w0.heap.size ≤ g → BS w1 g m (fun _ => false) → Below w0.heap.size w0 w1 → ((w1.alloc (.cells #[.slice none 0 0] 119)).cell? ⟨w1.heap.size, 0, none⟩ = some (.slice none 0 0) ∧ (w1.alloc (.cells #[.slice none 0 0] 119)).frozen? ⟨w1.heap.size, 0, none⟩ = false) ∧ ∀ W, W = w1.alloc (.cells #[.slice (some ⟨g, 0, none⟩) m m] 119) → Calls Tryd.prog 80 #[.pointer (some ⟨w1.heap.size, 0, none⟩), .slice a L.length c] W fun e w' => e = .returned (.tuple #[]) ∧ w'.cell? ⟨w1.heap.size, 0, none⟩ = some (.slice (some ⟨g, 0, none⟩) m m) ∧ w'.heap[w.heap.size]? = some (.cells #[.slice none 0 0, .slice none 0 0] 142 (0, 0)) ∧ (∀ u v, RowRj n L a w (.returned (.agg #[.slice none 0 0, .slice (some ⟨g, 0, none⟩) m m])) ((w'.setCell ⟨w.heap.size, 0, none⟩ u).setCell ⟨w.heap.size, 1, none⟩ v))) := hid0 (by
      intro w1 g hg hbs hb1
      have hr1 := heap_alloc_new w1 (.cells #[.slice none 0 0] 119)
      refine ⟨⟨by rw [cell_of_row _ _ _ _ _ _ hr1]; rfl, by simp only [World.frozen?, hr1]; rfl⟩, ?_⟩
      rintro W rfl
      have hgl := hbs.lt
      have hsz := hb1.size
      have hr2 := heap_alloc_new w1 (.cells #[.slice (some ⟨g, 0, none⟩) m m] 119)
      have hbW : Below w0.heap.size w0 (w1.alloc (.cells #[.slice (some ⟨g, 0, none⟩) m m] 119)) := hb1.alloc (by omega) _
      have hbW1 : Below w1.heap.size w1 (w1.alloc (.cells #[.slice (some ⟨g, 0, none⟩) m m] 119)) := (Below.refl _ w1).alloc (Nat.le_refl _) _
      have hbw : Below w.heap.size w _ := Below.later hb0 hbW
      refine (addAll_any w1.heap.size 0 g m n (fun _ => false) L a c _ hl (by omega) (by omega) hall (by simp) (by omega) (by rw [cell_of_row _ _ _ _ _ _ hr2]; rfl) (ha.past hbw) (fun p hp e => by have := hag p hp; omega) (hbs.kept (hbW1.block g hgl))).mono ?_
      rintro e w' ⟨rfl, hb', ho'⟩
      have hx : w'.heap[w.heap.size]? = some (.cells #[.slice none 0 0, .slice none 0 0] 142 (0, 0)) := by
        rw [ho'.block w.heap.size (by have := hbW.size; omega) (by omega), hbW.block w.heap.size (by omega)]; exact hr0
      have hbb : Below w.heap.size w w' := ho'.afterBelow hbw (by have := hbW.size; omega) (fun i hi => by omega)
      refine ⟨rfl, ?_, hx, fun u v => ⟨some g, _, rfl, ?_, .inr ⟨g, rfl, by omega, by have := hb'.lt; simpa using this⟩, hB2 _ _ _ hbb⟩⟩
      · rw [ho'.cell (p := ⟨w1.heap.size, 0, none⟩) (by show w1.heap.size < _; simp) (by show ¬ w1.heap.size = g; omega), cell_of_row _ _ _ _ _ _ hr2]; rfl
      · rw [← hm]
        refine .long g (hb'.kept ?_)
        rw [Below.heap_setCell _ _ _ _ (by show g ≠ w.heap.size; omega), Below.heap_setCell _ _ _ _ (by show g ≠ w.heap.size; omega)])
    have HC2 := hid0 hC2
    clear hB2 hC2 hb0 hr0 ha hall hw0 hag hm
    go_enter Tryd.func78, Tryd.ntmps78
    go_wp2_with (first
      | (go_at_call 77; refine HRm.out.mono ?_; rintro e w1 ⟨g, rfl, hg, hbs, hb1⟩; obtain ⟨⟨y0, y1⟩, ha2⟩ := HA.out w1 g hg hbs hb1; have HA2 := hid0 ha2; clear hbs hb1 ha2)
      | (go_at_call 80; go_loud ((refine (HA2.out _ rfl).mono ?_; rintro e w2 ⟨rfl, z0, hx2, hend⟩; obtain ⟨⟨k0, k1, f0, f1⟩, hk⟩ := HC2.out w2 hx2; obtain ⟨j0, j1⟩ := hk (.slice none 0 0) (.slice (some ⟨g, 0, none⟩) m m); have HE := hid0 hend; clear hx2 hend hk))))
    exact bodyPost_ret (v := .agg #[.slice none 0 0, .slice (some ⟨g, 0, none⟩) m m]) (by simp [results, Tryd.results78, go_sem, j0, j1]) rfl (HE.out _ _)
end Go.Proofs.YtleeedjpccooaaaDoor
namespace Go.Proofs.YtleeedjpccooaaaDoor
open Go.RowKit Go.Shelf
/-- Rows of places, one beside the other. -/
structure Rwsj (w : World) (g m : Nat) (Ls : List (List Int)) (R : Nat → Prop) : Prop where
  lt : g < w.heap.size
  in' : R g
  at' : ∀ k (h : k < Ls.length), ∃ x u v, w.cell? ⟨g, k * 2, none⟩ = some u ∧ w.cell? ⟨g, k * 2 + 1, none⟩ = some v ∧ RowJs w m Ls[k] x (.agg #[u, v]) ∧ ∀ b, x = some b → R b
theorem Rwsj.only {w w' : World} {g m : Nat} {Ls : List (List Int)} {R S : Nat → Prop} (h : Rwsj w g m Ls R) (ho : Only w w' S) (hs : ∀ k, R k → ¬ S k) : Rwsj w' g m Ls R :=
  ⟨Nat.lt_of_lt_of_le h.lt ho.size, h.in', fun k hk => by
    obtain ⟨x, u, v, h1, h2, h3, h4⟩ := h.at' k hk
    exact ⟨x, u, v, (ho.cell (p := ⟨g, k * 2, none⟩) h.lt (hs g h.in')).trans h1, (ho.cell (p := ⟨g, k * 2 + 1, none⟩) h.lt (hs g h.in')).trans h2, h3.only ho (fun b hb => hs b (h4 b hb)), h4⟩⟩
/-- A walk in memory: where it is, and where a step may lead to. -/
structure Wkj (w : World) (B gf gh ga gn mp m cF cH : Nat) (ks : List Int) (Fo H : List (List Int)) (fa fx : Nat → Bool) (R : Nat → Prop) : Prop where
  row : w.heap[B]? = some (.cells #[.slice (some ⟨gf, 0, none⟩) Fo.length cF, .map (some mp), .slice (some ⟨gh, 0, none⟩) H.length cH, .slice (some ⟨ga, 0, none⟩) m m, .slice (some ⟨gn, 0, none⟩) m m] 121 (0, 0))
  fo : Rwsj w gf m Fo R
  ho : Rwsj w gh m H R
  nu : MapN w mp ks
  at' : BS w ga m fa
  nx : BS w gn m fx
  tab : TabAt 11 Lib.deBruijn64tab w
  tabl : 11 < w.heap.size
  rB : R B
  rm : R mp
  rt : R 11
  ra : ∀ k, R k → ¬ k = ga ∧ ¬ k = gn
  ne : ¬ ga = gn
end Go.Proofs.YtleeedjpccooaaaDoor
namespace Go.Proofs.YtleeedjpccooaaaDoor
open Go.RowKit Go.Shelf
theorem RowJs.shape {w : World} {m : Nat} {L : List Int} {x : Option Nat} {v : Value} (h : RowJs w m L x v) : ∃ a1 n1 c1 a2 n2 c2, v = .agg #[.slice a1 n1 c1, .slice a2 n2 c2] := by
  cases h with
  | short a c h => exact ⟨_, _, _, _, _, _, rfl⟩
  | long g h => exact ⟨_, _, _, _, _, _, rfl⟩
/-- Lists of numbers in memory, in blocks that there are. -/
structure RwE (w : World) (a : Option Addr) (L : List (List Int)) : Prop where
  at' : ∀ k (h : k < L.length), ∃ b off, a = some ⟨b, off, none⟩ ∧ b < w.heap.size ∧ ∃ a1 c1, w.cell? ⟨b, off + k, none⟩ = some (.slice a1 (L[k]).length c1) ∧ IA w a1 L[k] ∧ (L[k] ≠ [] → ∀ p, a1 = some p → p.block < w.heap.size)
theorem RwE.past {w w' : World} {a : Option Addr} {L : List (List Int)} (h : RwE w a L) (hb : Below w.heap.size w w') : RwE w' a L := ⟨fun k hk => by
  obtain ⟨b, off, rfl, h1, a1, c1, h2, h3, h4⟩ := h.at' k hk
  exact ⟨b, off, rfl, Nat.lt_of_lt_of_le h1 hb.size, a1, c1, (hb.cell (p := ⟨b, off + k, none⟩) h1).trans h2, h3.past hb, fun hl p hp => Nat.lt_of_lt_of_le (h4 hl p hp) hb.size⟩⟩
theorem RwA.rwe {w : World} {a : Option Addr} {L : List (List Int)} (h : RwA w a L) : RwE w a L := ⟨fun k hk => by
  obtain ⟨b, off, e, h1, a1, c1, h2, h3⟩ := h.at' k hk
  refine ⟨b, off, e, h1, a1, c1, h2, h3, fun hl p hp => ?_⟩
  have h0 : 0 < (L[k]).length := by
    cases hq : L[k] with
    | nil => exact absurd hq hl
    | cons _ _ => simp
  obtain ⟨b', off', e', h4, _⟩ := h3.at' 0 h0
  rw [hp] at e'
  cases e'
  exact h4⟩
/-- Blocks other than those of the walk. -/
def Othj (gF mp ga gn B b : Nat) : Prop := ¬ b = gF ∧ ¬ b = mp ∧ ¬ b = ga ∧ ¬ b = gn ∧ ¬ b = B
/-- The first k rows. -/
structure FolJ (W : World) (g m k : Nat) (Ls : List (List Int)) (Rb : Nat → Prop) : Prop where
  at' : ∀ i (h : i < Ls.length), i < k → ∃ x u v, W.cell? ⟨g, i * 2, none⟩ = some u ∧ W.cell? ⟨g, i * 2 + 1, none⟩ = some v ∧ RowJs W m Ls[i] x (.agg #[u, v]) ∧ ∀ b, x = some b → b < W.heap.size ∧ Rb b
theorem FolJ.only {W W' : World} {g m k : Nat} {Ls : List (List Int)} {Rb S : Nat → Prop} (h : FolJ W g m k Ls Rb) (hg : g < W.heap.size) (ho : Only W W' S) (hs : ¬ S g) (hb : ∀ b, Rb b → ¬ S b) : FolJ W' g m k Ls Rb := ⟨fun i hi hk => by
  obtain ⟨x, u, v, h1, h2, h3, h4⟩ := h.at' i hi hk
  exact ⟨x, u, v, (ho.cell (p := ⟨g, i * 2, none⟩) hg hs).trans h1, (ho.cell (p := ⟨g, i * 2 + 1, none⟩) hg hs).trans h2, h3.only ho (fun b e => hb b (h4 b e).2), fun b e => ⟨Nat.lt_of_lt_of_le (h4 b e).1 ho.size, (h4 b e).2⟩⟩⟩
theorem cellj_two {W : World} {g n i j : Nat} (h : Made W g n) (u v : Value) (hi : i < n * 2) : ((W.setCell ⟨g, j, none⟩ u).setCell ⟨g, j + 1, none⟩ v).cell? ⟨g, i, none⟩ = if i = j + 1 then some v else if i = j then some u else W.cell? ⟨g, i, none⟩ := by
  obtain ⟨cur, h1, h2⟩ := h
  have e1 := heap_setCell_same W g j _ _ u h1
  have e2 := heap_setCell_same _ g (j + 1) _ _ v e1
  have hc : i < cur.size := by omega
  rw [cell_of_row _ _ _ _ _ _ e2, cell_of_row _ _ _ _ _ _ h1]
  by_cases h3 : i = j + 1
  · subst h3
    rw [if_pos rfl]
    simp [hc]
  · rw [if_neg h3]
    by_cases h4 : i = j
    · subst h4
      rw [if_pos rfl, Array.getElem?_setIfInBounds_ne (by omega)]
      simp [hc]
    · rw [if_neg h4, Array.getElem?_setIfInBounds_ne (by omega), Array.getElem?_setIfInBounds_ne (by omega)]
/-- Row k is put. -/
theorem FolJ.put {W : World} {g m k n : Nat} {Ls : List (List Int)} {Rb : Nat → Prop} (h : FolJ W g m k Ls Rb) (hM : Made W g n) (hn : Ls.length ≤ n) (hg : ∀ b, Rb b → ¬ b = g) (hk : k < Ls.length) (x : Option Nat) (u v : Value) (hr : RowJs W m Ls[k] x (.agg #[u, v])) (hx : ∀ b, x = some b → b < W.heap.size ∧ Rb b) :
    FolJ ((W.setCell ⟨g, k * 2, none⟩ u).setCell ⟨g, k * 2 + 1, none⟩ v) g m (k + 1) Ls Rb := by
  have ho : Only W ((W.setCell ⟨g, k * 2, none⟩ u).setCell ⟨g, k * 2 + 1, none⟩ v) (fun b => b = g) := (Only.setCell W g (k * 2) u).trans (Only.setCell _ g (k * 2 + 1) v) (fun i hi => .inl hi)
  refine ⟨fun i hi hk' => ?_⟩
  rw [cellj_two hM u v (show i * 2 < n * 2 by omega), cellj_two hM u v (show i * 2 + 1 < n * 2 by omega)]
  by_cases e : i = k
  · subst e
    rw [if_neg (show ¬ i * 2 = i * 2 + 1 by omega), if_pos rfl, if_pos rfl]
    exact ⟨x, u, v, rfl, rfl, hr.only ho (fun b e => hg b (hx b e).2), fun b e => ⟨Nat.lt_of_lt_of_le (hx b e).1 ho.size, (hx b e).2⟩⟩
  · obtain ⟨x', u', v', h1, h2, h3, h4⟩ := h.at' i hi (by omega)
    rw [if_neg (by omega), if_neg (by omega), if_neg (by omega), if_neg (by omega)]
    exact ⟨x', u', v', h1, h2, h3.only ho (fun b e => hg b (h4 b e).2), fun b e => ⟨Nat.lt_of_lt_of_le (h4 b e).1 ho.size, (h4 b e).2⟩⟩
/-- A walk that is being made. -/
structure NwLj (w0 W : World) (n m gF mp ga gn B k : Nat) (ks : List Int) (Fo : List (List Int)) (vH : Value) : Prop where
  row : W.heap[B]? = some (.cells #[.slice (some ⟨gF, 0, none⟩) n n, .map (some mp), vH, .slice (some ⟨ga, 0, none⟩) m m, .slice (some ⟨gn, 0, none⟩) m m] 121 (0, 0))
  fol : Made W gF n
  rws : FolJ W gF m k Fo (Othj gF mp ga gn B)
  nu : MapN W mp ks
  at' : BS W ga m (fun _ => false)
  nx : BS W gn m (fun _ => false)
  bel : Below w0.heap.size w0 W
def Apart5j (w0 : World) (gF mp ga gn B : Nat) : Prop := (w0.heap.size ≤ gF ∧ w0.heap.size ≤ mp ∧ w0.heap.size ≤ ga ∧ w0.heap.size ≤ gn ∧ w0.heap.size ≤ B) ∧ ¬ gF = mp ∧ ¬ gF = ga ∧ ¬ gF = gn ∧ ¬ gF = B ∧ ¬ mp = ga ∧ ¬ mp = gn ∧ ¬ mp = B ∧ ¬ ga = gn ∧ ¬ ga = B ∧ ¬ gn = B
theorem NwI.beginj {w0 W : World} {n m gF mp ga gn B : Nat} (Fo : List (List Int)) (h : NwI w0 W n m gF mp ga gn B) : NwLj w0 W n m gF mp ga gn B 0 [] Fo (.slice none 0 0) ∧ Apart5j w0 gF mp ga gn B :=
  ⟨⟨h.row, h.fol, ⟨fun _ _ hk => absurd hk (Nat.not_lt_zero _)⟩, h.nu, h.at', h.nx, h.bel⟩, h.lo, h.ne⟩
theorem NwLj.past {w0 W W' : World} {n m gF mp ga gn B k : Nat} {ks : List Int} {Fo : List (List Int)} {vH : Value} (h : NwLj w0 W n m gF mp ga gn B k ks Fo vH) (hb : Below W.heap.size W W') : NwLj w0 W' n m gF mp ga gn B k ks Fo vH :=
  ⟨(hb.block B (Array.getElem?_eq_some_iff.1 h.row).1).trans h.row, h.fol.below hb, h.rws.only h.fol.lt (Only.ofNew hb (fun _ => False)) (fun e => e) (fun _ _ e => e), h.nu.below hb, h.at'.below hb, h.nx.below hb, h.bel.trans (hb.mono h.bel.size)⟩
theorem NwLj.put {w0 W : World} {n m gF mp ga gn B k : Nat} {ks : List Int} {Fo : List (List Int)} {vH : Value} (h : NwLj w0 W n m gF mp ga gn B k ks Fo vH) (hA : Apart5j w0 gF mp ga gn B) (hn : Fo.length ≤ n) (hk : k < Fo.length) (x : Option Nat) (u v : Value) (hr : RowJs W m Fo[k] x (.agg #[u, v])) (hx : ∀ b, x = some b → b < W.heap.size ∧ Othj gF mp ga gn B b) :
    NwLj w0 ((W.setCell ⟨gF, k * 2, none⟩ u).setCell ⟨gF, k * 2 + 1, none⟩ v) n m gF mp ga gn B (k + 1) ks Fo vH := by
  obtain ⟨⟨l1, l2, l3, l4, l5⟩, n1, n2, n3, n4, n5, n6, n7, n8, n9, n10⟩ := hA
  have hb : ∀ b, ¬ b = gF → ((W.setCell ⟨gF, k * 2, none⟩ u).setCell ⟨gF, k * 2 + 1, none⟩ v).heap[b]? = W.heap[b]? := fun b hb => by
    rw [Below.heap_setCell _ _ _ b hb, Below.heap_setCell _ _ _ b hb]
  exact ⟨(hb B (fun e => n4 e.symm)).trans h.row, (h.fol.set _ _).set _ _, h.rws.put h.fol hn (fun b hb => hb.1) hk x u v hr hx, h.nu.keep (hb mp (fun e => n1 e.symm)), h.at'.kept (hb ga (fun e => n2 e.symm)), h.nx.kept (hb gn (fun e => n3 e.symm)), (h.bel.setCell (p := ⟨gF, k * 2, none⟩) l1 u).setCell (p := ⟨gF, k * 2 + 1, none⟩) l1 v⟩
theorem NwLj.map {w0 W W' : World} {n m gF mp ga gn B k : Nat} {ks ks' : List Int} {Fo : List (List Int)} {vH : Value} (h : NwLj w0 W n m gF mp ga gn B k ks Fo vH) (hA : Apart5j w0 gF mp ga gn B) (hg : W.grownBy W' (some mp)) (hm : MapN W' mp ks') : NwLj w0 W' n m gF mp ga gn B k ks' Fo vH := by
  obtain ⟨⟨l1, l2, l3, l4, l5⟩, n1, n2, n3, n4, n5, n6, n7, n8, n9, n10⟩ := hA
  have ho : Only W W' (fun b => b = mp) := ⟨hg.os, hg.tape, hg.output, hg.size, fun i hi hs => hg.block i hi (fun e => hs (Option.some.inj e))⟩
  exact ⟨(ho.block B (Array.getElem?_eq_some_iff.1 h.row).1 (fun e => n7 e.symm)).trans h.row, h.fol.keep (ho.block gF h.fol.lt n1), h.rws.only h.fol.lt ho n1 (fun b hb => hb.2.1), hm, h.at'.only ho (fun e => n5 e.symm), h.nx.only ho (fun e => n6 e.symm), h.bel.trans (ho.below h.bel.size (fun i hi => by subst hi; exact l2))⟩
theorem NwLj.setH {w0 W : World} {n m gF mp ga gn B k : Nat} {ks : List Int} {Fo : List (List Int)} {vH : Value} (h : NwLj w0 W n m gF mp ga gn B k ks Fo vH) (hA : Apart5j w0 gF mp ga gn B) (v : Value) : NwLj w0 (W.setCell ⟨B, 2, none⟩ v) n m gF mp ga gn B k ks Fo v := by
  obtain ⟨⟨l1, l2, l3, l4, l5⟩, n1, n2, n3, n4, n5, n6, n7, n8, n9, n10⟩ := hA
  have ho := Only.setCell W B 2 v
  exact ⟨heap_setCell_same _ _ 2 _ _ v h.row, h.fol.keep (ho.block gF h.fol.lt n4), h.rws.only h.fol.lt ho n4 (fun b hb => hb.2.2.2.2), h.nu.keep (ho.block mp h.nu.lt n7), h.at'.only ho n9, h.nx.only ho n10, h.bel.setCell (p := ⟨B, 2, none⟩) l5 v⟩
theorem NwLj.cells {w0 W : World} {n m gF mp ga gn B k : Nat} {ks : List Int} {Fo : List (List Int)} {vH : Value} (h : NwLj w0 W n m gF mp ga gn B k ks Fo vH) : W.cell? ⟨B, 0, none⟩ = some (.slice (some ⟨gF, 0, none⟩) n n) ∧ W.cell? ⟨B, 1, none⟩ = some (.map (some mp)) ∧ W.cell? ⟨B, 2, none⟩ = some vH ∧ W.frozen? ⟨B, 2, none⟩ = false :=
  ⟨by rw [cell_of_row _ _ _ _ _ _ h.row]; rfl, by rw [cell_of_row _ _ _ _ _ _ h.row]; rfl, by rw [cell_of_row _ _ _ _ _ _ h.row]; rfl, by simp [World.frozen?, h.row]⟩
/-- The rows of holders that have been added. -/
def HolJ (W Wb : World) (m k : Nat) (H : List (List Int)) (Rb : Nat → Prop) (vH : Value) : Prop := ∃ xs, W.ownsRow Wb.heap.size 142 2 vH k xs ∧ ∀ i (h : i < H.length), i < k → ∃ x u v, xs[i * 2]? = some u ∧ xs[i * 2 + 1]? = some v ∧ RowJs W m H[i] x (.agg #[u, v]) ∧ ∀ b, x = some b → (b < W.heap.size ∧ Rb b) ∧ vH.ownBlock ≠ some b
theorem HolJ.begin (W Wb : World) (m : Nat) (H : List (List Int)) (Rb : Nat → Prop) : HolJ W Wb m 0 H Rb (.slice none 0 0) := ⟨[], World.ownsRow_nil _ _ _ _, fun _i _ hk => absurd hk (Nat.not_lt_zero _)⟩
theorem HolJ.only {W W' Wb : World} {m k : Nat} {H : List (List Int)} {Rb S : Nat → Prop} {vH : Value} (h : HolJ W Wb m k H Rb vH) (ho : Only W W' S) (hs : ∀ b, S b → b < Wb.heap.size) (hb : ∀ b, Rb b → ¬ S b) : HolJ W' Wb m k H Rb vH := by
  obtain ⟨xs, h1, h2⟩ := h
  refine ⟨xs, own_blk h1 (fun g hg => ho.block g (World.ownsRow.lt h1 g hg).2 (fun s => by have := hs g s; have := (World.ownsRow.lt h1 g hg).1; omega)), fun i hi hk => ?_⟩
  obtain ⟨x, u, v, e1, e2, h3, h4⟩ := h2 i hi hk
  exact ⟨x, u, v, e1, e2, h3.only ho (fun b e => hb b (h4 b e).1.2), fun b e => ⟨⟨Nat.lt_of_lt_of_le (h4 b e).1.1 ho.size, (h4 b e).1.2⟩, (h4 b e).2⟩⟩
/-- One more row. -/
theorem HolJ.put {W1 W2 Wb : World} {m k : Nat} {H : List (List Int)} {Rb : Nat → Prop} {vH v' : Value} {xs : List Value} (h1 : W1.ownsRow Wb.heap.size 142 2 vH k xs)
    (h2 : ∀ i (h : i < H.length), i < k → ∃ x u v, xs[i * 2]? = some u ∧ xs[i * 2 + 1]? = some v ∧ RowJs W1 m H[i] x (.agg #[u, v]) ∧ ∀ b, x = some b → (b < W1.heap.size ∧ Rb b) ∧ vH.ownBlock ≠ some b) (hk : k < H.length)
    (x : Option Nat) (u v : Value) (hr : RowJs W1 m H[k] x (.agg #[u, v])) (hx : ∀ b, x = some b → (b < W1.heap.size ∧ Rb b) ∧ vH.ownBlock ≠ some b) (hown : W2.ownsRow Wb.heap.size 142 2 v' (k + 1) (xs ++ [u, v])) (hg : W1.grownBy W2 vH.ownBlock) (hat : v'.ownBlock = vH.ownBlock ∨ v'.ownBlock = some W1.heap.size) :
    HolJ W2 Wb m (k + 1) H Rb v' := by
  have hl : xs.length = k * 2 := by
    have e1 := h1.1
    exact e1
  have ho : Only W1 W2 (fun b => vH.ownBlock = some b) := ⟨hg.os, hg.tape, hg.output, hg.size, fun i hi hs => hg.block i hi (fun e => hs e.symm)⟩
  have hne : ∀ b, b < W1.heap.size → vH.ownBlock ≠ some b → v'.ownBlock ≠ some b := fun b hb hn e => by
    rcases hat with h | h
    · exact hn (h ▸ e)
    · rw [h] at e
      have := Option.some.inj e
      omega
  refine ⟨_, hown, fun i hi hk' => ?_⟩
  by_cases e : i = k
  · subst e
    refine ⟨x, u, v, ?_, ?_, hr.only ho (fun b e => (hx b e).2), fun b e => ⟨⟨Nat.lt_of_lt_of_le (hx b e).1.1 ho.size, (hx b e).1.2⟩, hne b (hx b e).1.1 (hx b e).2⟩⟩
    · rw [List.getElem?_append_right (by omega), hl, Nat.sub_self]; rfl
    · rw [List.getElem?_append_right (by omega), hl, show i * 2 + 1 - i * 2 = 1 by omega]; rfl
  · obtain ⟨x', u', v'', q1, q2, q3, q4⟩ := h2 i hi (by omega)
    have b1 := (List.getElem?_eq_some_iff.1 q1).1
    have b2 := (List.getElem?_eq_some_iff.1 q2).1
    refine ⟨x', u', v'', ?_, ?_, q3.only ho (fun b e => (q4 b e).2), fun b e => ⟨⟨Nat.lt_of_lt_of_le (q4 b e).1.1 ho.size, (q4 b e).1.2⟩, hne b (q4 b e).1.1 (q4 b e).2⟩⟩
    · rw [List.getElem?_append_left b1]; exact q1
    · rw [List.getElem?_append_left b2]; exact q2
theorem Bag.rwbj {w : World} {base : Nat} {v : Value} {ps : Lot} (h : Bag w base v ps) {H : List (List Int)} (hH : ps.map (fun x : Value × List Int => x.2) = H) : ∃ a c, v = .slice a H.length c ∧ ∀ k (hk : k < H.length), ∃ b, a = some ⟨b, 0, none⟩ ∧ base ≤ b ∧ b < w.heap.size ∧ ∃ a1 c1, w.cell? ⟨b, k, none⟩ = some (.slice a1 (H[k]).length c1) ∧ IA w a1 H[k] ∧ ∀ p, a1 = some p → base ≤ p.block ∧ p.block < w.heap.size := by
  subst hH
  have h0 := h.outer
  rcases h0.2 with ⟨hv, hn⟩ | ⟨g, cap, cur, hv, hg, _⟩
  · have hps : ps = [] := List.eq_nil_of_length_eq_zero (by omega)
    subst hps
    exact ⟨none, 0, hv, fun k hk => by simp at hk⟩
  · refine ⟨some ⟨g, 0, none⟩, cap, by rw [hv, List.length_map], fun k hk => ?_⟩
    have hk' : k < ps.length := by simpa using hk
    have hr := h.row ps[k] (List.getElem_mem hk')
    have hr0 := hr
    rw [hv] at h0
    obtain ⟨a1, c1, e1, hq⟩ := hr.ia
    refine ⟨g, rfl, hg, (World.ownsRow.lt h0 g rfl).2, a1, c1, ?_, ?_, ?_⟩
    · rw [World.ownsRow.cellAt h0 k (by omega)]
      simp [hk', e1]
    · simp only [List.getElem_map]
      exact hq
    · rintro p rfl
      rcases hr0.2 with ⟨hv1, _⟩ | ⟨g1, cap1, cur1, hv1, _⟩
      · rw [e1] at hv1
        cases hv1
      · rw [e1] at hv1
        simp only [Value.slice.injEq, Option.some.injEq] at hv1
        obtain ⟨rfl, _⟩ := hv1
        exact World.ownsRow.lt hr0 g1 (by rw [e1]; rfl)
theorem NwLj.onlyB {w0 Wb W : World} {n m gF mp ga gn B k : Nat} {ks : List Int} {Fo : List (List Int)} {v0 vH : Value} (h : NwLj w0 Wb n m gF mp ga gn B k ks Fo v0) (hA : Apart5j w0 gF mp ga gn B) (ho : Only Wb W (fun b => b = B))
    (hr : W.heap[B]? = some (.cells #[.slice (some ⟨gF, 0, none⟩) n n, .map (some mp), vH, .slice (some ⟨ga, 0, none⟩) m m, .slice (some ⟨gn, 0, none⟩) m m] 121 (0, 0))) : NwLj w0 W n m gF mp ga gn B k ks Fo vH := by
  obtain ⟨⟨l1, l2, l3, l4, l5⟩, n1, n2, n3, n4, n5, n6, n7, n8, n9, n10⟩ := hA
  exact ⟨hr, h.fol.keep (ho.block gF h.fol.lt n4), h.rws.only h.fol.lt ho n4 (fun b hb => hb.2.2.2.2), h.nu.keep (ho.block mp h.nu.lt n7), h.at'.only ho n9, h.nx.only ho n10, h.bel.trans (ho.below h.bel.size (fun i hi => by subst hi; exact l5))⟩
end Go.Proofs.YtleeedjpccooaaaDoor
namespace Go.Proofs.YtleeedjpccooaaaDoor
open Go.RowKit Go.Shelf
/-- What newWalk leaves. -/
def NwRj (w : World) (Le Fo : List (List Int)) (Fi Wd : List Int) (e : Ending) (w' : World) : Prop := ∃ B gf gh ga gn mp cF cH ks H, e = .returned (.pointer (some ⟨B, 0, none⟩)) ∧ Wkj w' B gf gh ga gn mp ((Le.length + 511) / 512) cF cH ks Fo H (fun _ => false) (addF Fi (fun _ => false)) (fun k => ¬ k = ga ∧ ¬ k = gn) ∧
  (∀ c ∈ Wd, c ∈ ks) ∧ (∀ c ∈ ks, inI c) ∧ ks.length ≤ 4000000 ∧ HoldI ks Le Le.length 0 H ∧ (∀ r ∈ H, r.length ≤ 100000000000000) ∧ (w.heap.size ≤ ga ∧ w.heap.size ≤ gn) ∧ Below w.heap.size w w'
theorem drewj_below (w : World) : Below w.heap.size w w.drew := ⟨rfl, rfl, rfl, Nat.le_refl _, fun _ _ => rfl⟩
theorem cellj_pair_new (w : World) (u v : Value) (t : TypeId) : ∀ j x, [u, v][j]? = some x → (w.alloc (.cells #[u, v] t)).cell? ((⟨w.heap.size, 0, none⟩ : Addr).add j) = some x := by
  intro j x h
  rw [Addr.add_lit, cell_of_row _ w.heap.size _ _ _ _ (heap_alloc_new w _), Nat.zero_add]
  simpa using h
theorem belowj_drew {w w2 : World} (h : Below w.drew.heap.size w.drew w2) : Below w.heap.size w w2 := ⟨h.os, h.tape, h.output, h.size, h.block⟩
theorem othj_old {w0 : World} {gF mp ga gn B b : Nat} (h : Apart5j w0 gF mp ga gn B) (hb : b < w0.heap.size) : Othj gF mp ga gn B b := by
  obtain ⟨⟨l1, l2, l3, l4, l5⟩, _⟩ := h
  exact ⟨by omega, by omega, by omega, by omega, by omega⟩
theorem othj_new {w0 W : World} {n m gF mp ga gn B k b : Nat} {ks : List Int} {Fo : List (List Int)} {vH : Value} (h : NwLj w0 W n m gF mp ga gn B k ks Fo vH) (hb : W.heap.size ≤ b) : Othj gF mp ga gn B b := by
  have h1 := h.fol.lt
  have h2 := h.nu.lt
  have h3 := h.at'.lt
  have h4 := h.nx.lt
  have h5 := (Array.getElem?_eq_some_iff.1 h.row).1
  exact ⟨by omega, by omega, by omega, by omega, by omega⟩
theorem nwj_end {w w0 Wb W w2 : World} {Le Fo H : List (List Int)} {Fi Wd ks : List Int} {m gF mp ga gn B : Nat} {v0 vH : Value} (hm : m = (Le.length + 511) / 512) (hb0 : Below w.heap.size w w0) (hLb : NwLj w0 Wb Le.length m gF mp ga gn B Fo.length ks Fo v0) (hL : NwLj w0 W Le.length m gF mp ga gn B Fo.length ks Fo vH) (hA : Apart5j w0 gF mp ga gn B)
    (hH : HolJ W Wb m H.length H (Othj gF mp ga gn B) vH) (hHp : 0 < H.length) (hFl : Fo.length = Le.length) (hadd : BS w2 gn m (addF Fi (fun _ => false))) (ho : Only W w2 (fun k => k = gn)) (hT : TabAt 11 Lib.deBruijn64tab w) (hT11 : 11 < w.heap.size)
    (h1 : ∀ c ∈ Wd, c ∈ ks) (h2 : ∀ c ∈ ks, inI c) (h3 : ks.length ≤ 4000000) (h4 : HoldI ks Le Le.length 0 H) (h5 : ∀ r ∈ H, r.length ≤ 100000000000000) : NwRj w Le Fo Fi Wd (.returned (.pointer (some ⟨B, 0, none⟩))) w2 := by
  subst hm
  have hA0 := hA
  obtain ⟨⟨l1, l2, l3, l4, l5⟩, n1, n2, n3, n4, n5, n6, n7, n8, n9, n10⟩ := hA
  obtain ⟨xs, hox, hrx⟩ := hH
  obtain ⟨gh, cH, rfl, hg1, hg2, hg3⟩ := own_form hox hHp
  have ka := hLb.at'.lt
  have kn := hLb.nx.lt
  have hsz := hb0.size
  have hbw2 : Below w.heap.size w w2 := Below.later hb0 (hL.bel.trans (ho.below hL.bel.size (fun i hi => by subst hi; exact l4)))
  have hf2 := hL.rws.only hL.fol.lt ho n3 (fun b hb => hb.2.2.2.1)
  refine ⟨B, gF, gh, ga, gn, mp, Le.length, cH, ks, H, rfl, ⟨?_, ?_, ?_, hL.nu.keep (ho.block mp hL.nu.lt n6), hL.at'.only ho n8, hadd, fun j hj => (hbw2.cell (p := ⟨11, j, none⟩) hT11).trans (hT j hj), Nat.lt_of_lt_of_le hT11 hbw2.size, ⟨fun e => n9 e.symm, fun e => n10 e.symm⟩, ⟨n5, n6⟩, ⟨by omega, by omega⟩, fun k hk => hk, n8⟩, h1, h2, h3, h4, h5, ⟨by omega, by omega⟩, hbw2⟩
  · rw [hFl]
    exact (ho.block B (Array.getElem?_eq_some_iff.1 hL.row).1 (fun e => n10 e.symm)).trans hL.row
  · refine ⟨Nat.lt_of_lt_of_le hL.fol.lt ho.size, ⟨n2, n3⟩, fun k hk => ?_⟩
    obtain ⟨x, u, v, e1, e2, e3, e4⟩ := hf2.at' k hk hk
    exact ⟨x, u, v, e1, e2, e3, fun b hb => ⟨(e4 b hb).2.2.2.1, (e4 b hb).2.2.2.2.1⟩⟩
  · refine ⟨Nat.lt_of_lt_of_le hg2 ho.size, ⟨by omega, by omega⟩, fun k hk => ?_⟩
    obtain ⟨x, u, v, e1, e2, e3, e4⟩ := hrx k hk hk
    have hcell : ∀ j y, xs[j]? = some y → w2.cell? ⟨gh, j, none⟩ = some y := fun j y hy => by
      rw [ho.cell (p := ⟨gh, j, none⟩) hg2 (by show ¬ gh = gn; omega)]
      have hl : xs.length = H.length * 2 := hox.1
      have hj := (List.getElem?_eq_some_iff.1 hy).1
      rw [World.ownsRow.cellAt hox j (by omega)]
      exact hy
    exact ⟨x, u, v, hcell _ _ e1, hcell _ _ e2, e3.only ho (fun b hb => (e4 b hb).1.2.2.2.2.1), fun b hb => ⟨(e4 b hb).1.2.2.2.1, (e4 b hb).1.2.2.2.2.1⟩⟩
end Go.Proofs.YtleeedjpccooaaaDoor
namespace Go.Proofs.YtleeedjpccooaaaDoor
/-- An append whose run is known, as one step of a region that draws. -/
theorem step_append_run {P : Program} {ops : Array Oper} {o : Oper} {a : Act} {w : World} {K : Act → World → Prop} {Q : Exit → Act → World → Prop} {E : Prop}
    (hg : o.guard = none) (s x : Operand) (t : TypeId) (hop : o.op = Op.call { callee := Callee.builtin Builtin.append, args := #[s, x], argTypes := #[t, t] })
    (v1 v2 v' : Value) (w' : World) (hrun : (Builtin.append_ #[t, t] o.type #[v1, v2]).run P w = .ok v' w') (hs : a.eval s = v1) (hx : a.eval x = v2) (hK : K (a.put o.dst v') w') :
    if Region.wanted o (yielded ops a.tmps) = true then Oper.wp P o a w K Q else E := by
  have hw : Region.wanted o (yielded ops a.tmps) = true := by simp [Region.wanted, hg]
  rw [if_pos hw]
  unfold Oper.wp
  simp [execOp, hop, resolve, invoke, builtin, hs, hx, hrun, Result.andThen]
  exact hK
end Go.Proofs.YtleeedjpccooaaaDoor
