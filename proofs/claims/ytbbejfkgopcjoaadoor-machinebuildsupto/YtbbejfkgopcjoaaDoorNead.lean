/-
  MbDW, ShelfZ.
-/
import Derived.Test.YtbbejfkgopcjoaaDoorNeac
import Derived.Laws.AppendOwnNone
import Derived.Shelf.Spec.TrailingZeros
import Derived.Ground.Names7Prog
import Derived.Test.YtbbejfkgopcjoaaDoorProg
namespace Go.Proofs.YtbbejfkgopcjoaaDoor
open Go.RowKit Go.Shelf
def nI (l : List Nat) : List Int := l.map fun x => ((x : Nat) : Int)
theorem nI_len (l : List Nat) : (nI l).length = l.length := by unfold nI; rw [List.length_map]
theorem nI_app (a b : List Nat) : nI (a ++ b) = nI a ++ nI b := by unfold nI; rw [List.map_append]
theorem IA.cons {w : World} {a : Option Addr} {x : Int} {L : List Int} (h : IA w a (x :: L)) : ∃ b off, a = some ⟨b, off, none⟩ ∧ w.cell? ⟨b, off, none⟩ = some (.int .i64 x) ∧ IA w (some ⟨b, off + 1, none⟩) L := by
  obtain ⟨b, off, e, h1, h2⟩ := h.at' 0 (by simp)
  refine ⟨b, off, e, by simpa using h2, ⟨fun k hk => ?_⟩⟩
  obtain ⟨b', off', e', h3, h4⟩ := h.at' (k + 1) (by simpa using hk)
  rw [e] at e'
  cases e'
  refine ⟨b, off + 1, rfl, h3, ?_⟩
  rw [show off + 1 + k = off + (k + 1) by omega, h4]
  simp
/-- The rest of a list, as slicing tells where it lies. -/
theorem IA.rest {w : World} {b off c : Nat} {L : List Int} (h : IA w (some ⟨b, off + 1, none⟩) L) (hc : L.length + 1 ≤ c) : IA w (if c = 1 then some ⟨b, off, none⟩ else some ⟨b, off + 1, none⟩) L := by
  by_cases h1 : c = 1
  · have h0 : L = [] := List.length_eq_zero_iff.1 (by omega)
    subst h0
    exact ⟨fun _ h => absurd h (Nat.not_lt_zero _)⟩
  · rw [if_neg h1]; exact h
theorem rest_some {b off c : Nat} {q : Prop} (h : (if c = 1 then some (⟨b, off, none⟩ : Addr) else some ⟨b, off + 1, none⟩) = none) : q := by
  split at h <;> cases h
theorem ia_nil (w : World) (a : Option Addr) : IA w a [] := ⟨fun _ h => absurd h (Nat.not_lt_zero _)⟩
/-- A list of numbers put behind one of one's own. -/
theorem wpList_spreadJ {ops : Array Oper} {rest : List Oper} {op : Oper} {a : Act} {w : World} {Q : Exit → Act → World → Prop} (hgd : op.guard = none) (s x : Operand) (ho : op.op = .call { callee := .builtin .append, args := #[s, x], argTypes := #[34, 34] })
    (v : Value) (P : List Int) (aN : Option Addr) (n : Nat) (L : List Int) (cN base : Nat) (hs : a.eval s = v) (hx : a.eval x = .slice aN n cN) (hn : n = L.length) (hnil : aN = none → cN = 0) (hv : OwnI w base v P) (ha : IA w aN L) (hl : P.length + L.length ≤ 17592186044416) (hb : base ≤ w.heap.size)
    (h : ∀ v' w', OwnI w' base v' (P ++ L) → w.grownBy w' v.ownBlock → wpList Tryd.prog ops Q rest (a.put op.dst v') w') : wpList Tryd.prog ops Q (op :: rest) a w := by
  obtain ⟨i0, hi, hz0, hz1, hz2⟩ := info_parts infoInt
  subst hn
  cases aN with
  | none =>
    have hL : L = [] := by
      cases L with
      | nil => rfl
      | cons y r => obtain ⟨b, off, e, _⟩ := ha.at' 0 (by simp); cases e
    subst hL
    have hc := hnil rfl
    subst hc
    refine wpList_append_own_none hgd s x 34 ho base 3 i0 1 Tryd.underlying34 hi v P.length (P.map (Value.int .i64)) hs hv hx (h v w (by rw [List.append_nil]; exact hv) ⟨rfl, rfl, rfl, Nat.le_refl _, fun _ _ _ => rfl⟩)
  | some ad =>
    refine wpList_append_own _ hgd s x 34 ho base 3 i0 (.int .i64 0) 1 8 Tryd.underlying34 hi hz0 hz1 hz2 rfl (by decide) v P.length (P.map (Value.int .i64)) hs hv ad L.length cN (L.map (Value.int .i64)) hx (by simp) (fun j u hu => ?_) (fun u hu => by obtain ⟨y, _, rfl⟩ := List.mem_map.1 hu; rfl) (by unfold maxLen; omega) (by omega) hb (fun v' w' h1 h2 _ => h v' w' (by unfold OwnI; rw [List.length_append, List.map_append]; exact h1) h2)
    have hj : j < L.length := by have := (List.getElem?_eq_some_iff.1 hu).1; simpa using this
    obtain ⟨b, off, e, h1, h2⟩ := ha.at' j hj
    cases e
    rw [Addr.add_mid, h2]
    have : (L.map (Value.int .i64))[j]? = some (.int .i64 L[j]) := by simp [hj]
    rw [this] at hu
    exact hu
theorem own_n {w : World} {base : Nat} {v : Value} {L : List Int} {n : Nat} (h : OwnI w base v L) (hn : L.length = n) : w.ownsRow base 3 1 v n (L.map (Value.int .i64)) := by rw [← hn]; exact h
/-- make, of what takes one cell. -/
theorem made_run {t e : TypeId} {z : Value} {by' : Nat} (ht : Tryd.prog.underlying t = some (.slice e)) (hinfo : (Tryd.prog.info? e).map (fun i => (i.zero, i.size, i.bytes)) = some (some z, 1, by')) (l c : Nat) (hlc : l ≤ c) (hb : by' * c ≤ 281474976710656) (hc : c ≤ 100000000000) (w : World) :
    (Instr.makeSlice t (.int .i64 (l : Int)) (.int .i64 (c : Int))).run Tryd.prog w = .ok (.slice (some ⟨w.heap.size, 0, none⟩) l c) (w.alloc (.cells (madeCells z.cells c) e)) := by
  obtain ⟨i, hi, hz0, hz1, hz2⟩ := info_parts hinfo
  have hr := run_make (P := Tryd.prog) w t e i z ht hi hz0 .i64 .i64 l c (by omega) (by omega) (by rw [hz2, ← Int.natCast_mul]; omega) (by omega)
  rw [hr, hz1, Nat.mul_one, Int.toNat_natCast, Int.toNat_natCast]
theorem made_own {e : TypeId} {z : Value} (hz : z.cells = #[z]) (l c : Nat) (hlc : l ≤ c) (hc : c ≤ 100000000000) (w : World) (base : Nat) (hb : base ≤ w.heap.size) :
    (w.alloc (.cells (madeCells z.cells c) e)).ownsRow base e 1 (.slice (some ⟨w.heap.size, 0, none⟩) l c) l (List.replicate l z) := by
  refine ⟨by simp, .inr ⟨w.heap.size, c, _, rfl, hb, heap_alloc_new w _, hlc, by unfold maxLen; omega, ?_, ?_⟩⟩
  · rw [size_madeCells]; omega
  · apply List.ext_getElem
    · simp [size_madeCells]; omega
    · intro k h1 h2
      simp [madeCells, hz, Nat.mod_one]
set_option maxRecDepth 10000 in
set_option maxHeartbeats 1600000 in
theorem merged_any (A B : List Nat) (aA aB : Option Addr) (cA cB : Nat) (w : World) (hA : IA w aA (nI A)) (hB : IA w aB (nI B)) (hcA : A.length ≤ cA) (hcB : B.length ≤ cB) (hnA : aA = none → cA = 0) (hnB : aB = none → cB = 0) (hlA : A.length ≤ 100000000) (hlB : B.length ≤ 100000000) :
    Calls Tryd.prog 54 #[.slice aA A.length cA, .slice aB B.length cB] w fun e w' => ∃ v, e = .returned v ∧ OwnI w' w.heap.size v (nI (mrg A B)) ∧ Below w.heap.size w w' := by
  obtain ⟨i0, hi, hz0, hz1, hz2⟩ := info_parts infoInt
  have HAB : Hid (IA w aA (nI A) ∧ IA w aB (nI B) ∧ (aA = none → cA = 0) ∧ (aB = none → cB = 0)) := hid0 ⟨hA, hB, hnA, hnB⟩
  have hlI : (A.length : Int) ≤ 100000000 := by omega
  have hlI2 : (B.length : Int) ≤ 100000000 := by omega
  obtain ⟨n, hn⟩ : ∃ n, n = A.length + B.length := ⟨_, rfl⟩
  have hmk : ∀ V : World, (Instr.makeSlice 34 (.int .i64 0) (.int .i64 ((A.length : Int) + (B.length : Int)))).run Tryd.prog V = .ok (.slice (some ⟨V.heap.size, 0, none⟩) 0 n) (V.alloc (.cells (madeCells #[.int .i64 0] n) 3)) := fun V => by
    have h := made_run (t := 34) Tryd.underlying34 infoInt 0 n (Nat.zero_le _) (by omega) (by omega) V
    rw [hn] at h ⊢
    rw [Int.natCast_add] at h
    exact h
  obtain ⟨w0, hw0⟩ : ∃ w0, w0 = w.alloc (.cells (madeCells #[.int .i64 0] n) 3) := ⟨_, rfl⟩
  have HO0 : Hid (OwnI w0 w.heap.size (.slice (some ⟨w.heap.size, 0, none⟩) 0 n) (nI [])) := hid0 (by rw [hw0]; exact made_own (z := .int .i64 0) rfl 0 n (Nat.zero_le _) (by omega) w _ (Nat.le_refl _))
  have HB0 : Hid (Below w.heap.size w w0) := hid0 (by rw [hw0]; exact (Below.refl _ _).alloc (Nat.le_refl _) _)
  have hfold := hw0.symm
  clear hA hB hnA hnB hw0 hn
  go_enter Tryd.func54, Tryd.ntmps54
  go_wp2
  go_loopw [0, 1, 5] (fun u x v wr => ∃ (P A' B' : List Nat) (k m : Nat) (a b : Option Addr) (c d : Nat), u = .slice a k c ∧ x = .slice b m d ∧ k ≤ c ∧ m ≤ d ∧ k ≤ 100000000 ∧ m ≤ 100000000 ∧ Hid (k = A'.length ∧ m = B'.length) ∧ Hid (IA w a (nI A') ∧ IA w b (nI B') ∧ (a = none → c = 0) ∧ (b = none → d = 0)) ∧ Hid (P ++ mrg A' B' = mrg A B ∧ P.length + A'.length + B'.length ≤ 200000000) ∧ Hid (OwnI wr w.heap.size v (nI P)) ∧ Hid (Below w.heap.size w wr)) (fun u x _ _ => (match u with | .slice _ k _ => k | _ => 0) + (match x with | .slice _ k _ => k | _ => 0))
  case atStart => exact ⟨[], A, B, A.length, B.length, aA, aB, cA, cB, rfl, rfl, hcA, hcB, hlA, hlB, hid0 ⟨rfl, rfl⟩, HAB, hid0 ⟨rfl, by simp; omega⟩, HO0, HB0⟩
  case round =>
    clear hmk hfold HO0 HB0 HAB
    obtain ⟨P, A', B', k, m, a, b, c, d, rfl, rfl, hc', hd', hlA', hlB', HK, HI, HM, HO, HB⟩ := hrel
    have HBd : Hid ((nI P).length + (nI A').length ≤ 17592186044416 ∧ (nI P ++ nI A').length + (nI B').length ≤ 17592186044416) := hid0 (by
      have := HM.out.2
      rw [List.length_append, nI_len, nI_len, nI_len]; omega)
    by_cases hk0 : k = 0
    · subst hk0
      have HK1 : Hid (0 = (nI A').length) := hid0 (by rw [nI_len]; exact HK.out.1)
      have HK2 : Hid (m = (nI B').length) := hid0 (by rw [nI_len]; exact HK.out.2)
      have HE : Hid (nI P ++ nI A' ++ nI B' = nI (mrg A B)) := hid0 (by
        have h0 : A' = [] := List.length_eq_zero_iff.1 HK.out.1.symm
        rw [← HM.out.1, h0, mrg_nl, nI_app]; simp [nI])
      go_wp2_with (first
        | (at_builtin; have hq := HO1.out; go_loud ((refine wpList_spreadJ rfl _ _ rfl v1 (nI P ++ nI A') b m (nI B') d w.heap.size rfl rfl HK2.out HI.out.2.2.2 HO1.out (HI.out.2.1.past HB1.out) HBd.out.2 (by have := HB1.out.size; omega) ?_; intro v2 w2 ho2 hg2; have HO2 := hid0 ho2; have HB2 := hid0 (HB1.out.grown hg2 (by have := HB1.out.size; omega) (fun k hk => (World.ownsRow.lt HO1.out k hk).1)); clear ho2 hg2)))
        | (at_builtin; go_loud ((refine wpList_spreadJ rfl _ _ rfl u5 (nI P) a 0 (nI A') c w.heap.size rfl rfl HK1.out HI.out.2.2.1 HO.out (HI.out.1.past HB.out) HBd.out.1 HB.out.size ?_; intro v1 w1 ho1 hg1; have HO1 := hid0 ho1; have HB1 := hid0 (HB.out.grown hg1 HB.out.size (fun k hk => (World.ownsRow.lt HO.out k hk).1)); clear ho1 hg1))))
      go_ret
      exact ⟨_, rfl, by rw [← HE.out]; exact HO2.out, HB2.out⟩
    · obtain ⟨k', rfl⟩ : ∃ k', k = k' + 1 := ⟨k - 1, by omega⟩
      have hkI : (0 : Int) < ((k' + 1 : Nat) : Int) := by omega
      by_cases hm0 : m = 0
      · subst hm0
        have HK1 : Hid (k' + 1 = (nI A').length) := hid0 (by rw [nI_len]; exact HK.out.1)
        have HK2 : Hid (0 = (nI B').length) := hid0 (by rw [nI_len]; exact HK.out.2)
        have HE : Hid (nI P ++ nI A' ++ nI B' = nI (mrg A B)) := hid0 (by
          have h0 : B' = [] := List.length_eq_zero_iff.1 HK.out.2.symm
          rw [← HM.out.1, h0, mrg_nil, nI_app]; simp [nI])
        go_wp2_with (first
          | (at_builtin; have hq := HO1.out; go_loud ((refine wpList_spreadJ rfl _ _ rfl v1 (nI P ++ nI A') b 0 (nI B') d w.heap.size rfl rfl HK2.out HI.out.2.2.2 HO1.out (HI.out.2.1.past HB1.out) HBd.out.2 (by have := HB1.out.size; omega) ?_; intro v2 w2 ho2 hg2; have HO2 := hid0 ho2; have HB2 := hid0 (HB1.out.grown hg2 (by have := HB1.out.size; omega) (fun k hk => (World.ownsRow.lt HO1.out k hk).1)); clear ho2 hg2)))
          | (at_builtin; go_loud ((refine wpList_spreadJ rfl _ _ rfl u5 (nI P) a (k' + 1) (nI A') c w.heap.size rfl rfl HK1.out HI.out.2.2.1 HO.out (HI.out.1.past HB.out) HBd.out.1 HB.out.size ?_; intro v1 w1 ho1 hg1; have HO1 := hid0 ho1; have HB1 := hid0 (HB.out.grown hg1 HB.out.size (fun k hk => (World.ownsRow.lt HO.out k hk).1)); clear ho1 hg1))))
        go_ret
        exact ⟨_, rfl, by rw [← HE.out]; exact HO2.out, HB2.out⟩
      · obtain ⟨m', rfl⟩ : ∃ m', m = m' + 1 := ⟨m - 1, by omega⟩
        have hmI : (0 : Int) < ((m' + 1 : Nat) : Int) := by omega
        obtain ⟨x, A2, rfl⟩ : ∃ x A2, A' = x :: A2 := by
          cases A' with
          | nil => have := HK.out.1; simp at this
          | cons x A2 => exact ⟨x, A2, rfl⟩
        obtain ⟨y, B2, rfl⟩ : ∃ y B2, B' = y :: B2 := by
          cases B' with
          | nil => have := HK.out.2; simp at this
          | cons y B2 => exact ⟨y, B2, rfl⟩
        have HL : Hid (k' = A2.length ∧ m' = B2.length) := hid0 (by have := HK.out; simp only [List.length_cons] at this; omega)
        obtain ⟨ba, oa, ea, hxa, hia⟩ := IA.cons (x := (x : Int)) (L := nI A2) HI.out.1
        obtain ⟨bb, ob, eb, hxb, hib⟩ := IA.cons (x := (y : Int)) (L := nI B2) HI.out.2.1
        subst ea
        subst eb
        have HIa := hid0 hia
        have HIb := hid0 hib
        have HCl : Hid (∀ V : World, Below w.heap.size w V → V.cell? ⟨ba, oa, none⟩ = some (.int .i64 (x : Int)) ∧ V.cell? ⟨bb, ob, none⟩ = some (.int .i64 (y : Int))) := hid0 (fun V hV => ⟨(hV.cell (p := ⟨ba, oa, none⟩) (World.block_lt_of_cell? w _ hxa)).trans hxa, (hV.cell (p := ⟨bb, ob, none⟩) (World.block_lt_of_cell? w _ hxb)).trans hxb⟩)
        obtain ⟨dx, dy⟩ := HCl.out wr HB.out
        have HP2 : Hid (P.length ≤ 200000000) := hid0 (by have := HM.out.2; omega)
        have hpl := HP2.out
        have hsz := HB.out.size
        clear hxa hxb hia hib HBd
        obtain ⟨av, cv, ev, _⟩ := HO.out.ia
        rw [nI_len] at ev
        subst ev
        have HD : Hid (∀ q, OwnI (wr.drewN q) w.heap.size (.slice av P.length cv) (nI P) ∧ Below w.heap.size w (wr.drewN q)) := hid0 (fun q => ⟨own_blk HO.out (fun k hk => rfl), ⟨HB.out.os, HB.out.tape, HB.out.output, HB.out.size, HB.out.block⟩⟩)
        have HAp : Hid (∀ (V w1 : World) (v1 : Value) (z : Nat) (o : Obj), OwnI V w.heap.size (.slice av P.length cv) (nI P) → Below w.heap.size w V → w1.ownsRow w.heap.size 3 1 v1 (P.length + 1) ((nI P).map (Value.int .i64) ++ [.int .i64 (z : Int)]) → (V.alloc o).grownBy w1 (Value.slice av P.length cv).ownBlock → OwnI w1 w.heap.size v1 (nI (P ++ [z])) ∧ Below w.heap.size w w1) := hid0 (fun V w1 v1 z o h1 h2 h3 h4 => by
          have h5 := ownI_snoc (by rw [nI_len]) h1 h3 h4 h2 (Nat.le_refl _)
          refine ⟨?_, h5.2⟩
          rw [nI_app]; exact h5.1)
        by_cases hxy : x < y
        · have hxyI : (x : Int) < (y : Int) := by omega
          have hne : ((y : Int) == (x : Int)) = false := by simp; omega
          have HN1 : Hid (IA w (if c = 1 then some ⟨ba, oa, none⟩ else some ⟨ba, oa + 1, none⟩) (nI A2) ∧ IA w (some ⟨bb, ob, none⟩) (nI (y :: B2)) ∧ ((if c = 1 then some (⟨ba, oa, none⟩ : Addr) else some ⟨ba, oa + 1, none⟩) = none → c - 1 = 0) ∧ (some (⟨bb, ob, none⟩ : Addr) = none → d = 0)) := hid0 ⟨HIa.out.rest (by rw [nI_len, ← HL.out.1]; exact hc'), HI.out.2.1, fun h => rest_some h, (fun h => nomatch h)⟩
          have HM1 : Hid (P ++ [x] ++ mrg A2 (y :: B2) = mrg A B ∧ (P ++ [x]).length + A2.length + (y :: B2).length ≤ 200000000) := hid0 ⟨by rw [← HM.out.1, mrg_cons, if_pos hxy]; simp, by have := HM.out.2; simp only [List.length_append, List.length_cons, List.length_nil] at this ⊢; omega⟩
          go_wp2
          go_quiet ((fail))
          obtain ⟨HOd, HBd⟩ := HD.out nq
          have HOd := hid0 HOd
          have HBd := hid0 HBd
          obtain ⟨dx, dy⟩ := HCl.out _ HBd.out
          have hsd := HBd.out.size
          generalize wr.drewN nq = wd at *
          go_wp2_with (at_builtin; go_loud ((refine wpList_append_own_at _ rfl _ _ 34 rfl w.heap.size 3 i0 (.int .i64 0) 1 8 Tryd.underlying34 hi hz0 hz1 hz2 rfl (by decide) (.slice av P.length cv) P.length ((nI P).map (Value.int .i64)) rfl (World.ownsRow.alloc (own_n HOd.out (nI_len P)) _) ⟨wd.heap.size, 0, none⟩ 1 1 [.int .i64 (x : Int)] rfl rfl (cell_one_new _ _ _) (by simp [Value.oneCell']) (by unfold maxLen; omega) (by omega) (by simp; omega) ?_; intro v1 w1 h1 h2 _ _; have R := HAp.out wd w1 v1 x _ HOd.out HBd.out h1 h2; have HO1 := hid0 R.1; have HB1 := hid0 R.2; obtain ⟨dx, dy⟩ := HCl.out w1 HB1.out; clear R h1 h2)))
          go_roundw
          case rel => exact ⟨P ++ [x], A2, y :: B2, k', m' + 1, _, _, c - 1, d, rfl, rfl, by omega, by omega, by omega, by omega, hid0 ⟨HL.out.1, by simp [HL.out.2]⟩, HN1, HM1, HO1, HB1⟩
          case measure => simp
        · by_cases hyx : y < x
          · have hxyI : (y : Int) < (x : Int) := by omega
            have hxyN : ¬ (x : Int) < (y : Int) := by omega
            have hne : ((x : Int) == (y : Int)) = false := by simp; omega
            have HN1 : Hid (IA w (some ⟨ba, oa, none⟩) (nI (x :: A2)) ∧ IA w (if d = 1 then some ⟨bb, ob, none⟩ else some ⟨bb, ob + 1, none⟩) (nI B2) ∧ (some (⟨ba, oa, none⟩ : Addr) = none → c = 0) ∧ ((if d = 1 then some (⟨bb, ob, none⟩ : Addr) else some ⟨bb, ob + 1, none⟩) = none → d - 1 = 0)) := hid0 ⟨HI.out.1, HIb.out.rest (by rw [nI_len, ← HL.out.2]; exact hd'), (fun h => nomatch h), fun h => rest_some h⟩
            have HM1 : Hid (P ++ [y] ++ mrg (x :: A2) B2 = mrg A B ∧ (P ++ [y]).length + (x :: A2).length + B2.length ≤ 200000000) := hid0 ⟨by rw [← HM.out.1, mrg_cons, if_neg hxy, if_pos hyx]; simp, by have := HM.out.2; simp only [List.length_append, List.length_cons, List.length_nil] at this ⊢; omega⟩
            go_wp2
            go_quiet ((fail))
            obtain ⟨HOd, HBd⟩ := HD.out nq
            have HOd := hid0 HOd
            have HBd := hid0 HBd
            obtain ⟨dx, dy⟩ := HCl.out _ HBd.out
            have hsd := HBd.out.size
            generalize wr.drewN nq = wd at *
            go_wp2_with (at_builtin; go_loud ((refine wpList_append_own_at _ rfl _ _ 34 rfl w.heap.size 3 i0 (.int .i64 0) 1 8 Tryd.underlying34 hi hz0 hz1 hz2 rfl (by decide) (.slice av P.length cv) P.length ((nI P).map (Value.int .i64)) rfl (World.ownsRow.alloc (own_n HOd.out (nI_len P)) _) ⟨wd.heap.size, 0, none⟩ 1 1 [.int .i64 (y : Int)] rfl rfl (cell_one_new _ _ _) (by simp [Value.oneCell']) (by unfold maxLen; omega) (by omega) (by simp; omega) ?_; intro v1 w1 h1 h2 _ _; have R := HAp.out wd w1 v1 y _ HOd.out HBd.out h1 h2; have HO1 := hid0 R.1; have HB1 := hid0 R.2; obtain ⟨dx, dy⟩ := HCl.out w1 HB1.out; clear R h1 h2)))
            go_roundw
            case rel => exact ⟨P ++ [y], x :: A2, B2, k' + 1, m', _, _, c, d - 1, rfl, rfl, by omega, by omega, by omega, by omega, hid0 ⟨by simp [HL.out.1], HL.out.2⟩, HN1, HM1, HO1, HB1⟩
            case measure => simp
          · obtain rfl : x = y := by omega
            have hxyN : ¬ (x : Int) < (x : Int) := by omega
            have HN1 : Hid (IA w (if c = 1 then some ⟨ba, oa, none⟩ else some ⟨ba, oa + 1, none⟩) (nI A2) ∧ IA w (if d = 1 then some ⟨bb, ob, none⟩ else some ⟨bb, ob + 1, none⟩) (nI B2) ∧ ((if c = 1 then some (⟨ba, oa, none⟩ : Addr) else some ⟨ba, oa + 1, none⟩) = none → c - 1 = 0) ∧ ((if d = 1 then some (⟨bb, ob, none⟩ : Addr) else some ⟨bb, ob + 1, none⟩) = none → d - 1 = 0)) := hid0 ⟨HIa.out.rest (by rw [nI_len, ← HL.out.1]; exact hc'), HIb.out.rest (by rw [nI_len, ← HL.out.2]; exact hd'), fun h => rest_some h, fun h => rest_some h⟩
            have HM1 : Hid (P ++ [x] ++ mrg A2 B2 = mrg A B ∧ (P ++ [x]).length + A2.length + B2.length ≤ 200000000) := hid0 ⟨by rw [← HM.out.1, mrg_cons, if_neg hxy, if_neg hyx]; simp, by have := HM.out.2; simp only [List.length_append, List.length_cons, List.length_nil] at this ⊢; omega⟩
            go_wp2
            go_quiet ((fail))
            obtain ⟨HOd, HBd⟩ := HD.out nq
            have HOd := hid0 HOd
            have HBd := hid0 HBd
            obtain ⟨dx, dy⟩ := HCl.out _ HBd.out
            have hsd := HBd.out.size
            generalize wr.drewN nq = wd at *
            go_wp2_with (at_builtin; go_loud ((refine wpList_append_own_at _ rfl _ _ 34 rfl w.heap.size 3 i0 (.int .i64 0) 1 8 Tryd.underlying34 hi hz0 hz1 hz2 rfl (by decide) (.slice av P.length cv) P.length ((nI P).map (Value.int .i64)) rfl (World.ownsRow.alloc (own_n HOd.out (nI_len P)) _) ⟨wd.heap.size, 0, none⟩ 1 1 [.int .i64 (x : Int)] rfl rfl (cell_one_new _ _ _) (by simp [Value.oneCell']) (by unfold maxLen; omega) (by omega) (by simp; omega) ?_; intro v1 w1 h1 h2 _ _; have R := HAp.out wd w1 v1 x _ HOd.out HBd.out h1 h2; have HO1 := hid0 R.1; have HB1 := hid0 R.2; obtain ⟨dx, dy⟩ := HCl.out w1 HB1.out; clear R h1 h2)))
            go_roundw
            case rel => exact ⟨P ++ [x], A2, B2, k', m', _, _, c - 1, d - 1, rfl, rfl, by omega, by omega, by omega, by omega, HL, HN1, HM1, HO1, HB1⟩
            case measure => simp; omega
end Go.Proofs.YtbbejfkgopcjoaaDoor
namespace Go.Proofs
open Go.Shelf
def Tryd.lays7n29_ren : Go.Shelf.Ren := ⟨fun | 29 => 90 | n => n, fun | 22 => 105 | 3 => 3 | 4 => 4 | 25 => 134 | 54 => 156 | 0 => 0 | 5 => 5 | n => n, fun | 1 => 11 | n => n⟩
theorem Tryd.lays7n29 : Go.Proofs.Lays7.n29 Tryd.prog Tryd.lays7n29_ren := {
  mixed := by kernel_rfl
  f29 := Tryd.func90.trans (congrArg some (by kernel_rfl))
  t0 := Tryd.underlying0
  a0 := Tryd.isAgg0
  z0 := Tryd.sizeOf0
  v0 := Tryd.zeroValue0
  i0 := by kernel_rfl
  t3 := Tryd.underlying3
  a3 := Tryd.isAgg3
  z3 := Tryd.sizeOf3
  v3 := Tryd.zeroValue3
  i3 := by kernel_rfl
  t4 := Tryd.underlying4
  a4 := Tryd.isAgg4
  z4 := Tryd.sizeOf4
  v4 := Tryd.zeroValue4
  i4 := by kernel_rfl
  t5 := Tryd.underlying5
  a5 := Tryd.isAgg5
  z5 := Tryd.sizeOf5
  v5 := Tryd.zeroValue5
  i5 := by kernel_rfl
  t22 := Tryd.underlying105
  a22 := Tryd.isAgg105
  z22 := Tryd.sizeOf105
  v22 := Tryd.zeroValue105
  i22 := by kernel_rfl
  t25 := Tryd.underlying134
  a25 := Tryd.isAgg134
  z25 := Tryd.sizeOf134
  v25 := Tryd.zeroValue134
  i25 := by kernel_rfl
  t54 := Tryd.underlying156
  a54 := Tryd.isAgg156
  z54 := Tryd.sizeOf156
  g1 := by kernel_rfl }
end Go.Proofs
