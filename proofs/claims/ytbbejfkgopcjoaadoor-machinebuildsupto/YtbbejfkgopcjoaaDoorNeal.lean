/-
  MbNW, MbOW, PlYW, PlTfW, MbPM, MbPW.
-/
import Derived.Test.YtbbejfkgopcjoaaDoorNeak
import Derived.BigRegion
import Derived.Test.YtbbejfkgopcjoaaDoorNeac
import Derived.Shelf.Spec.TrailingZeros
import Derived.Lib.TrailingZeros
import Derived.Test.YtbbejfkgopcjoaaDoorNeaa
namespace Go.Proofs.YtbbejfkgopcjoaaDoor
open Go.RowKit Go.Shelf
set_option maxRecDepth 10000 in
set_option maxHeartbeats 1600000 in
theorem read_any (B GO nO cO o nE cE : Nat) (aE : Option Addr) (pl rest : List UInt8) (w : World) (h1 : w.cell? ⟨B, 1, none⟩ = some (.slice (some ⟨GO, 0, none⟩) nO cO)) (h2 : w.cell? ⟨GO, o * 2, none⟩ = some (.string ⟨pl.toArray⟩)) (h3 : w.cell? ⟨GO, o * 2 + 1, none⟩ = some (.slice aE nE cE)) (ho : o < nO) (hnO : nO ≤ 100000000) (hr : rest.length ≤ 100000000) :
    Calls Tryd.prog 73 #[.pointer (some ⟨B, 0, none⟩), .string ⟨(leB o 4 ++ rest).toArray⟩] w fun e w' => e = .returned (.tuple #[.agg #[.string ⟨pl.toArray⟩, .slice aE nE cE], .string ⟨rest.toArray⟩]) ∧ Below w.heap.size w w' := by
  obtain ⟨T, hT⟩ : ∃ T, T = leB o 4 ++ rest := ⟨_, rfl⟩
  have hTl : T.length = 4 + rest.length := by rw [hT, List.length_append, leB_len]
  obtain ⟨tB, htB⟩ : ∃ tB : ByteArray, tB = ⟨T.toArray⟩ := ⟨_, rfl⟩
  obtain ⟨m, hm⟩ : ∃ m : Nat, m = T.length := ⟨_, rfl⟩
  have hsz : tB.size = m := by rw [htB, hm]; simp [ByteArray.size]
  obtain ⟨rB, hrB⟩ : ∃ rB : ByteArray, tB.extract 4 m = rB := ⟨_, rfl⟩
  have HrB : Hid (rB = ⟨rest.toArray⟩) := hid0 (by rw [← hrB, ← hsz, htB, ba_cut T 4, hT, List.drop_left' (leB_len 4 o)])
  have HN1 : Hid (∀ V : World, Calls Tryd.prog 89 #[.string tB, .int .i64 4] V fun e w' => e = .returned (.int .u64 (o : Int)) ∧ w' = V) := hid0 (fun V => by
    have h := numberIn_any 4 T V (by omega) (by omega) (by omega)
    rw [hT, leD_take4 o _ (by omega)] at h
    rw [htB, hT]
    exact h)
  rw [← hT, ← htB]
  obtain ⟨pB, hpB⟩ : ∃ pB : ByteArray, pB = ⟨pl.toArray⟩ := ⟨_, rfl⟩
  rw [← hpB] at h2 ⊢
  obtain ⟨w0, hw0⟩ : ∃ w0, w0 = w.alloc (.cells #[.string ⟨#[]⟩, .slice none 0 0] 103) := ⟨_, rfl⟩
  have hb0 : Below w.heap.size w w0 := by rw [hw0]; exact (Below.refl _ _).alloc (Nat.le_refl _) _
  have hr0 : w0.heap[w.heap.size]? = some (.cells #[.string ⟨#[]⟩, .slice none 0 0] 103 (0, 0)) := by rw [hw0]; exact heap_alloc_new w _
  have k1 : w0.cell? ⟨B, 1, none⟩ = some (.slice (some ⟨GO, 0, none⟩) nO cO) := by rw [hb0.cell (p := ⟨B, 1, none⟩) (World.block_lt_of_cell? w _ h1)]; exact h1
  have k2 : w0.cell? ⟨GO, o * 2, none⟩ = some (.string pB) := by rw [hb0.cell (p := ⟨GO, o * 2, none⟩) (World.block_lt_of_cell? w _ h2)]; exact h2
  have k3 : w0.cell? ⟨GO, o * 2 + 1, none⟩ = some (.slice aE nE cE) := by rw [hb0.cell (p := ⟨GO, o * 2 + 1, none⟩) (World.block_lt_of_cell? w _ h3)]; exact h3
  have f0 : w0.frozen? ⟨w.heap.size, 0, none⟩ = false := by simp [World.frozen?, hr0]
  have f1 : w0.frozen? ⟨w.heap.size, 1, none⟩ = false := by simp [World.frozen?, hr0]
  have c0 : w0.cell? ⟨w.heap.size, 0, none⟩ = some (.string ⟨#[]⟩) := by rw [cell_of_row _ _ _ _ _ _ hr0]; rfl
  have c1 : w0.cell? ⟨w.heap.size, 1, none⟩ = some (.slice none 0 0) := by rw [cell_of_row _ _ _ _ _ _ hr0]; rfl
  have HFin : Hid (∀ V : World, V = ((w0.setCell ⟨w.heap.size, 0, none⟩ (.string pB)).setCell ⟨w.heap.size, 1, none⟩ (.slice aE nE cE)).drew → V.cell? ⟨w.heap.size, 0, none⟩ = some (.string pB) ∧ V.cell? ⟨w.heap.size, 1, none⟩ = some (.slice aE nE cE) ∧ Below w.heap.size w V) := hid0 (fun V hV => by
    have hq := heap_setCell_same _ _ 1 _ _ (.slice aE nE cE) (heap_setCell_same w0 _ 0 _ _ (.string pB) hr0)
    subst hV
    have q0 : ((w0.setCell ⟨w.heap.size, 0, none⟩ (.string pB)).setCell ⟨w.heap.size, 1, none⟩ (.slice aE nE cE)).cell? ⟨w.heap.size, 0, none⟩ = some (.string pB) := by rw [cell_of_row _ _ _ _ _ _ hq]; rfl
    have q1 : ((w0.setCell ⟨w.heap.size, 0, none⟩ (.string pB)).setCell ⟨w.heap.size, 1, none⟩ (.slice aE nE cE)).cell? ⟨w.heap.size, 1, none⟩ = some (.slice aE nE cE) := by rw [cell_of_row _ _ _ _ _ _ hq]; rfl
    exact ⟨q0, q1, ((hb0.setCell (p := ⟨w.heap.size, 0, none⟩) (Nat.le_refl _) _).setCell (p := ⟨w.heap.size, 1, none⟩) (Nat.le_refl _) _).drew⟩)
  have hoI : (o : Int) < (nO : Int) := by omega
  have hoI0 : (0 : Int) ≤ (o : Int) := by omega
  have hwo : IntKind.i64.wrap (o : Int) = (o : Int) := by rw [IntKind.wrap_i64]; omega
  have hm4 : 4 ≤ m := by omega
  have hm4I : (4 : Int) ≤ (m : Int) := by omega
  have hmb : m ≤ 1000000000 := by omega
  have hfold := hw0.symm
  clear hw0 hb0 hr0 h1 h2 h3 hT htB hm hTl hpB
  go_enter Tryd.func73, Tryd.ntmps73
  go_wp2
  go_region_with (go_at_call 89; refine (HN1.out _).mono ?_; rintro e w2 ⟨rfl, rfl⟩)
  all_goals
    go_wp2
    obtain ⟨V, hV⟩ : ∃ V, V = ((w0.setCell ⟨w.heap.size, 0, none⟩ (.string pB)).setCell ⟨w.heap.size, 1, none⟩ (.slice aE nE cE)).drew := ⟨_, rfl⟩
    rw [← hV]
    obtain ⟨q0, q1, hB⟩ := HFin.out V hV
    clear hV
    have HB := hid0 hB
    rw [← HrB.out]
    refine bodyPost_ret (v := .tuple #[.agg #[.string pB, .slice aE nE cE], .string rB]) (by simp [results, Tryd.results73, go_sem, q0, q1]) rfl ⟨rfl, HB.out⟩
end Go.Proofs.YtbbejfkgopcjoaaDoor
namespace Go.Proofs.YtbbejfkgopcjoaaDoor
open Go.RowKit Go.Shelf
theorem OwnI.sl {w : World} {base : Nat} {v : Value} {L : List Nat} (h : OwnI w base v (nI L)) : ∃ a c, v = .slice a L.length c ∧ IA w a (nI L) ∧ L.length ≤ c ∧ (a = none → c = 0) := by
  have h0 := h
  obtain ⟨a, c, e, hi⟩ := h.ia
  rw [nI_len] at e
  refine ⟨a, c, e, hi, ?_⟩
  rcases h0.2 with ⟨e2, hn⟩ | ⟨g, cap, cur, e2, _, _, hc, _⟩
  · rw [e] at e2
    simp only [Value.slice.injEq] at e2
    exact ⟨by omega, fun _ => e2.2.2⟩
  · rw [e] at e2
    simp only [Value.slice.injEq] at e2
    rw [nI_len] at hc
    exact ⟨by omega, fun q => by rw [e2.1] at q; cases q⟩
set_option maxRecDepth 10000 in
set_option maxHeartbeats 1600000 in
theorem endBehind_any (B J N sy lo GO nO cO o cE cA : Nat) (f la : Nat → Bool) (own ne alw : List Nat) (pl : List UInt8) (aE aO aA : Option Addr) (cW : Nat) (vF vE vL vM vZ vP vC vS : Value) (w : World) (hN : N ≤ 1000000)
    (b0 : w.cell? ⟨B, 0, none⟩ = some (.pointer (some ⟨J, 0, none⟩))) (b1 : w.cell? ⟨B, 1, none⟩ = some (.slice (some ⟨GO, 0, none⟩) nO cO)) (h2 : w.cell? ⟨GO, o * 2, none⟩ = some (.string ⟨pl.toArray⟩)) (h3 : w.cell? ⟨GO, o * 2 + 1, none⟩ = some (.slice aE ne.length cE)) (ho : o < nO) (hnO : nO ≤ 100000000)
    (hj : Jb w J sy (.slice aO own.length cW) vF vE vL vM vZ vP vC vS (.slice aA alw.length cA)) (hO : IA w aO (nI own)) (hZ : OwnU w lo vZ N la) (hla : ∀ q, la q = true → q < own.length) (hol : own.length ≤ 100000000) (htab : TabAt 11 Lib.deBruijn64tab w)
    (hne : IA w aE (nI ne) ∧ ne.length ≤ cE ∧ (aE = none → cE = 0)) (hal : IA w aA (nI alw) ∧ alw.length ≤ cA ∧ (aA = none → cA = 0)) (hl1 : ne.length ≤ 10000000) (hl2 : alw.length ≤ 10000000) :
    Calls Tryd.prog 75 #[.pointer (some ⟨B, 0, none⟩), .string ⟨(leB o 4 ++ encW f N).toArray⟩] w fun e w' => ∃ v, e = .returned v ∧ OwnI w' w.heap.size v (nI (mrg alw (mrg ne (endL (fun q => f q && la q) own (64 * N))))) ∧ Below w.heap.size w w' := by
  have HRe := hid0 (read_any B GO nO cO o ne.length cE aE pl (encW f N) w b1 h2 h3 ho hnO (by have := encW_len f N; omega))
  obtain ⟨LE, hLE⟩ : ∃ LE, LE = endL (fun q => f q && la q) own (64 * N) := ⟨_, rfl⟩
  have hLl : LE.length ≤ 64000000 := by
    rw [hLE]
    unfold endL
    have h1 := onceC_len ((plB (fun q => f q && la q) (64 * N)).map fun q => own.getD q 0) []
    have h2 := plB_len (fun q => f q && la q) (64 * N)
    rw [List.length_map] at h1
    simp only [List.length_nil] at h1
    omega
  have hMl := mrg_len ne LE
  have HEn : Hid (∀ V : World, Below w.heap.size w V → Calls Tryd.prog 49 #[.pointer (some ⟨J, 0, none⟩), .string ⟨(encW f N).toArray⟩] V fun e w' => ∃ v, e = .returned v ∧ OwnI w' V.heap.size v (nI LE) ∧ Below V.heap.size V w') := hid0 (fun V hV => by rw [hLE]; exact endAt_any J N sy lo f la own aO cW vF vE vL vM vZ vP vC vS _ V hN (hj.past hV) (hO.past hV) (hZ.past hV) hla hol (tab_past htab hV))
  have HM1 : Hid (∀ (V : World) (a : Option Addr) (c : Nat), Below w.heap.size w V → IA V a (nI LE) → LE.length ≤ c → (a = none → c = 0) → Calls Tryd.prog 54 #[.slice aE ne.length cE, .slice a LE.length c] V fun e w' => ∃ v, e = .returned v ∧ OwnI w' V.heap.size v (nI (mrg ne LE)) ∧ Below V.heap.size V w') := hid0 (fun V a c hV h1 h2 h3 => merged_any ne LE aE a cE c V (hne.1.past hV) h1 hne.2.1 h2 hne.2.2 h3 (by omega) (by omega))
  obtain ⟨ME, hME⟩ : ∃ ME, ME = mrg ne LE := ⟨_, rfl⟩
  have HM2 : Hid (∀ (V : World) (a : Option Addr) (c : Nat), Below w.heap.size w V → IA V a (nI ME) → ME.length ≤ c → (a = none → c = 0) → Calls Tryd.prog 54 #[.slice aA alw.length cA, .slice a ME.length c] V fun e w' => ∃ v, e = .returned v ∧ OwnI w' V.heap.size v (nI (mrg alw ME)) ∧ Below V.heap.size V w') := hid0 (fun V a c hV h1 h2 h3 => merged_any alw ME aA a cA c V (hal.1.past hV) h1 hal.2.1 h2 hal.2.2 h3 (by omega) (by rw [hME]; omega))
  rw [← hME] at HM1
  rw [← hLE, ← hME]
  have HC : Hid (∀ V : World, Below w.heap.size w V → V.cell? ⟨B, 0, none⟩ = some (.pointer (some ⟨J, 0, none⟩)) ∧ V.cell? ⟨J, 10, none⟩ = some (.slice aA alw.length cA)) := hid0 (fun V hV => by
    obtain ⟨_, _, _, _, _, _, _, _, _, _, c10⟩ := (hj.past hV).c
    exact ⟨(hV.cell (p := ⟨B, 0, none⟩) (World.block_lt_of_cell? w _ b0)).trans b0, c10⟩)
  generalize (⟨(leB o 4 ++ encW f N).toArray⟩ : ByteArray) = tB at *
  generalize (⟨(encW f N).toArray⟩ : ByteArray) = rB at *
  generalize (⟨pl.toArray⟩ : ByteArray) = pB at *
  clear h2 h3 hj hO hZ hla htab hne hal hLE hME b1 hLl hMl hl1 hl2 b0
  go_enter Tryd.func75, Tryd.ntmps75
  go_upto_region 2 with (go_at_call 73; go_loud ((refine HRe.out.mono ?_; rintro e w1 ⟨rfl, hb1⟩; have HB1 := hid0 hb1; clear hb1)))
  obtain ⟨w2, hw2⟩ : ∃ w2, w2 = w1.alloc (.cells #[.string pB, .slice aE ne.length cE] 103) := ⟨_, rfl⟩
  have hr2 : w2.heap[w1.heap.size]? = some (.cells #[.string pB, .slice aE ne.length cE] 103 (0, 0)) := by rw [hw2]; exact heap_alloc_new w1 _
  have HB2 : Hid (Below w.heap.size w w2) := hid0 (Below.later HB1.out (by rw [hw2]; exact (Below.refl _ _).alloc (Nat.le_refl _) _))
  have HS : Hid (∀ V : World, Below w2.heap.size w2 V → V.cell? ⟨B, 0, none⟩ = some (.pointer (some ⟨J, 0, none⟩)) ∧ V.cell? ⟨J, 10, none⟩ = some (.slice aA alw.length cA) ∧ V.cell? ⟨w1.heap.size, 1, none⟩ = some (.slice aE ne.length cE) ∧ Below w.heap.size w V) := hid0 (fun V hV => by
    have h := Below.later HB2.out hV
    have hq : V.heap[w1.heap.size]? = _ := (hV.block _ (Array.getElem?_eq_some_iff.1 hr2).1).trans hr2
    exact ⟨(HC.out V h).1, (HC.out V h).2, by rw [cell_of_row _ _ _ _ _ _ hq]; rfl, h⟩)
  have HX : Hid (∀ V : World, Below w2.heap.size w2 V → V.cell? ⟨B, 0, none⟩ = some (.pointer (some ⟨J, 0, none⟩)) ∧ V.cell? ⟨J, 10, none⟩ = some (.slice aA alw.length cA) ∧ V.cell? ⟨w1.heap.size, 1, none⟩ = some (.slice aE ne.length cE) ∧ Below w2.heap.size w2 V) := hid0 (fun V hV => ⟨(HS.out V hV).1, (HS.out V hV).2.1, (HS.out V hV).2.2.1, hV⟩)
  have HT : Hid (∀ V : World, Below w2.heap.size w2 V → Calls Tryd.prog 49 #[.pointer (some ⟨J, 0, none⟩), .string rB] V fun e w' => ∃ a c, e = .returned (.slice a LE.length c) ∧ Hid (IA w' a (nI LE) ∧ LE.length ≤ c ∧ (a = none → c = 0)) ∧ Below w2.heap.size w2 w') := hid0 (fun V hV => (HEn.out V (Below.later HB2.out hV)).mono (fun e w' ⟨v, he, ho, hb⟩ => by obtain ⟨a, c, e1, h1, h2, h3⟩ := ho.sl; exact ⟨a, c, by rw [he, e1], hid0 ⟨h1, h2, h3⟩, Below.later hV hb⟩))
  have HU : Hid (∀ (V : World) (a : Option Addr) (c : Nat), Below w2.heap.size w2 V → Hid (IA V a (nI LE) ∧ LE.length ≤ c ∧ (a = none → c = 0)) → Calls Tryd.prog 54 #[.slice aE ne.length cE, .slice a LE.length c] V fun e w' => ∃ a c, e = .returned (.slice a ME.length c) ∧ Hid (IA w' a (nI ME) ∧ ME.length ≤ c ∧ (a = none → c = 0)) ∧ Below w2.heap.size w2 w') := hid0 (fun V a c hV hh => (HM1.out V a c (Below.later HB2.out hV) hh.out.1 hh.out.2.1 hh.out.2.2).mono (fun e w' ⟨v, he, ho, hb⟩ => by obtain ⟨a, c, e1, h1, h2, h3⟩ := ho.sl; exact ⟨a, c, by rw [he, e1], hid0 ⟨h1, h2, h3⟩, Below.later hV hb⟩))
  have HV : Hid (∀ (V : World) (a : Option Addr) (c : Nat), Below w2.heap.size w2 V → Hid (IA V a (nI ME) ∧ ME.length ≤ c ∧ (a = none → c = 0)) → Calls Tryd.prog 54 #[.slice aA alw.length cA, .slice a ME.length c] V fun e w' => ∃ v, e = .returned v ∧ Hid (OwnI w' V.heap.size v (nI (mrg alw ME)) ∧ Below w2.heap.size w2 V) ∧ Below w2.heap.size w2 w') := hid0 (fun V a c hV hh => (HM2.out V a c (Below.later HB2.out hV) hh.out.1 hh.out.2.1 hh.out.2.2).mono (fun e w' ⟨v, he, ho, hb⟩ => ⟨v, he, hid0 ⟨ho, hV⟩, Below.later hV hb⟩))
  obtain ⟨s0, s1, s2, s3⟩ := HX.out w2 (Below.refl _ _)
  have HLow : Hid (w.heap.size ≤ w2.heap.size) := hid0 HB2.out.size
  have q2 := hw2.symm
  clear hw2 hr2 HEn HM1 HM2 HC HS HRe
  rw [q2]
  have M1 : Hid True := trivial
  go_region_held3 (fun V => V.cell? ⟨B, 0, none⟩ = some (.pointer (some ⟨J, 0, none⟩)) ∧ V.cell? ⟨J, 10, none⟩ = some (.slice aA alw.length cA) ∧ V.cell? ⟨w1.heap.size, 1, none⟩ = some (.slice aE ne.length cE) ∧ Below w2.heap.size w2 V) (first | exact HX.out _ (by go_grown) | (go_split_ands; exact HX.out _ (by go_grown)) | (go_split_ands; exact HX.out _ (by assumption)))
    (first
      | (go_at_call 49; go_split_ands; refine (HT.out _ (by go_grown)).mono ?_; rintro e w3 ⟨a3, c3, rfl, H3, hx3⟩)
      | (go_at_call 54; clear M1; go_split_ands; refine (HU.out _ a3 c3 (by go_grown) H3).mono ?_; rintro e w4 ⟨a4, c4, rfl, H4, hx4⟩)
      | (go_at_call 54; go_split_ands; refine (HV.out _ a4 c4 (by go_grown) H4).mono ?_; rintro e w5 ⟨v5, rfl, H5, hx5⟩))
  go_split_ands
  have HX5 := hid0 hx5
  go_wp2
  go_ret
  exact ⟨v5, rfl, H5.out.1.lower (by have := H5.out.2.size; have := HLow.out; omega), Below.later HB2.out HX5.out⟩
end Go.Proofs.YtbbejfkgopcjoaaDoor
namespace Go.Proofs.YtbbejfkgopcjoaaDoor
open Go.RowKit Go.Shelf
theorem Only.afterBelow {w w1 w2 : World} {S : Nat → Prop} {B : Nat} (h : Only w1 w2 S) (hb : Below B w w1) (hB : B ≤ w1.heap.size) (hs : ∀ i, S i → B ≤ i) : Below B w w2 :=
  ⟨h.os.trans hb.os, h.tape.trans hb.tape, h.output.trans hb.output, Nat.le_trans hb.size h.size, fun k hk => (h.block k (by omega) (fun s => by have := hs k s; omega)).trans (hb.block k hk)⟩
end Go.Proofs.YtbbejfkgopcjoaaDoor
namespace Go.Proofs.YtbbejfkgopcjoaaDoor
open Go.RowKit Go.Shelf
/-- Two refusals. -/
structure Sen2 (w : World) (A : Nat → Addr) : Prop where
  c0 : w.cell? ⟨0, 0, none⟩ = some (.iface 157 (.pointer (some (A 0))))
  c2 : w.cell? ⟨1, 0, none⟩ = some (.iface 157 (.pointer (some (A 2))))
theorem Sen2.below {w w' : World} {A : Nat → Addr} (h : Sen2 w A) (hb : Below w.heap.size w w') : Sen2 w' A where
  c0 := (hb.cell (p := ⟨0, 0, none⟩) (World.block_lt_of_cell? w _ h.c0)).trans h.c0
  c2 := (hb.cell (p := ⟨1, 0, none⟩) (World.block_lt_of_cell? w _ h.c2)).trans h.c2
/-- What the world holds besides. -/
structure EnvT (w : World) (A : Nat → Addr) : Prop where
  sen : Sen2 w A
  tab : TabAt 11 Lib.deBruijn64tab w
  tl : 11 < w.heap.size
theorem EnvT.past {w w' : World} {A : Nat → Addr} (h : EnvT w A) (hb : Below w.heap.size w w') : EnvT w' A :=
  ⟨h.sen.below hb, fun j hj => (hb.cell (p := ⟨11, j, none⟩) h.tl).trans (h.tab j hj), Nat.lt_of_lt_of_le h.tl hb.size⟩
set_option maxRecDepth 10000 in
set_option maxHeartbeats 3200000 in
theorem check_two (A : Nat → Addr) (sy : Int) (aL aF aA aO : Option Addr) (cL cF cA cO : Nat) (Le Fo : List (List Int)) (Fi La : List Int) (em : Bool) (w : World) (hp : PosA w aL aF aA aO Le Fo Fi La) (hsy : sy ≤ 9223372036854775807) (he : Sen2 w A) :
    Calls Tryd.prog 26 #[posV aL aF aA aO cL cF cA cO Le Fo Fi La em, .int .i64 sy] w fun e w' => e = .returned (errP A (chkP Le Fo Fi La sy)) ∧ Below w.heap.size w w' := by
  unfold posV
  obtain ⟨w0, hw0⟩ : ∃ w0, w0 = w.alloc (.cells #[.slice aL Le.length cL, .slice aF Fi.length cF, .slice aA La.length cA, .slice aO Fo.length cO, .bool em] 46) := ⟨_, rfl⟩
  have hB0 : Below w.heap.size w w0 := by rw [hw0]; exact (Below.refl _ _).alloc (Nat.le_refl _) _
  have hX0 : w0.heap[w.heap.size]? = some (.cells #[.slice aL Le.length cL, .slice aF Fi.length cF, .slice aA La.length cA, .slice aO Fo.length cO, .bool em] 46 (0, 0)) := by rw [hw0]; exact heap_alloc_new w _
  have HB0 := hid0 hB0
  have hp0 := hp.past hB0
  obtain ⟨x0, x1, x2, x3, x4⟩ := row5 hX0
  have he0 := he.below hB0
  have HE := hid0 he0
  have e0 := he0.c0
  have e2 := he0.c2
  have hl1 := hp.l1
  have hl4 := hp.l4
  have H1 := hid0 (hasMore_any 4194304 Le aL cL w0 (by decide) (by omega) (fun r hr => by have := hp.r1 r hr; omega) hp0.le)
  have H2 := hid0 (hasMore_any 1048576 Fo aO cO w0 (by decide) (by omega) (fun r hr => by have := hp.r4 r hr; omega) hp0.fo)
  have H3 := hid0 (allRise_any sy Le aL cL w0 (by omega) (fun r hr => by have := hp.r1 r hr; omega) hsy hp0.le)
  have H4 := hid0 (fun W (hW : Below w0.heap.size w0 W) => placesRise_any aL aF aA aO cL cF cA cO Le Fo Fi La em W (hp0.past hW))
  unfold posV at H4
  have hfold := hw0.symm
  clear hw0 hp hp0 hB0 hX0 he he0
  by_cases h1 : (Le.length : Int) > 4000
  case pos =>
    have HV : Hid (chkP Le Fo Fi La sy = some 2) := hid0 (by unfold chkP; rw [if_pos (.inl (by omega))])
    go_enter Tryd.func26, Tryd.ntmps26
    go_wp2_with (first
      | (go_at_call 47; refine (H4.out _ (Below.refl _ _)).mono ?_; rintro e w4 ⟨rfl, h⟩; have HB4 := hid0 (Below.later HB0.out h); have e4 := (HE.out.below h).c0; clear h)
      | (go_at_call 46; refine H3.out.mono ?_; rintro e w3 ⟨rfl, hw3⟩; have hw3' := hw3.symm; subst hw3'; clear hw3)
      | (go_at_call 45; have hq := HQ1.out; refine H2.out.mono ?_; rintro e w2 ⟨rfl, hw2⟩; have hw2' := hw2.symm; subst hw2'; clear hw2 hq)
      | (go_at_call 45; (fail_if_success (have hq := HQ1.out)); refine H1.out.mono ?_; rintro e w1 ⟨rfl, hw1⟩; have hw1' := hw1.symm; subst hw1'; clear hw1; have HQ1 : Hid True := hid0 trivial)
      | fail)
    go_ret
    exact ⟨by rw [HV.out]; rfl, HB0.out⟩
  by_cases h2 : 4194304 < sumL Le
  case pos =>
    rw [decide_eq_true h2] at H1
    have HV : Hid (chkP Le Fo Fi La sy = some 2) := hid0 (by unfold chkP; rw [if_pos (.inr (.inl h2))])
    go_enter Tryd.func26, Tryd.ntmps26
    go_wp2_with (first
      | (go_at_call 47; refine (H4.out _ (Below.refl _ _)).mono ?_; rintro e w4 ⟨rfl, h⟩; have HB4 := hid0 (Below.later HB0.out h); have e4 := (HE.out.below h).c0; clear h)
      | (go_at_call 46; refine H3.out.mono ?_; rintro e w3 ⟨rfl, hw3⟩; have hw3' := hw3.symm; subst hw3'; clear hw3)
      | (go_at_call 45; have hq := HQ1.out; refine H2.out.mono ?_; rintro e w2 ⟨rfl, hw2⟩; have hw2' := hw2.symm; subst hw2'; clear hw2 hq)
      | (go_at_call 45; (fail_if_success (have hq := HQ1.out)); refine H1.out.mono ?_; rintro e w1 ⟨rfl, hw1⟩; have hw1' := hw1.symm; subst hw1'; clear hw1; have HQ1 : Hid True := hid0 trivial)
      | fail)
    go_ret
    exact ⟨by rw [HV.out]; rfl, HB0.out⟩
  rw [decide_eq_false h2] at H1
  by_cases h3 : 1048576 < sumL Fo
  case pos =>
    rw [decide_eq_true h3] at H2
    have HV : Hid (chkP Le Fo Fi La sy = some 2) := hid0 (by unfold chkP; rw [if_pos (.inr (.inr h3))])
    go_enter Tryd.func26, Tryd.ntmps26
    go_wp2_with (first
      | (go_at_call 47; refine (H4.out _ (Below.refl _ _)).mono ?_; rintro e w4 ⟨rfl, h⟩; have HB4 := hid0 (Below.later HB0.out h); have e4 := (HE.out.below h).c0; clear h)
      | (go_at_call 46; refine H3.out.mono ?_; rintro e w3 ⟨rfl, hw3⟩; have hw3' := hw3.symm; subst hw3'; clear hw3)
      | (go_at_call 45; have hq := HQ1.out; refine H2.out.mono ?_; rintro e w2 ⟨rfl, hw2⟩; have hw2' := hw2.symm; subst hw2'; clear hw2 hq)
      | (go_at_call 45; (fail_if_success (have hq := HQ1.out)); refine H1.out.mono ?_; rintro e w1 ⟨rfl, hw1⟩; have hw1' := hw1.symm; subst hw1'; clear hw1; have HQ1 : Hid True := hid0 trivial)
      | fail)
    go_ret
    exact ⟨by rw [HV.out]; rfl, HB0.out⟩
  rw [decide_eq_false h3] at H2
  have HC : Hid (chkP Le Fo Fi La sy = if sy < 1 ∨ 16384 < sy ∨ ¬ Fo.length = Le.length then some 0 else if riseA sy Le && plRise Le.length Fi La Fo then none else some 0) := hid0 (by unfold chkP; rw [if_neg (by omega)])
  clear h2 h3
  by_cases h4 : sy < 1
  case pos =>
    have HV : Hid (chkP Le Fo Fi La sy = some 0) := hid0 (by rw [HC.out, if_pos (.inl h4)])
    go_enter Tryd.func26, Tryd.ntmps26
    go_wp2_with (first
      | (go_at_call 47; refine (H4.out _ (Below.refl _ _)).mono ?_; rintro e w4 ⟨rfl, h⟩; have HB4 := hid0 (Below.later HB0.out h); have e4 := (HE.out.below h).c0; clear h)
      | (go_at_call 46; refine H3.out.mono ?_; rintro e w3 ⟨rfl, hw3⟩; have hw3' := hw3.symm; subst hw3'; clear hw3)
      | (go_at_call 45; have hq := HQ1.out; refine H2.out.mono ?_; rintro e w2 ⟨rfl, hw2⟩; have hw2' := hw2.symm; subst hw2'; clear hw2 hq)
      | (go_at_call 45; (fail_if_success (have hq := HQ1.out)); refine H1.out.mono ?_; rintro e w1 ⟨rfl, hw1⟩; have hw1' := hw1.symm; subst hw1'; clear hw1; have HQ1 : Hid True := hid0 trivial)
      | fail)
    go_ret
    exact ⟨by rw [HV.out]; rfl, HB0.out⟩
  by_cases h5 : sy > 16384
  case pos =>
    have HV : Hid (chkP Le Fo Fi La sy = some 0) := hid0 (by rw [HC.out, if_pos (.inr (.inl h5))])
    go_enter Tryd.func26, Tryd.ntmps26
    go_wp2_with (first
      | (go_at_call 47; refine (H4.out _ (Below.refl _ _)).mono ?_; rintro e w4 ⟨rfl, h⟩; have HB4 := hid0 (Below.later HB0.out h); have e4 := (HE.out.below h).c0; clear h)
      | (go_at_call 46; refine H3.out.mono ?_; rintro e w3 ⟨rfl, hw3⟩; have hw3' := hw3.symm; subst hw3'; clear hw3)
      | (go_at_call 45; have hq := HQ1.out; refine H2.out.mono ?_; rintro e w2 ⟨rfl, hw2⟩; have hw2' := hw2.symm; subst hw2'; clear hw2 hq)
      | (go_at_call 45; (fail_if_success (have hq := HQ1.out)); refine H1.out.mono ?_; rintro e w1 ⟨rfl, hw1⟩; have hw1' := hw1.symm; subst hw1'; clear hw1; have HQ1 : Hid True := hid0 trivial)
      | fail)
    go_ret
    exact ⟨by rw [HV.out]; rfl, HB0.out⟩
  by_cases h6 : (Fo.length : Int) = (Le.length : Int)
  case neg =>
    have h6n : ¬ Fo.length = Le.length := by omega
    have h6b : ((Fo.length : Int) != (Le.length : Int)) = true := by simp; omega
    have h6c : (Fo.length != Le.length) = true := by simp; omega
    have HV : Hid (chkP Le Fo Fi La sy = some 0) := hid0 (by rw [HC.out, if_pos (.inr (.inr (by omega)))])
    go_enter Tryd.func26, Tryd.ntmps26
    go_wp2_with (first
      | (go_at_call 47; refine (H4.out _ (Below.refl _ _)).mono ?_; rintro e w4 ⟨rfl, h⟩; have HB4 := hid0 (Below.later HB0.out h); have e4 := (HE.out.below h).c0; clear h)
      | (go_at_call 46; refine H3.out.mono ?_; rintro e w3 ⟨rfl, hw3⟩; have hw3' := hw3.symm; subst hw3'; clear hw3)
      | (go_at_call 45; have hq := HQ1.out; refine H2.out.mono ?_; rintro e w2 ⟨rfl, hw2⟩; have hw2' := hw2.symm; subst hw2'; clear hw2 hq)
      | (go_at_call 45; (fail_if_success (have hq := HQ1.out)); refine H1.out.mono ?_; rintro e w1 ⟨rfl, hw1⟩; have hw1' := hw1.symm; subst hw1'; clear hw1; have HQ1 : Hid True := hid0 trivial)
      | fail)
    go_ret
    exact ⟨by rw [HV.out]; rfl, HB0.out⟩
  have HC2 : Hid (chkP Le Fo Fi La sy = if riseA sy Le && plRise Le.length Fi La Fo then none else some 0) := hid0 (by rw [HC.out, if_neg (by omega)])
  clear HC
  cases g1 : riseA sy Le with
  | false =>
    rw [g1] at H3
    have HV : Hid (chkP Le Fo Fi La sy = some 0) := hid0 (by rw [HC2.out, g1]; rfl)
    go_enter Tryd.func26, Tryd.ntmps26
    go_wp2_with (first
      | (go_at_call 47; refine (H4.out _ (Below.refl _ _)).mono ?_; rintro e w4 ⟨rfl, h⟩; have HB4 := hid0 (Below.later HB0.out h); have e4 := (HE.out.below h).c0; clear h)
      | (go_at_call 46; refine H3.out.mono ?_; rintro e w3 ⟨rfl, hw3⟩; have hw3' := hw3.symm; subst hw3'; clear hw3)
      | (go_at_call 45; have hq := HQ1.out; refine H2.out.mono ?_; rintro e w2 ⟨rfl, hw2⟩; have hw2' := hw2.symm; subst hw2'; clear hw2 hq)
      | (go_at_call 45; (fail_if_success (have hq := HQ1.out)); refine H1.out.mono ?_; rintro e w1 ⟨rfl, hw1⟩; have hw1' := hw1.symm; subst hw1'; clear hw1; have HQ1 : Hid True := hid0 trivial)
      | fail)
    go_ret
    exact ⟨by rw [HV.out]; rfl, HB0.out⟩
  | true =>
    rw [g1] at H3
    cases g2 : plRise Le.length Fi La Fo with
    | false =>
      rw [g2] at H4
      have HV : Hid (chkP Le Fo Fi La sy = some 0) := hid0 (by rw [HC2.out, g1, g2]; rfl)
      go_enter Tryd.func26, Tryd.ntmps26
      go_wp2_with (first
      | (go_at_call 47; refine (H4.out _ (Below.refl _ _)).mono ?_; rintro e w4 ⟨rfl, h⟩; have HB4 := hid0 (Below.later HB0.out h); have e4 := (HE.out.below h).c0; clear h)
      | (go_at_call 46; refine H3.out.mono ?_; rintro e w3 ⟨rfl, hw3⟩; have hw3' := hw3.symm; subst hw3'; clear hw3)
      | (go_at_call 45; have hq := HQ1.out; refine H2.out.mono ?_; rintro e w2 ⟨rfl, hw2⟩; have hw2' := hw2.symm; subst hw2'; clear hw2 hq)
      | (go_at_call 45; (fail_if_success (have hq := HQ1.out)); refine H1.out.mono ?_; rintro e w1 ⟨rfl, hw1⟩; have hw1' := hw1.symm; subst hw1'; clear hw1; have HQ1 : Hid True := hid0 trivial)
      | fail)
      go_ret
      exact ⟨by rw [HV.out]; rfl, HB4.out⟩
    | true =>
      rw [g2] at H4
      have HV : Hid (chkP Le Fo Fi La sy = none) := hid0 (by rw [HC2.out, g1, g2]; rfl)
      go_enter Tryd.func26, Tryd.ntmps26
      go_wp2_with (first
      | (go_at_call 47; refine (H4.out _ (Below.refl _ _)).mono ?_; rintro e w4 ⟨rfl, h⟩; have HB4 := hid0 (Below.later HB0.out h); have e4 := (HE.out.below h).c0; clear h)
      | (go_at_call 46; refine H3.out.mono ?_; rintro e w3 ⟨rfl, hw3⟩; have hw3' := hw3.symm; subst hw3'; clear hw3)
      | (go_at_call 45; have hq := HQ1.out; refine H2.out.mono ?_; rintro e w2 ⟨rfl, hw2⟩; have hw2' := hw2.symm; subst hw2'; clear hw2 hq)
      | (go_at_call 45; (fail_if_success (have hq := HQ1.out)); refine H1.out.mono ?_; rintro e w1 ⟨rfl, hw1⟩; have hw1' := hw1.symm; subst hw1'; clear hw1; have HQ1 : Hid True := hid0 trivial)
      | fail)
      go_ret
      exact ⟨by rw [HV.out]; rfl, HB4.out⟩
end Go.Proofs.YtbbejfkgopcjoaaDoor
namespace Go.Proofs.YtbbejfkgopcjoaaDoor
open Go.RowKit Go.Shelf
/-- The builder: the block. -/
structure Bb (W : World) (B J : Nat) (vOp vRe vTe vNu vSt : Value) (most outs : Nat) (vNx vOu : Value) : Prop where
  r : W.heap[B]? = some (.cells #[.pointer (some ⟨J, 0, none⟩), vOp, vRe, vTe, vNu, vSt, .int .i64 (most : Int), .int .i64 (outs : Int), .int .i64 0, vNx, vOu] 97 (0, 0))
theorem Bb.lt {W : World} {B J : Nat} {vOp vRe vTe vNu vSt : Value} {most outs : Nat} {vNx vOu : Value} (h : Bb W B J vOp vRe vTe vNu vSt most outs vNx vOu) : B < W.heap.size := (Array.getElem?_eq_some_iff.1 h.r).1
theorem Bb.kept {W W' : World} {B J : Nat} {vOp vRe vTe vNu vSt : Value} {most outs : Nat} {vNx vOu : Value} (h : Bb W B J vOp vRe vTe vNu vSt most outs vNx vOu) (e : W'.heap[B]? = W.heap[B]?) : Bb W' B J vOp vRe vTe vNu vSt most outs vNx vOu := ⟨e.trans h.r⟩
theorem Bb.past {W W' : World} {B J : Nat} {vOp vRe vTe vNu vSt : Value} {most outs : Nat} {vNx vOu : Value} (h : Bb W B J vOp vRe vTe vNu vSt most outs vNx vOu) (hb : Below W.heap.size W W') : Bb W' B J vOp vRe vTe vNu vSt most outs vNx vOu := h.kept (hb.block _ h.lt)
theorem Bb.c {W : World} {B J : Nat} {vOp vRe vTe vNu vSt : Value} {most outs : Nat} {vNx vOu : Value} (h : Bb W B J vOp vRe vTe vNu vSt most outs vNx vOu) :
    W.cell? ⟨B, 0, none⟩ = some (.pointer (some ⟨J, 0, none⟩)) ∧ W.cell? ⟨B, 1, none⟩ = some vOp ∧ W.cell? ⟨B, 2, none⟩ = some vRe ∧ W.cell? ⟨B, 3, none⟩ = some vTe ∧ W.cell? ⟨B, 4, none⟩ = some vNu ∧ W.cell? ⟨B, 5, none⟩ = some vSt ∧ W.cell? ⟨B, 6, none⟩ = some (.int .i64 (most : Int)) ∧ W.cell? ⟨B, 7, none⟩ = some (.int .i64 (outs : Int)) ∧ W.cell? ⟨B, 8, none⟩ = some (.int .i64 0) ∧ W.cell? ⟨B, 9, none⟩ = some vNx ∧ W.cell? ⟨B, 10, none⟩ = some vOu := by
  refine ⟨?_, ?_, ?_, ?_, ?_, ?_, ?_, ?_, ?_, ?_, ?_⟩ <;> (rw [cell_of_row _ _ _ _ _ _ h.r]; rfl)
theorem Bb.fz {W : World} {B J : Nat} {vOp vRe vTe vNu vSt : Value} {most outs : Nat} {vNx vOu : Value} (h : Bb W B J vOp vRe vTe vNu vSt most outs vNx vOu) (i : Nat) : W.frozen? ⟨B, i, none⟩ = false := by simp [World.frozen?, h.r]
theorem Bb.setOuts {W : World} {B J : Nat} {vOp vRe vTe vNu vSt : Value} {most outs : Nat} {vNx vOu : Value} (h : Bb W B J vOp vRe vTe vNu vSt most outs vNx vOu) (n : Nat) : Bb (W.setCell ⟨B, 7, none⟩ (.int .i64 (n : Int))) B J vOp vRe vTe vNu vSt most n vNx vOu := ⟨heap_setCell_same W _ 7 _ _ _ h.r⟩
theorem Bb.setSt {W : World} {B J : Nat} {vOp vRe vTe vNu vSt : Value} {most outs : Nat} {vNx vOu : Value} (h : Bb W B J vOp vRe vTe vNu vSt most outs vNx vOu) (v : Value) : Bb (W.setCell ⟨B, 5, none⟩ v) B J vOp vRe vTe vNu v most outs vNx vOu := ⟨heap_setCell_same W _ 5 _ _ _ h.r⟩
theorem Bb.setOu {W : World} {B J : Nat} {vOp vRe vTe vNu vSt : Value} {most outs : Nat} {vNx vOu : Value} (h : Bb W B J vOp vRe vTe vNu vSt most outs vNx vOu) (v : Value) : Bb (W.setCell ⟨B, 10, none⟩ v) B J vOp vRe vTe vNu vSt most outs vNx v := ⟨heap_setCell_same W _ 10 _ _ _ h.r⟩
theorem Bb.setNx {W : World} {B J : Nat} {vOp vRe vTe vNu vSt : Value} {most outs : Nat} {vNx vOu : Value} (h : Bb W B J vOp vRe vTe vNu vSt most outs vNx vOu) (v : Value) : Bb (W.setCell ⟨B, 9, none⟩ v) B J vOp vRe vTe vNu vSt most outs v vOu := ⟨heap_setCell_same W _ 9 _ _ _ h.r⟩
/-- A row that grew by one. -/
structure ApG (ty : TypeId) (w w' : World) (lo : Nat) (v v' : Value) (xs : List Value) : Prop where
  own : w'.ownsRow lo ty 1 v' xs.length xs
  frm : Only w w' (fun k => v.ownBlock = some k)
  at' : ∀ k, v'.ownBlock = some k → v.ownBlock = some k ∨ w.heap.size ≤ k
theorem apG_one {ty : TypeId} {w w2 : World} {lo : Nat} {v v' x : Value} {xs : List Value} {o : Obj} (hown : w2.ownsRow lo ty 1 v' (xs.length + 1) (xs ++ [x])) (hg : (w.alloc o).grownBy w2 v.ownBlock) (hat : v'.ownBlock = v.ownBlock ∨ v'.ownBlock = some (w.alloc o).heap.size) : ApG ty w w2 lo v v' (xs ++ [x]) := by
  refine ⟨?_, (Only.alloc w o (fun k => v.ownBlock = some k)).trans (Only.ofGrown hg) (fun _ h => .inl h), fun k hk => ?_⟩
  · rw [List.length_append, List.length_singleton]; exact hown
  · rcases hat with e | e
    · exact .inl (by rw [← e]; exact hk)
    · rw [e] at hk
      cases hk
      right
      simp
theorem infoStr : (Tryd.prog.info? 9).map (fun i => (i.zero, i.size, i.bytes)) = some (some (.string ⟨#[]⟩), 1, 16) := by kernel_rfl
theorem infoIntsM : (Tryd.prog.info? 34).map (fun i => (i.zero, i.size, i.bytes)) = some (some (.slice none 0 0), 1, 24) := by kernel_rfl
theorem own_ne_blk {w : World} {lo : Nat} {t t' : TypeId} {s n : Nat} {v : Value} {xs : List Value} (h : w.ownsRow lo t s v n xs) {B : Nat} {cs : Array Value} {f : Nat × Nat} (hB : w.heap[B]? = some (.cells cs t' f)) (ht : t ≠ t') : v.ownBlock ≠ some B := fun e => by
  obtain ⟨c, hc⟩ := own_typ h e
  rw [hB] at hc
  injection hc with hc
  injection hc with _ h2 _
  exact ht h2.symm
theorem own_sl {w : World} {lo : Nat} {t : TypeId} {s n : Nat} {v : Value} {xs : List Value} (h : w.ownsRow lo t s v n xs) : ∃ a c, v = .slice a n c := by
  rcases h.2 with ⟨e, e2⟩ | ⟨g, cap, cur, e, _⟩
  · exact ⟨none, 0, by rw [e, e2]⟩
  · exact ⟨_, _, e⟩
end Go.Proofs.YtbbejfkgopcjoaaDoor
namespace Go.Proofs.YtbbejfkgopcjoaaDoor
open Go.RowKit Go.Shelf
set_option maxRecDepth 10000 in
set_option maxHeartbeats 1600000 in
theorem addState_any (B J lo most outs n co : Nat) (A : Nat → Addr) (vOp vRe vTe vNu vSt vNx vOu : Value) (L : List ByteArray) (VS : List Value) (tx : ByteArray) (ao : Option Addr) (w : World) (hb : Bb w B J vOp vRe vTe vNu vSt most outs vNx vOu) (hst : w.ownsRow lo 9 1 vSt L.length (L.map Value.string)) (hou : w.ownsRow lo 34 1 vOu VS.length VS) (hlo : lo ≤ w.heap.size) (hsen : Sen2 w A) (hL : L.length ≤ 16384) (hV : VS.length ≤ 16384) (_hm : most ≤ 16384) (ho : outs ≤ 4194304) (hn : n ≤ 1000000000) :
    Calls Tryd.prog 53 #[.pointer (some ⟨B, 0, none⟩), .string tx, .slice ao n co] w fun e w' =>
      (L.length = most ∨ 4194304 < outs + n → e = .returned (.iface 157 (.pointer (some (A 2)))) ∧ Only w w' (fun k => k = B))
      ∧ (¬ (L.length = most ∨ 4194304 < outs + n) → e = .returned .nilIface ∧ ∃ vSt' vOu', Bb w' B J vOp vRe vTe vNu vSt' most (outs + n) vNx vOu' ∧ w'.ownsRow lo 9 1 vSt' (L ++ [tx]).length ((L ++ [tx]).map Value.string) ∧ w'.ownsRow lo 34 1 vOu' (VS ++ [Value.slice ao n co]).length (VS ++ [Value.slice ao n co])
        ∧ Only w w' (fun k => k = B ∨ vSt.ownBlock = some k ∨ vOu.ownBlock = some k) ∧ (∀ k, vSt'.ownBlock = some k → vSt.ownBlock = some k ∨ w.heap.size ≤ k) ∧ (∀ k, vOu'.ownBlock = some k → vOu.ownBlock = some k ∨ w.heap.size ≤ k)) := by
  obtain ⟨j0, hj, jy⟩ := Option.map_eq_some_iff.1 infoStr
  simp only [Prod.mk.injEq] at jy
  obtain ⟨jy0, jy1, jy2⟩ := jy
  obtain ⟨i0, hi, hz⟩ := Option.map_eq_some_iff.1 infoIntsM
  simp only [Prod.mk.injEq] at hz
  obtain ⟨hz0, hz1, hz2⟩ := hz
  obtain ⟨s, hs⟩ : ∃ s : Nat, s = outs + n := ⟨_, rfl⟩
  rw [← hs]
  have hgB : B ≠ 1 := fun e => by
    have h1 := hb.c.1
    rw [e, hsen.c2] at h1
    injection h1 with h1
    cases h1
  obtain ⟨w0, hw0⟩ : ∃ w0, w0 = w.setCell ⟨B, 7, none⟩ (.int .i64 (s : Int)) := ⟨_, rfl⟩
  have hO0 : Only w w0 (fun k => k = B) := by rw [hw0]; exact Only.setCell _ _ _ _
  have hb0 : Bb w0 B J vOp vRe vTe vNu vSt most s vNx vOu := by rw [hw0]; exact hb.setOuts s
  have n1 := own_ne_blk hst hb.r (by decide)
  have n2 := own_ne_blk hou hb.r (by decide)
  have hst0 : w0.ownsRow lo 9 1 vSt L.length (L.map Value.string) := own_blk hst (fun k hk => hO0.block k (World.ownsRow.lt hst k hk).2 (fun e => n1 (e ▸ hk)))
  have hou0 : w0.ownsRow lo 34 1 vOu VS.length VS := own_blk hou (fun k hk => hO0.block k (World.ownsRow.lt hou k hk).2 (fun e => n2 (e ▸ hk)))
  have e2 : w0.cell? ⟨1, 0, none⟩ = some (.iface 157 (.pointer (some (A 2)))) := (hO0.cell (p := ⟨1, 0, none⟩) (World.block_lt_of_cell? w _ hsen.c2) (fun e => hgB e.symm)).trans hsen.c2
  have hlo0 : lo ≤ w0.heap.size := Nat.le_trans hlo hO0.size
  obtain ⟨a5, c5, hv5⟩ : ∃ a c, vSt = .slice a L.length c := own_sl hst
  subst hv5
  have k7 := hb.c.2.2.2.2.2.2.2.1
  have f7 := hb.fz 7
  obtain ⟨_, _, _, _, _, d5, d6, d7, _, _, d10⟩ := hb0.c
  have HO0 := hid0 hO0
  have HB0 := hid0 hb0
  have HSt0 := hid0 hst0
  have HOu0 := hid0 hou0
  have hsI : (outs : Int) + (n : Int) = (s : Int) := by omega
  have hws : IntKind.i64.wrap (s : Int) = (s : Int) := by rw [IntKind.wrap_i64]; omega
  have hfold := hw0.symm
  have hsb : s ≤ 1004194304 := by omega
  clear hw0 hb hst hou hlo hsen hO0 hb0 hst0 hou0 hs n1 n2 hgB
  by_cases h1 : L.length = most ∨ 4194304 < s
  · have HH := hid0 h1
    have hq : ((L.length : Int) == (most : Int)) = true ∨ (((L.length : Int) == (most : Int)) = false ∧ (4194304 : Int) < (s : Int)) := by
      by_cases e : L.length = most
      · left; simp [e]
      · right
        have : 4194304 < s := by rcases h1 with h | h; exact absurd h e; exact h
        exact ⟨by rw [beq_eq_false_iff_ne]; omega, by omega⟩
    clear h1
    rcases hq with h1 | ⟨h1, h2⟩
    all_goals
      go_enter Tryd.func53, Tryd.ntmps53
      go_wp2
      go_region
      all_goals
        go_wp2
        go_ret
        exact ⟨fun _ => ⟨rfl, HO0.out.trans (Only.drewN w0 _ _) (fun _ h => .inl h)⟩, fun h => absurd HH.out h⟩
  · have HH := hid0 h1
    have hq1 : ((L.length : Int) == (most : Int)) = false := by rw [beq_eq_false_iff_ne]; omega
    have hq2 : ¬ (4194304 : Int) < (s : Int) := by omega
    clear h1
    go_enter Tryd.func53, Tryd.ntmps53
    go_wp2
    go_region
    have HDw : Hid (Only w w0.drew (fun k => k = B) ∧ Bb w0.drew B J vOp vRe vTe vNu (.slice a5 L.length c5) most s vNx vOu ∧ w0.drew.ownsRow lo 9 1 (.slice a5 L.length c5) L.length (L.map Value.string) ∧ w0.drew.ownsRow lo 34 1 vOu VS.length VS ∧ lo ≤ w0.drew.heap.size) := hid0 ⟨HO0.out.trans (Only.drewN w0 1 _) (fun _ h => .inl h), HB0.out.kept rfl, own_blk HSt0.out (fun _ _ => rfl), own_blk HOu0.out (fun _ _ => rfl), hlo0⟩
    generalize w0.drew = wd at *
    have HD1 := hid0 HDw.out.2.2.1
    have hlod := HDw.out.2.2.2.2
    clear d5 d6 d7 d10 e2 k7 f7 hfold HO0 HB0 HSt0 HOu0 hlo0 hsI hws
    obtain ⟨d0, _, _, _, _, d5, _, _, _, _, _⟩ := HDw.out.2.1.c
    have HS1 : Hid (∀ (v1 : Value) (w1 : World), ApG 9 wd w1 lo (.slice a5 L.length c5) v1 (L.map Value.string ++ [.string tx]) → Bb w1 B J vOp vRe vTe vNu (.slice a5 L.length c5) most s vNx vOu ∧ (Bb (w1.setCell ⟨B, 5, none⟩ v1) B J vOp vRe vTe vNu v1 most s vNx vOu ∧ (w1.setCell ⟨B, 5, none⟩ v1).ownsRow lo 9 1 v1 (L ++ [tx]).length ((L ++ [tx]).map Value.string) ∧ (w1.setCell ⟨B, 5, none⟩ v1).ownsRow lo 34 1 vOu VS.length VS ∧ lo ≤ (w1.setCell ⟨B, 5, none⟩ v1).heap.size ∧ Only w (w1.setCell ⟨B, 5, none⟩ v1) (fun k => k = B ∨ (Value.slice a5 L.length c5).ownBlock = some k ∨ vOu.ownBlock = some k) ∧ (∀ k, v1.ownBlock = some k → (Value.slice a5 L.length c5).ownBlock = some k ∨ w.heap.size ≤ k))) := hid0 (fun v1 w1 h => by
      obtain ⟨g1, g2, g3, g4, g5⟩ := HDw.out
      have m1 := own_ne_blk g3 g2.r (by decide)
      have m2 := own_ne_blk g4 g2.r (by decide)
      have b1 := g2.kept (h.frm.block _ g2.lt m1)
      have m3 := own_ne_blk h.own b1.r (by decide)
      have hn : ∀ k, vOu.ownBlock = some k → (Value.slice a5 L.length c5).ownBlock ≠ some k := fun k hk => by
        obtain ⟨c, hc⟩ := own_typ g4 hk
        exact own_ne_blk g3 hc (by decide)
      have o1 : w1.ownsRow lo 34 1 vOu VS.length VS := own_blk g4 (fun k hk => h.frm.block k (World.ownsRow.lt g4 k hk).2 (hn k hk))
      have hO := Only.setCell w1 B 5 v1
      refine ⟨b1, b1.setSt v1, ?_, own_blk o1 (fun k hk => hO.block k (World.ownsRow.lt o1 k hk).2 (fun e => m2 (e ▸ hk))), Nat.le_trans g5 (Nat.le_trans h.frm.size hO.size), ((g1.mono (fun _ h => .inl h)).trans h.frm (fun i hi => .inl (.inr (.inl hi)))).trans hO (fun i hi => .inl (.inl hi)), fun k hk => (h.at' k hk).imp_right (fun h => Nat.le_trans g1.size h)⟩
      have h2 := own_blk (W' := w1.setCell ⟨B, 5, none⟩ v1) h.own (fun k hk => hO.block k (World.ownsRow.lt h.own k hk).2 (fun e => m3 (e ▸ hk)))
      simpa using h2)
    have HS2 : Hid (∀ (v1 v2 : Value) (w2 w3 : World), (Bb w2 B J vOp vRe vTe vNu v1 most s vNx vOu ∧ w2.ownsRow lo 9 1 v1 (L ++ [tx]).length ((L ++ [tx]).map Value.string) ∧ w2.ownsRow lo 34 1 vOu VS.length VS ∧ lo ≤ w2.heap.size ∧ Only w w2 (fun k => k = B ∨ (Value.slice a5 L.length c5).ownBlock = some k ∨ vOu.ownBlock = some k) ∧ (∀ k, v1.ownBlock = some k → (Value.slice a5 L.length c5).ownBlock = some k ∨ w.heap.size ≤ k)) → ApG 34 w2 w3 lo vOu v2 (VS ++ [Value.slice ao n co]) → Bb w3 B J vOp vRe vTe vNu v1 most s vNx vOu ∧ Bb (w3.setCell ⟨B, 10, none⟩ v2) B J vOp vRe vTe vNu v1 most s vNx v2 ∧ (w3.setCell ⟨B, 10, none⟩ v2).ownsRow lo 9 1 v1 (L ++ [tx]).length ((L ++ [tx]).map Value.string) ∧ (w3.setCell ⟨B, 10, none⟩ v2).ownsRow lo 34 1 v2 (VS ++ [Value.slice ao n co]).length (VS ++ [Value.slice ao n co])
        ∧ Only w (w3.setCell ⟨B, 10, none⟩ v2) (fun k => k = B ∨ (Value.slice a5 L.length c5).ownBlock = some k ∨ vOu.ownBlock = some k) ∧ (∀ k, v1.ownBlock = some k → (Value.slice a5 L.length c5).ownBlock = some k ∨ w.heap.size ≤ k) ∧ (∀ k, v2.ownBlock = some k → vOu.ownBlock = some k ∨ w.heap.size ≤ k)) := hid0 (fun v1 v2 w2 w3 ⟨g2, g3, g4, g5, g6, g7⟩ h => by
      have m1 := own_ne_blk g3 g2.r (by decide)
      have m2 := own_ne_blk g4 g2.r (by decide)
      have b1 := g2.kept (h.frm.block _ g2.lt m2)
      have m3 := own_ne_blk h.own b1.r (by decide)
      have hn : ∀ k, v1.ownBlock = some k → vOu.ownBlock ≠ some k := fun k hk => by
        obtain ⟨c, hc⟩ := own_typ g3 hk
        exact own_ne_blk g4 hc (by decide)
      have o1 : w3.ownsRow lo 9 1 v1 (L ++ [tx]).length ((L ++ [tx]).map Value.string) := own_blk g3 (fun k hk => h.frm.block k (World.ownsRow.lt g3 k hk).2 (hn k hk))
      have hO := Only.setCell w3 B 10 v2
      exact ⟨b1, b1.setOu v2, own_blk o1 (fun k hk => hO.block k (World.ownsRow.lt o1 k hk).2 (fun e => m1 (e ▸ hk))), own_blk h.own (fun k hk => hO.block k (World.ownsRow.lt h.own k hk).2 (fun e => m3 (e ▸ hk))), (g6.trans h.frm (fun i hi => .inl (.inr (.inr hi)))).trans hO (fun i hi => .inl (.inl hi)), g7, fun k hk => (h.at' k hk).imp_right (fun h => Nat.le_trans g6.size h)⟩)
    clear HDw
    go_upto_region 5 with (at_builtin; go_loud ((refine wpList_append_own_at _ rfl _ _ 95 rfl lo 9 j0 (.string ⟨#[]⟩) 1 16 Tryd.underlying95 hj jy0 jy1 jy2 rfl (by decide) (.slice a5 L.length c5) L.length (L.map Value.string) rfl (World.ownsRow.alloc HD1.out _) ⟨wd.heap.size, 0, none⟩ 1 1 [.string tx] rfl rfl (cell_one_new _ _ _) (by simp [Value.oneCell']) (by unfold maxLen; omega) (by omega) (by simp; omega) ?_; intro v1 w1 h1 h2 _ h4; obtain ⟨a1, c1, rfl⟩ := own_sl h1; have R := hid0 (HS1.out _ w1 (apG_one (by rw [List.length_map]; exact h1) h2 h4)); clear h1 h2 h4; have d5 := R.out.1.c.2.2.2.2.2.1; have f5 := R.out.1.fz 5)))
    have HR2 := hid0 R.out.2
    clear R d5 f5 d0
    generalize w1.setCell ⟨B, 5, none⟩ (.slice a1 (L.length + 1) c1) = w2 at *
    have HD2 := hid0 HR2.out.2.2.1
    have hlo2 := HR2.out.2.2.2.1
    obtain ⟨_, _, _, _, _, _, _, _, _, _, d10⟩ := HR2.out.1.c
    obtain ⟨aU, cU, rfl⟩ := own_sl HD2.out
    clear HS1 HD1
    go_wp2_with (at_builtin; go_loud ((refine wpList_append_own_at _ rfl _ _ 26 rfl lo 34 i0 (.slice none 0 0) 1 24 Tryd.underlying26 hi hz0 hz1 hz2 rfl (by decide) (.slice aU VS.length cU) VS.length VS rfl (World.ownsRow.alloc HD2.out _) ⟨w2.heap.size, 0, none⟩ 1 1 [.slice ao n co] rfl rfl (cell_one_new _ _ _) (by simp [Value.oneCell']) (by unfold maxLen; omega) (by omega) (by simp; omega) ?_; intro v2 w3 h1 h2 _ h4; obtain ⟨a2, c2, rfl⟩ := own_sl h1; have R := hid0 (HS2.out _ _ w2 w3 HR2.out (apG_one h1 h2 h4)); clear h1 h2 h4; have d10 := R.out.1.c.2.2.2.2.2.2.2.2.2.2; have f10 := R.out.1.fz 10)))
    go_ret
    exact ⟨fun h => absurd h HH.out, fun _ => ⟨rfl, _, _, R.out.2⟩⟩
end Go.Proofs.YtbbejfkgopcjoaaDoor
