/-
  MiUW, Door, SentP, ApmP.
-/
import Derived.Test.YthoogkpiacopiaaDoorMvd
import Derived.Deep.Cut
import Derived.BigRegion
import Derived.Test.YthoogkpiacopiaaDoorCards
import Derived.Test.YthoogkpiacopiaaDoorTie
import Derived.WalkKit
import Derived.ProofKit
import Derived.OpenShut
import Derived.Deep.DeepHandedRow
import Derived.Lib.LaidTab
import Derived.Lib.SmallJoins
import Derived.Test.YthoogkpiacopiaaDoorMva
import Derived.Stop.LaidErr
import Derived.Deep.Matrix
import Derived.Lib.LaidU8
import Derived.Shelf.Vars
import Derived.Lay
import Derived.LaidMore
import Derived.ChangeSlices
import Derived.Deep.Slices
namespace Go.Proofs.YthoogkpiacopiaaDoor
open Go.RowKit Go.Shelf
theorem row8c {W : World} {X : Nat} {t : TypeId} {a0 a1 a2 a3 a4 a5 a6 a7 : Value} (h : W.heap[X]? = some (.cells #[a0, a1, a2, a3, a4, a5, a6, a7] t (0, 0))) : W.cell? ⟨X, 0, none⟩ = some a0 ∧ W.cell? ⟨X, 1, none⟩ = some a1 ∧ W.cell? ⟨X, 2, none⟩ = some a2 ∧ W.cell? ⟨X, 3, none⟩ = some a3 ∧ W.cell? ⟨X, 4, none⟩ = some a4 ∧ W.cell? ⟨X, 5, none⟩ = some a5 ∧ W.cell? ⟨X, 6, none⟩ = some a6 := by
  refine ⟨?_, ?_, ?_, ?_, ?_, ?_, ?_⟩ <;> (rw [cell_of_row _ _ _ _ _ _ h]; rfl)
/-- Two lists that were answered one behind the other, ahead of split. -/
theorem sp_of {w3 w4 V : World} {base G n : Nat} {x y : Option Addr} {cx cy : Nat} {L : List Int} (hb : base ≤ w3.heap.size) (hn : L.length = n) (hx : OwnI w3 base (.slice x n cx) L) (h34 : Below w3.heap.size w3 w4) {b4 : Nat} (hb4 : w3.heap.size ≤ b4) (hy : OwnI w4 b4 (.slice y n cy) L) (h4 : Below w4.heap.size w4 V) (hG : w4.heap.size ≤ G) (hnb : n ≤ 5000000) (hout : V.heap[G]? = some (.cells #[.slice x n cx, .slice y n cy] 25 (0, 0))) {w0 : World} (hbel : Below base w0 V) :
    Stc base G (fun j => if j = 0 then x else y) (fun _ => n) (fun j => if j = 0 then cx else cy) ∧ Sp1 base G (fun j => if j = 0 then x else y) (fun _ => n) (fun j => if j = 0 then cx else cy) w0 V 0 0 := by
  have l3 := World.ownsRow.lt hx
  have l4 := World.ownsRow.lt hy
  have s34 := h34.size
  have e0 : vZ (fun j => if j = 0 then x else y) (fun _ => n) (fun j => if j = 0 then cx else cy) 0 = .slice x n cx := rfl
  have e1 : vZ (fun j => if j = 0 then x else y) (fun _ => n) (fun j => if j = 0 then cx else cy) 1 = .slice y n cy := rfl
  have form : ∀ {w : World} {b : Nat} {z : Option Addr} {cz : Nat}, OwnI w b (.slice z n cz) L → z = none ∨ ∃ g, z = some ⟨g, 0, none⟩ := fun {w b z cz} h => by
    rcases h.2 with ⟨e, _⟩ | ⟨g, cap, cur, e, _⟩
    · simp only [Value.slice.injEq] at e; exact .inl e.1
    · simp only [Value.slice.injEq] at e; exact .inr ⟨g, e.1⟩
  refine ⟨⟨fun j j' h1 h2 hne g hg hg' => ?_, fun j _ => hnb, fun j hj => ?_, fun j hj b off e => ?_⟩, hout, fun j hj => ?_, hbel⟩
  · rcases (show (j = 0 ∧ j' = 1) ∨ (j = 1 ∧ j' = 0) by omega) with ⟨rfl, rfl⟩ | ⟨rfl, rfl⟩
    · have q1 := l3 g hg; have q2 := l4 g hg'; omega
    · have q1 := l4 g hg; have q2 := l3 g hg'; omega
  · rcases (show j = 0 ∨ j = 1 by omega) with rfl | rfl
    · exact form hx
    · exact form hy
  · rcases (show j = 0 ∨ j = 1 by omega) with rfl | rfl
    · have e' : x = some ⟨b, off, none⟩ := e
      have q1 := l3 b (by rw [e']; rfl)
      rcases form hx with q | ⟨g, q⟩
      · rw [q] at e'; cases e'
      · rw [q] at e'; cases e'; exact ⟨rfl, by omega, q1.1⟩
    · have e' : y = some ⟨b, off, none⟩ := e
      have q1 := l4 b (by rw [e']; rfl)
      rcases form hy with q | ⟨g, q⟩
      · rw [q] at e'; cases e'
      · rw [q] at e'; cases e'; exact ⟨rfl, by omega, by omega⟩
  · refine ⟨L, hn, ?_, fun q => absurd q (Nat.not_lt_zero _), fun _ m _ hm => absurd hm (Nat.not_lt_zero _)⟩
    rcases (show j = 0 ∨ j = 1 by omega) with rfl | rfl
    · exact (hx.past h34).past h4
    · exact owns_lower (hy.past h4) (by omega)
set_option maxRecDepth 10000 in
set_option maxHeartbeats 6400000 in
theorem minimalApart_any (A : Nat → Addr) (sa sb sy : Int) (N O N' O' : List (List Int)) (aN aO aM aP aW : Option Addr) (cN cO cM cP nW cW : Nat) (w : World) (hn : Smn (N.map List.length) (O.map List.length)) (hm : Smn (N'.map List.length) (O'.map List.length)) (hpr : N.length * N'.length ≤ 1000000000000) (rN : RwN w aN N) (rO : RwN w aO O) (rM : RwN w aM N') (rP : RwN w aP O') (he : Sents w A) :
    Calls Tryd.prog 3 #[.agg #[.int .i64 sa, .slice aN N.length cN, .slice aO O.length cO, .int .i64 sb, .slice aM N'.length cM, .slice aP O'.length cP, .int .i64 sy, .slice aW nW cW]] w fun e w' => e = .returned (.bool true) ∧ Below w.heap.size w w' := by
  obtain ⟨w0, hw0⟩ : ∃ w0, w0 = w.alloc (.cells #[.int .i64 sa, .slice aN N.length cN, .slice aO O.length cO, .int .i64 sb, .slice aM N'.length cM, .slice aP O'.length cP, .int .i64 sy, .slice aW nW cW] 27) := ⟨_, rfl⟩
  have hB0 : Below w.heap.size w w0 := by rw [hw0]; exact (Below.refl _ _).alloc (Nat.le_refl _) _
  have hX0 : w0.heap[w.heap.size]? = some (.cells #[.int .i64 sa, .slice aN N.length cN, .slice aO O.length cO, .int .i64 sb, .slice aM N'.length cM, .slice aP O'.length cP, .int .i64 sy, .slice aW nW cW] 27 (0, 0)) := by rw [hw0]; exact heap_alloc_new w _
  have hz0 : w0.heap.size = w.heap.size + 1 := by rw [hw0]; simp
  have HX : Hid (∀ V : World, Below w0.heap.size w0 V → V.cell? ⟨w.heap.size, 0, none⟩ = some (.int .i64 sa) ∧ V.cell? ⟨w.heap.size, 1, none⟩ = some (.slice aN N.length cN) ∧ V.cell? ⟨w.heap.size, 2, none⟩ = some (.slice aO O.length cO) ∧ V.cell? ⟨w.heap.size, 3, none⟩ = some (.int .i64 sb) ∧ V.cell? ⟨w.heap.size, 4, none⟩ = some (.slice aM N'.length cM) ∧ V.cell? ⟨w.heap.size, 5, none⟩ = some (.slice aP O'.length cP) ∧ V.cell? ⟨w.heap.size, 6, none⟩ = some (.int .i64 sy)) := hid0 (fun V hV => row8c ((hV.block _ (by omega)).trans hX0))
  have HAl : Hid (∀ V : World, Below w0.heap.size w0 V → (RwN V aN N ∧ RwN V aO O) ∧ (RwN V aM N' ∧ RwN V aP O') ∧ Sents V A ∧ Below w.heap.size w V) := hid0 (fun V hV => by
    have h := hB0.trans (hV.mono (by omega))
    exact ⟨⟨rN.past h, rO.past h⟩, ⟨rM.past h, rP.past h⟩, he.below h, h⟩)
  have HZ0 := hid0 hz0
  have hs := hn.sml
  have hs' := hm.sml
  have HSm := hid0 hn
  have HSm' := hid0 hm
  have HPr := hid0 hpr
  have hol : O.length ≤ 2000000 := by simpa using hn.o
  have hol' : O'.length ≤ 2000000 := by simpa using hm.o
  have HTw1 := hid0 (twin_any sa N O aN aO cN cO w0 hs hol (HAl.out w0 (Below.refl _ _)).1.1 (HAl.out w0 (Below.refl _ _)).1.2)
  have HTw2 : Hid (∀ V : World, Below w0.heap.size w0 V → Calls Tryd.prog 5 #[.agg #[.int .i64 sb, .slice aM N'.length cM, .slice aP O'.length cP]] V fun e w' => ∃ G c H d, e = .returned (.agg #[.int .i64 sb, .slice (some ⟨G, 0, none⟩) N'.length c, .slice (some ⟨H, 0, none⟩) O'.length d]) ∧ Tz w' V.heap.size G c N' ∧ Tz w' V.heap.size H d O' ∧ Below V.heap.size V w') := hid0 (fun V hV => twin_any sb N' O' aM aP cM cP V hs' hol' (HAl.out V hV).2.1.1 (HAl.out V hV).2.1.2)
  have HLow : Hid (Low A w.heap.size) := hid0 he.low
  obtain ⟨x0, x1, x2, x3, x4, x5, x6⟩ := HX.out w0 (Below.refl _ _)
  have hfold := hw0.symm
  have HSl := hid0 hs
  have HSl' := hid0 hs'
  clear hw0 hB0 hX0 hz0 rN rO rM rP he hn hm hpr hs hs'
  go_enter Tryd.func3, Tryd.ntmps3
  go_upto_region 2 with (go_at_call 5; go_loud ((
    refine HTw1.out.mono ?_
    rintro e w1 ⟨G1, c1, H1, d1, rfl, t1, t2, hb1⟩
    have HT1 := hid0 t1
    have HT2 := hid0 t2
    have HB1 := hid0 hb1
    clear t1 t2 hb1)))
  obtain ⟨v1, hv1⟩ : ∃ V, V = w1.alloc (.cells #[.int .i64 sa, .slice (some ⟨G1, 0, none⟩) N.length c1, .slice (some ⟨H1, 0, none⟩) O.length d1] 24) := ⟨_, rfl⟩
  rw [← hv1]
  have hb1v : Below w1.heap.size w1 v1 := by rw [hv1]; exact (Below.refl _ _).alloc (Nat.le_refl _) _
  have hY1 : v1.heap[w1.heap.size]? = some (.cells #[.int .i64 sa, .slice (some ⟨G1, 0, none⟩) N.length c1, .slice (some ⟨H1, 0, none⟩) O.length d1] 24 (0, 0)) := by rw [hv1]; exact heap_alloc_new w1 _
  have hzv1 : v1.heap.size = w1.heap.size + 1 := by rw [hv1]; simp
  have hbv1 : Below w0.heap.size w0 v1 := HB1.out.trans (hb1v.mono HB1.out.size)
  have HBv1 := hid0 hbv1
  have HB1v := hid0 hb1v
  have HY1 := hid0 hY1
  have HZv1 := hid0 hzv1
  clear x0 x1 x2 x3 x4 x5 x6 hfold hv1 hb1v hY1 hzv1
  obtain ⟨x0, x1, x2, x3, x4, x5, x6⟩ := HX.out v1 hbv1
  have HTw2' := hid0 (HTw2.out v1 hbv1)
  clear hbv1
  go_upto_region 3 with (go_at_call 5; go_loud ((
    refine HTw2'.out.mono ?_
    rintro e w2 ⟨G2, c2, H2, d2, rfl, t3, t4, hb2⟩
    have HT3 := hid0 t3
    have HT4 := hid0 t4
    have HB2 := hid0 hb2
    clear t3 t4 hb2 x0 x1 x2 x3 x4 x5 x6)))
  obtain ⟨v2, hv2⟩ : ∃ V, V = w2.alloc (.cells #[.int .i64 sb, .slice (some ⟨G2, 0, none⟩) N'.length c2, .slice (some ⟨H2, 0, none⟩) O'.length d2] 24) := ⟨_, rfl⟩
  rw [← hv2]
  have hb2v : Below w2.heap.size w2 v2 := by rw [hv2]; exact (Below.refl _ _).alloc (Nat.le_refl _) _
  have hY2 : v2.heap[w2.heap.size]? = some (.cells #[.int .i64 sb, .slice (some ⟨G2, 0, none⟩) N'.length c2, .slice (some ⟨H2, 0, none⟩) O'.length d2] 24 (0, 0)) := by rw [hv2]; exact heap_alloc_new w2 _
  have hzv2 : v2.heap.size = w2.heap.size + 1 := by rw [hv2]; simp
  have hb12 : Below v1.heap.size v1 v2 := HB2.out.trans (hb2v.mono HB2.out.size)
  have hb02 : Below w0.heap.size w0 v2 := HBv1.out.trans (hb12.mono HBv1.out.size)
  have HB02 := hid0 hb02
  have s1 := HB1.out.size
  have s2 := HB2.out.size
  have z1 := HZv1.out
  have z0 := HZ0.out
  have hC1 := HT1.out.cap
  have hC2 := HT2.out.cap
  have hC3 := HT3.out.cap
  have hC4 := HT4.out.cap
  have HLs : Hid (LwS A w.heap.size w1.heap.size w2.heap.size w0.heap.size w1.heap.size v1.heap.size w2.heap.size G1 H1 G2 H2) := hid0 ⟨⟨fun k hk => by have := HLow.out.a k hk; omega, by have := HLow.out.g; omega⟩, by omega, by omega, by omega, by omega, by omega, by omega⟩
  have hT1v : Tz v2 w0.heap.size G1 c1 N := (HT1.out.later HB1v.out).later hb12
  have hT2v : Tz v2 w0.heap.size H1 d1 O := (HT2.out.later HB1v.out).later hb12
  have hT3v : Tz v2 v1.heap.size G2 c2 N' := HT3.out.later hb2v
  have hT4v : Tz v2 v1.heap.size H2 d2 O' := HT4.out.later hb2v
  have HE2 : Hid (LwE A w.heap.size w1.heap.size w2.heap.size w0.heap.size w1.heap.size v1.heap.size w2.heap.size G1 H1 G2 H2 c1 d1 c2 d2 sa sb sy (N.map List.length) (O.map List.length) (N'.map List.length) (O'.map List.length) v2) := hid0 (by
    refine ⟨(HX.out v2 hb02).2.2.2.2.2.2, by rw [List.length_map, List.length_map]; exact (hb12.block _ (by omega)).trans HY1.out, by rw [List.length_map, List.length_map]; exact hY2, (HAl.out v2 hb02).2.2.1, ?_, ?_, ?_, ?_, by omega⟩
    · exact ((HT1.out.rwx (hi := w1.heap.size) (Nat.le_refl _)).later HB1v.out).later hb12
    · exact ((HT2.out.rwx (hi := w1.heap.size) (Nat.le_refl _)).later HB1v.out).later hb12
    · exact (HT3.out.rwx (hi := w2.heap.size) (Nat.le_refl _)).later hb2v
    · exact (HT4.out.rwx (hi := w2.heap.size) (Nat.le_refl _)).later hb2v)
  have HC : Hid (∀ V : World, Below v2.heap.size v2 V → (V.cell? ⟨w.heap.size, 0, none⟩ = some (.int .i64 sa) ∧ V.cell? ⟨w.heap.size, 1, none⟩ = some (.slice aN N.length cN) ∧ V.cell? ⟨w.heap.size, 2, none⟩ = some (.slice aO O.length cO) ∧ V.cell? ⟨w.heap.size, 3, none⟩ = some (.int .i64 sb) ∧ V.cell? ⟨w.heap.size, 4, none⟩ = some (.slice aM N'.length cM) ∧ V.cell? ⟨w.heap.size, 5, none⟩ = some (.slice aP O'.length cP) ∧ V.cell? ⟨w.heap.size, 6, none⟩ = some (.int .i64 sy)) ∧ (V.cell? ⟨w1.heap.size, 0, none⟩ = some (.int .i64 sa) ∧ V.cell? ⟨w1.heap.size, 1, none⟩ = some (.slice (some ⟨G1, 0, none⟩) N.length c1) ∧ V.cell? ⟨w1.heap.size, 2, none⟩ = some (.slice (some ⟨H1, 0, none⟩) O.length d1)) ∧ (V.cell? ⟨w2.heap.size, 0, none⟩ = some (.int .i64 sb) ∧ V.cell? ⟨w2.heap.size, 1, none⟩ = some (.slice (some ⟨G2, 0, none⟩) N'.length c2) ∧ V.cell? ⟨w2.heap.size, 2, none⟩ = some (.slice (some ⟨H2, 0, none⟩) O'.length d2)) ∧ Sents V A ∧ Below w.heap.size w V) := hid0 (fun V hV => by
    have h := hb02.trans (hV.mono hb02.size)
    exact ⟨HX.out V h, row3c ((hV.block _ (by omega)).trans ((hb12.block _ (by omega)).trans HY1.out)), row3c ((hV.block _ (by omega)).trans hY2), (HAl.out V h).2.2.1, (HAl.out V h).2.2.2⟩)
  obtain ⟨res, hres⟩ := apR_ex sa sb sy N O N' O'
  have HAp : Hid (∀ V : World, Below v2.heap.size v2 V → Calls Tryd.prog 6 #[.agg #[.int .i64 sa, .slice (some ⟨G1, 0, none⟩) N.length c1, .slice (some ⟨H1, 0, none⟩) O.length d1], .agg #[.int .i64 sb, .slice (some ⟨G2, 0, none⟩) N'.length c2, .slice (some ⟨H2, 0, none⟩) O'.length d2], .int .i64 sy] V fun e w' => ∃ v, e = .returned (.tuple #[v, .bool (apB res), errQ A res]) ∧ OwnI w' V.heap.size v (apW res) ∧ (apW res).length ≤ 4000000 ∧ Below V.heap.size V w') := hid0 (fun V hV => apart_any A sa sb sy N O N' O' _ _ _ _ c1 d1 c2 d2 V HSl.out HSl'.out ⟨(hT1v.later hV).rwa, (hT2v.later hV).rwa⟩ ⟨(hT3v.later hV).rwa, (hT4v.later hV).rwa⟩ (HC.out V hV).2.2.2.1 res hres)
  have HRf : Hid (∀ V : World, Below v2.heap.size v2 V → Calls Tryd.prog 8 #[.agg #[.int .i64 sa, .slice aN N.length cN, .slice aO O.length cO], .agg #[.int .i64 sb, .slice aM N'.length cM, .slice aP O'.length cP], .int .i64 sy] V fun e w' => ∃ v, e = .returned (.tuple #[v, .bool (apB res), .int .i64 (apE res)]) ∧ OwnI w' V.heap.size v (apW res) ∧ Below V.heap.size V w') := hid0 (fun V hV => by
    have h := hb02.trans (hV.mono hb02.size)
    have hq := HAl.out V h
    exact refApart_any sa sb sy N O N' O' aN aO aM aP cN cO cM cP V HSl.out HSl'.out HPr.out ⟨hq.1.1.rwa, hq.1.2.rwa⟩ ⟨hq.2.1.1.rwa, hq.2.1.2.rwa⟩ res hres)
  have HK1 : Hid (∀ V : World, Below v2.heap.size v2 V → Calls Tryd.prog 7 #[.agg #[.int .i64 sa, .slice (some ⟨G1, 0, none⟩) N.length c1, .slice (some ⟨H1, 0, none⟩) O.length d1], .agg #[.int .i64 sa, .slice aN N.length cN, .slice aO O.length cO]] V fun e w' => e = .returned (.bool true) ∧ Below V.heap.size V w') := hid0 (fun V hV => by
    have hq := HAl.out V (hb02.trans (hV.mono hb02.size))
    exact kept_any sa N O _ _ G1 H1 c1 d1 cN cO aN aO V HSl.out hol (hT1v.later hV) (hT2v.later hV) ⟨hq.1.1.rwa, hq.1.2.rwa⟩)
  have HK2 : Hid (∀ V : World, Below v2.heap.size v2 V → Calls Tryd.prog 7 #[.agg #[.int .i64 sb, .slice (some ⟨G2, 0, none⟩) N'.length c2, .slice (some ⟨H2, 0, none⟩) O'.length d2], .agg #[.int .i64 sb, .slice aM N'.length cM, .slice aP O'.length cP]] V fun e w' => e = .returned (.bool true) ∧ Below V.heap.size V w') := hid0 (fun V hV => by
    have hq := HAl.out V (hb02.trans (hV.mono hb02.size))
    exact kept_any sb N' O' _ _ G2 H2 c2 d2 cM cP aM aP V HSl'.out hol' (hT3v.later hV) (hT4v.later hV) ⟨hq.2.1.1.rwa, hq.2.1.2.rwa⟩)
  have HNum : Hid (∀ V : World, Below v2.heap.size v2 V → Calls Tryd.prog 10 #[errQ A res] V fun e w' => e = .returned (.int .i64 (apE res)) ∧ w' = V) := hid0 (fun V hV => numQ (HC.out V hV).2.2.2.1 res)
  clear hT1v hT2v hT3v hT4v hres hv2 hb2v hY2 hzv2 hb12 hb02 HT1 HT2 HT3 HT4 HTw1 HTw2 HTw2' HBv1 HB1v HY1 HZv1 HB1 HB2 hC1 hC2 hC3 hC4 HX
  have HS1 := hid0 s1
  have HS2 := hid0 s2
  have HZ1 := hid0 z1
  clear s1 s2 z1 z0
  obtain ⟨⟨x0, x1, x2, x3, x4, x5, x6⟩, ⟨y0, y1, y2⟩, ⟨y3, y4, y5⟩, _⟩ := HC.out v2 (Below.refl _ _)
  generalize hLw : apW res = Lw at *
  clear hLw
  generalize hEq : errQ A res = eq at *
  generalize hBb : apB res = bb at *
  generalize hEe : apE res = ee at *
  clear hBb hEe
  have hbb1 : (bb == bb) = true := by simp
  have hbb2 : (bb != bb) = false := by simp
  have hee1 : (ee == ee) = true := by simp
  have hee2 : (ee != ee) = false := by simp
  have hEf : ∃ t0 p0, eq = .iface t0 p0 ∨ eq = .nilIface := by
    subst hEq
    cases res with
    | none => exact ⟨_, _, .inl rfl⟩
    | some r => exact ⟨0, .nilFunc, .inr rfl⟩
  clear hEf hEq
  go_upto_region 4 with (go_at_call 6; go_loud ((
    refine (HAp.out v2 (Below.refl _ _)).mono ?_
    rintro e w3 ⟨va, rfl, ho3, hl3, hb3⟩
    obtain ⟨xa, ca, rfl, ia⟩ := ho3.ia
    have HO3 := hid0 ho3
    have HIa := hid0 ia
    have HB3 := hid0 hb3
    clear ho3 hb3 ia x0 x1 x2 x3 x4 x5 x6 y0 y1 y2 y3 y4 y5)))
  obtain ⟨⟨x0, x1, x2, x3, x4, x5, x6⟩, ⟨y0, y1, y2⟩, ⟨y3, y4, y5⟩, _⟩ := HC.out w3 HB3.out
  go_upto_region 5 with (go_at_call 6; go_loud ((
    refine (HAp.out w3 HB3.out).mono ?_
    rintro e w4 ⟨vc, rfl, ho4, _, hb4⟩
    obtain ⟨xc, cc, rfl, ic⟩ := ho4.ia
    have HO4 := hid0 ho4
    have HIc := hid0 ic
    have HB34 := hid0 hb4
    have HB4 : Hid (Below v2.heap.size v2 w4) := hid0 (HB3.out.trans (hb4.mono HB3.out.size))
    clear ho4 hb4 ic x0 x1 x2 x3 x4 x5 x6 y0 y1 y2 y3 y4 y5)))
  obtain ⟨⟨x0, x1, x2, x3, x4, x5, x6⟩, ⟨y0, y1, y2⟩, ⟨y3, y4, y5⟩, _⟩ := HC.out w4 HB4.out
  go_upto_region 6 with (go_at_call 7; go_loud ((
    refine (HK1.out w4 HB4.out).mono ?_
    rintro e w5 ⟨rfl, hb5⟩
    have HB45 := hid0 hb5
    have HB5 : Hid (Below v2.heap.size v2 w5) := hid0 (HB4.out.trans (hb5.mono HB4.out.size))
    clear hb5 x0 x1 x2 x3 x4 x5 x6 y0 y1 y2 y3 y4 y5)))
  obtain ⟨⟨x0, x1, x2, x3, x4, x5, x6⟩, ⟨y0, y1, y2⟩, ⟨y3, y4, y5⟩, _⟩ := HC.out w5 HB5.out
  go_upto_region 7 with (go_at_call 7; go_loud ((
    refine (HK2.out w5 HB5.out).mono ?_
    rintro e w6 ⟨rfl, hb6⟩
    have HB46 : Hid (Below w4.heap.size w4 w6) := hid0 (HB45.out.trans (hb6.mono HB45.out.size))
    have HB6 : Hid (Below v2.heap.size v2 w6) := hid0 (HB5.out.trans (hb6.mono HB5.out.size))
    clear hb6 x0 x1 x2 x3 x4 x5 x6 y0 y1 y2 y3 y4 y5)))
  obtain ⟨⟨x0, x1, x2, x3, x4, x5, x6⟩, ⟨y0, y1, y2⟩, ⟨y3, y4, y5⟩, _⟩ := HC.out w6 HB6.out
  go_upto_region 8 with (go_at_call 8; go_loud ((
    refine (HRf.out w6 HB6.out).mono ?_
    rintro e w7 ⟨vb, rfl, ho7, hb7⟩
    obtain ⟨xb, cb, rfl, ib⟩ := ho7.ia
    have HIb := hid0 ib
    have HB47 : Hid (Below w4.heap.size w4 w7) := hid0 (HB46.out.trans (hb7.mono HB46.out.size))
    have HB7 : Hid (Below v2.heap.size v2 w7) := hid0 (HB6.out.trans (hb7.mono HB6.out.size))
    clear ho7 hb7 ib x0 x1 x2 x3 x4 x5 x6 y0 y1 y2 y3 y4 y5)))
  have HSa := hid0 (sameW Lw xa xb ca cb w7 (by omega) ((HIa.out.past HB34.out).past HB47.out) HIb.out)
  have HSc : Hid (∀ V : World, Below w7.heap.size w7 V → Calls Tryd.prog 9 #[.slice xc Lw.length cc, .slice xb Lw.length cb] V fun e w' => e = .returned (.bool true) ∧ Below V.heap.size V w') := hid0 (fun V hV => sameW Lw xc xb cc cb V (by omega) ((HIc.out.past HB47.out).past hV) (HIb.out.past hV))
  go_upto_region 9 with (go_at_call 9; go_loud ((
    refine HSa.out.mono ?_
    rintro e w8 ⟨rfl, hb8⟩
    have HB78 := hid0 hb8
    clear hb8)))
  go_upto_region 10 with (go_at_call 9; go_loud ((
    refine (HSc.out w8 HB78.out).mono ?_
    rintro e w9 ⟨rfl, hb9⟩
    have HB49 : Hid (Below w4.heap.size w4 w9) := hid0 (HB47.out.trans ((HB78.out.trans (hb9.mono HB78.out.size)).mono HB47.out.size))
    have HB9 : Hid (Below v2.heap.size v2 w9) := hid0 (HB7.out.trans ((HB78.out.trans (hb9.mono HB78.out.size)).mono HB7.out.size))
    clear hb9)))
  have HSp : Hid (Calls Tryd.prog 11 #[.slice (some ⟨w9.heap.size, 0, none⟩) 2 2] (w9.alloc (.cells #[.slice xa Lw.length ca, .slice xc Lw.length cc] 25)) fun e w' => e = .returned (.bool true) ∧ Below v2.heap.size v2 w') := hid0 (by
    have hb : Below w9.heap.size w9 (w9.alloc (.cells #[.slice xa Lw.length ca, .slice xc Lw.length cc] 25)) := (Below.refl _ _).alloc (Nat.le_refl _) _
    have q9 := HB9.out.size
    have q3 := HB3.out.size
    obtain ⟨k1, k2⟩ := sp_of (w3 := w3) (w4 := w4) (V := w9.alloc (.cells #[.slice xa Lw.length ca, .slice xc Lw.length cc] 25)) (base := v2.heap.size) (G := w9.heap.size) (n := Lw.length) (w0 := v2) q3 rfl HO3.out HB34.out (Nat.le_refl _) HO4.out (HB49.out.trans (hb.mono HB49.out.size)) HB49.out.size (by omega) (heap_alloc_new w9 _) (HB9.out.trans (hb.mono q9))
    exact split_any _ _ _ _ _ v2 _ k1 (by have := hb.size; omega) k2)
  have HN9 := hid0 (HNum.out w9 HB9.out)
  go_upto_region 12 with (first
    | (go_at_call 10; refine HN9.out.mono ?_; rintro e wq ⟨rfl, hq⟩; have hq' := hq.symm; subst hq'; clear hq)
    | (go_at_call 11; go_loud ((
        refine HSp.out.mono ?_
        rintro e w10 ⟨rfl, hb10⟩
        have HB10 := hid0 hb10
        clear hb10))))
  have HEwA := hid0 (HE2.out.later HB10.out)
  have HBwA : Hid (Below w.heap.size w w10) := hid0 (HC.out w10 HB10.out).2.2.2.2
  have HTuA : Hid (Calls Tryd.prog 12 #[.agg #[.int .i64 sa, .slice (some ⟨G1, 0, none⟩) N.length c1, .slice (some ⟨H1, 0, none⟩) O.length d1]] w10 fun e w' => e = .returned (.tuple #[]) ∧ TurR w10 (some ⟨G1, 0, none⟩) (some ⟨H1, 0, none⟩) (N.map List.length) (O.map List.length) (rng w0.heap.size w1.heap.size) w') := hid0 (by
    have h := turned_any sa (N.map List.length) (O.map List.length) (some ⟨G1, 0, none⟩) (some ⟨H1, 0, none⟩) c1 d1 (rng w0.heap.size w1.heap.size) w10 (fun k hk => by have h1 := hk.2; have h2 := HEwA.out.big; have h3 := HS2.out; have h4 := HZ1.out; omega) HSm.out.n HSm.out.nr HSm.out.or HSm.out.o HEwA.out.m1 HEwA.out.m2
    simp only [List.length_map] at h
    exact h)
  obtain ⟨y0, y1, y2⟩ := row3c HEwA.out.ym
  obtain ⟨y3, y4, y5⟩ := row3c HEwA.out.yn
  have x6 := HEwA.out.xs
  simp only [List.length_map] at y1 y2 y4 y5
  go_upto_region 13 with (go_at_call 12; go_loud ((
    refine HTuA.out.mono ?_
    rintro e pA ⟨rfl, ht⟩
    have HEaA := hid0 (HEwA.out.turn1 HLs.out ht)
    have HBaA : Hid (Below w.heap.size w pA) := hid0 (HBwA.out.trans (by
      have h3 := HZ0.out; have h4 := HS1.out; have h5 := HZ1.out; have h6 := HBwA.out.size
      exact ⟨ht.2.2.os, ht.2.2.tape, ht.2.2.output, ht.2.2.size, fun q hq => ht.2.2.oth q (by omega) (fun hd => by have h1 := hd.1; omega)⟩))
    clear ht; clear x6 y0 y1 y2 y3 y4 y5)))
  obtain ⟨resA, hrA, haA⟩ := HEaA.out.both HSm.out HSm'.out (by rw [List.length_map, List.length_map]; exact HPr.out)
  have HNmA : Hid (∀ V : World, Below pA.heap.size pA V → Calls Tryd.prog 10 #[errQ A resA] V fun e w' => e = .returned (.int .i64 (apE resA)) ∧ w' = V) := hid0 (fun V hV => numQ (HEaA.out.se.below hV) resA)
  unfold RfR at hrA
  simp only [List.length_map] at hrA haA
  have HRA := hid0 hrA
  have HAA := hid0 haA
  clear hrA haA
  generalize apW resA = LA at *
  generalize errQ A resA = eqA at *
  generalize apB resA = bbA at *
  generalize apE resA = eeA at *
  have hbcA : (bbA == bbA) = true := by simp
  have hbdA : (bbA != bbA) = false := by simp
  have hecA : (eeA == eeA) = true := by simp
  have hedA : (eeA != eeA) = false := by simp
  obtain ⟨y0, y1, y2⟩ := row3c HEaA.out.ym
  obtain ⟨y3, y4, y5⟩ := row3c HEaA.out.yn
  have x6 := HEaA.out.xs
  simp only [List.length_map] at y1 y2 y4 y5
  go_upto_region 14 with (go_at_call 8; go_loud ((
    refine HRA.out.mono ?_
    rintro e qA ⟨vbA, rfl, ho, hb⟩
    obtain ⟨xbA, cbA, rfl, ib⟩ := ho.ia
    have HIbA := hid0 ib
    have HBqA := hid0 hb
    clear ho hb ib; clear x6 y0 y1 y2 y3 y4 y5)))
  have HEqA := hid0 (HEaA.out.later HBqA.out)
  obtain ⟨y0, y1, y2⟩ := row3c HEqA.out.ym
  obtain ⟨y3, y4, y5⟩ := row3c HEqA.out.yn
  have x6 := HEqA.out.xs
  simp only [List.length_map] at y1 y2 y4 y5
  go_upto_region 15 with (go_at_call 6; go_loud ((
    refine (HAA.out qA HBqA.out).mono ?_
    rintro e rA ⟨vdA, rfl, ho, hlA, hb⟩
    obtain ⟨xdA, cdA, rfl, id⟩ := ho.ia
    have HIdA := hid0 id
    have HBqrA := hid0 hb
    have HBrA : Hid (Below pA.heap.size pA rA) := hid0 (HBqA.out.trans (hb.mono HBqA.out.size))
    clear ho hb id; clear x6 y0 y1 y2 y3 y4 y5)))
  have HSmA := hid0 (sameW LA xdA xbA cdA cbA rA (by omega) HIdA.out (HIbA.out.past HBqrA.out))
  go_upto_region 16 with (go_at_call 9; go_loud ((
    refine HSmA.out.mono ?_
    rintro e sA ⟨rfl, hb⟩
    have HBsA : Hid (Below pA.heap.size pA sA) := hid0 (HBrA.out.trans (hb.mono HBrA.out.size))
    clear hb)))
  have HNnA := hid0 (HNmA.out sA HBsA.out)
  go_upto_region 18 with (go_at_call 10; refine HNnA.out.mono ?_; rintro e wq ⟨rfl, hq⟩; have hq' := hq.symm; subst hq'; clear hq)
  have HEwB := hid0 (HEaA.out.later HBsA.out)
  have HBwB : Hid (Below w.heap.size w sA) := hid0 (HBaA.out.trans (HBsA.out.mono HBaA.out.size))
  have HTuB : Hid (Calls Tryd.prog 12 #[.agg #[.int .i64 sb, .slice (some ⟨G2, 0, none⟩) N'.length c2, .slice (some ⟨H2, 0, none⟩) O'.length d2]] sA fun e w' => e = .returned (.tuple #[]) ∧ TurR sA (some ⟨G2, 0, none⟩) (some ⟨H2, 0, none⟩) (N'.map List.length) (O'.map List.length) (rng v1.heap.size w2.heap.size) w') := hid0 (by
    have h := turned_any sb (N'.map List.length) (O'.map List.length) (some ⟨G2, 0, none⟩) (some ⟨H2, 0, none⟩) c2 d2 (rng v1.heap.size w2.heap.size) sA (fun k hk => by have h1 := hk.2; have h2 := HEwB.out.big; have h3 := HS2.out; have h4 := HZ1.out; omega) HSm'.out.n HSm'.out.nr HSm'.out.or HSm'.out.o HEwB.out.n1 HEwB.out.n2
    simp only [List.length_map] at h
    exact h)
  obtain ⟨y0, y1, y2⟩ := row3c HEwB.out.ym
  obtain ⟨y3, y4, y5⟩ := row3c HEwB.out.yn
  have x6 := HEwB.out.xs
  simp only [List.length_map] at y1 y2 y4 y5
  go_upto_region 19 with (go_at_call 12; go_loud ((
    refine HTuB.out.mono ?_
    rintro e pB ⟨rfl, ht⟩
    have HEaB := hid0 (HEwB.out.turn2 HLs.out ht)
    have HBaB : Hid (Below w.heap.size w pB) := hid0 (HBwB.out.trans (by
      have h3 := HZ0.out; have h4 := HS1.out; have h5 := HZ1.out; have h6 := HBwB.out.size
      exact ⟨ht.2.2.os, ht.2.2.tape, ht.2.2.output, ht.2.2.size, fun q hq => ht.2.2.oth q (by omega) (fun hd => by have h1 := hd.1; omega)⟩))
    clear ht; clear x6 y0 y1 y2 y3 y4 y5)))
  obtain ⟨resB, hrB, haB⟩ := HEaB.out.both HSm.out HSm'.out (by rw [List.length_map, List.length_map]; exact HPr.out)
  have HNmB : Hid (∀ V : World, Below pB.heap.size pB V → Calls Tryd.prog 10 #[errQ A resB] V fun e w' => e = .returned (.int .i64 (apE resB)) ∧ w' = V) := hid0 (fun V hV => numQ (HEaB.out.se.below hV) resB)
  unfold RfR at hrB
  simp only [List.length_map] at hrB haB
  have HRB := hid0 hrB
  have HAB := hid0 haB
  clear hrB haB
  generalize apW resB = LB at *
  generalize errQ A resB = eqB at *
  generalize apB resB = bbB at *
  generalize apE resB = eeB at *
  have hbcB : (bbB == bbB) = true := by simp
  have hbdB : (bbB != bbB) = false := by simp
  have hecB : (eeB == eeB) = true := by simp
  have hedB : (eeB != eeB) = false := by simp
  obtain ⟨y0, y1, y2⟩ := row3c HEaB.out.ym
  obtain ⟨y3, y4, y5⟩ := row3c HEaB.out.yn
  have x6 := HEaB.out.xs
  simp only [List.length_map] at y1 y2 y4 y5
  go_upto_region 20 with (go_at_call 8; go_loud ((
    refine HRB.out.mono ?_
    rintro e qB ⟨vbB, rfl, ho, hb⟩
    obtain ⟨xbB, cbB, rfl, ib⟩ := ho.ia
    have HIbB := hid0 ib
    have HBqB := hid0 hb
    clear ho hb ib; clear x6 y0 y1 y2 y3 y4 y5)))
  have HEqB := hid0 (HEaB.out.later HBqB.out)
  obtain ⟨y0, y1, y2⟩ := row3c HEqB.out.ym
  obtain ⟨y3, y4, y5⟩ := row3c HEqB.out.yn
  have x6 := HEqB.out.xs
  simp only [List.length_map] at y1 y2 y4 y5
  go_upto_region 21 with (go_at_call 6; go_loud ((
    refine (HAB.out qB HBqB.out).mono ?_
    rintro e rB ⟨vdB, rfl, ho, hlB, hb⟩
    obtain ⟨xdB, cdB, rfl, id⟩ := ho.ia
    have HIdB := hid0 id
    have HBqrB := hid0 hb
    have HBrB : Hid (Below pB.heap.size pB rB) := hid0 (HBqB.out.trans (hb.mono HBqB.out.size))
    clear ho hb id; clear x6 y0 y1 y2 y3 y4 y5)))
  have HSmB := hid0 (sameW LB xdB xbB cdB cbB rB (by omega) HIdB.out (HIbB.out.past HBqrB.out))
  go_upto_region 22 with (go_at_call 9; go_loud ((
    refine HSmB.out.mono ?_
    rintro e sB ⟨rfl, hb⟩
    have HBsB : Hid (Below pB.heap.size pB sB) := hid0 (HBrB.out.trans (hb.mono HBrB.out.size))
    clear hb)))
  have HNnB := hid0 (HNmB.out sB HBsB.out)
  go_wp2_with (go_at_call 10; refine HNnB.out.mono ?_; rintro e wq ⟨rfl, hq⟩; have hq' := hq.symm; subst hq'; clear hq)
  go_ret
  exact ⟨rfl, HBaB.out.trans (HBsB.out.mono HBaB.out.size)⟩
end Go.Proofs.YthoogkpiacopiaaDoor
namespace Go.Proofs.YthoogkpiacopiaaDoor
open Go.ChangeShapes Go.WideShapes Go.ChangeAt Go.RowKit
theorem own : ownKnob Tryd.prog.godebug = none := by kernel_rfl
/-- The settled world, the listed variables holding what their initialisers lay. -/
def laidWorld (hold : World) : World := { hold with heap := ((((((((((((((((((((((hold.heap.modify 0 fun | .cells _ t frozen => .cells #[.iface 97 (.pointer (some ⟨hold.heap.size + 0, 0, none⟩))] t frozen | o => o).modify 1 fun | .cells _ t frozen => .cells #[.iface 97 (.pointer (some ⟨hold.heap.size + 1, 0, none⟩))] t frozen | o => o).modify 2 fun | .cells _ t frozen => .cells #[.iface 97 (.pointer (some ⟨hold.heap.size + 2, 0, none⟩))] t frozen | o => o).modify 3 fun | .cells _ t frozen => .cells #[.iface 97 (.pointer (some ⟨hold.heap.size + 3, 0, none⟩))] t frozen | o => o).modify 4 fun | .cells _ t frozen => .cells #[.iface 97 (.pointer (some ⟨hold.heap.size + 4, 0, none⟩))] t frozen | o => o).modify 5 fun | .cells _ t frozen => .cells #[.iface 97 (.pointer (some ⟨hold.heap.size + 5, 0, none⟩))] t frozen | o => o).modify 6 fun | .cells _ t frozen => .cells #[.iface 97 (.pointer (some ⟨hold.heap.size + 6, 0, none⟩))] t frozen | o => o).modify 7 fun | .cells _ t frozen => .cells #[.iface 97 (.pointer (some ⟨hold.heap.size + 7, 0, none⟩))] t frozen | o => o).modify 8 fun | .cells _ t frozen => .cells #[.iface 97 (.pointer (some ⟨hold.heap.size + 8, 0, none⟩))] t frozen | o => o).modify 9 fun | .cells _ t frozen => .cells #[.iface 97 (.pointer (some ⟨hold.heap.size + 9, 0, none⟩))] t frozen | o => o).modify 10 fun | .cells _ t frozen => .cells #[.iface 97 (.pointer (some ⟨hold.heap.size + 10, 0, none⟩))] t frozen | o => o).push (.cells #[.string ⟨#[97, 32, 110, 117, 109, 98, 101, 114, 32, 111, 114, 32, 97, 110, 32, 97, 114, 103, 117, 109, 101, 110, 116, 32, 105, 115, 32, 111, 117, 116, 32, 111, 102, 32, 105, 116, 115, 32, 112, 108, 97, 99, 101]⟩] 115)).push (.cells #[.string ⟨#[97, 32, 116, 101, 120, 116, 32, 111, 114, 32, 98, 121, 116, 101, 115, 32, 116, 104, 97, 116, 32, 99, 97, 110, 110, 111, 116, 32, 98, 101, 32, 114, 101, 97, 100]⟩] 115)).push (.cells #[.string ⟨#[97, 98, 111, 118, 101, 32, 97, 32, 108, 105, 109, 105, 116]⟩] 115)).push (.cells #[.string ⟨#[115, 111, 109, 101, 116, 104, 105, 110, 103, 32, 105, 115, 32, 109, 105, 115, 115, 105, 110, 103]⟩] 115)).push (.cells #[.string ⟨#[116, 104, 101, 114, 101, 32, 116, 119, 105, 99, 101]⟩] 115)).push (.cells #[.string ⟨#[110, 111, 116, 32, 105, 110, 32, 111, 114, 100, 101, 114]⟩] 115)).push (.cells #[.string ⟨#[110, 111, 116, 32, 116, 104, 101, 114, 101]⟩] 115)).push (.cells #[.string ⟨#[103, 111, 101, 115, 32, 114, 111, 117, 110, 100, 32, 105, 110, 32, 97, 32, 99, 105, 114, 99, 108, 101]⟩] 115)).push (.cells #[.string ⟨#[116, 104, 101, 32, 115, 117, 109, 32, 100, 111, 101, 115, 32, 110, 111, 116, 32, 102, 105, 116]⟩] 115)).push (.cells #[.string ⟨#[110, 111, 116, 32, 116, 104, 101, 32, 111, 110, 101, 32, 102, 111, 114, 109, 32, 116, 104, 97, 116, 32, 105, 115, 32, 119, 114, 105, 116, 116, 101, 110]⟩] 115)).push (.cells #[.string ⟨#[105, 116, 32, 104, 97, 115, 32, 101, 110, 100, 101, 100]⟩] 115)) }
set_option maxRecDepth 100000 in
theorem door_shaped (os : Os) (args : Array Value) : ((laidWorld (World.holding Tryd.prog os ⟨#[], #[], []⟩)).forCall (fun _ _ => 0) ⟨#[], args, []⟩).Shaped Tryd.prog :=
  World.shaped_of_RefB (by kernel_rfl) (by kernel_rfl)
/-- An input that fits, at a world that is written out. -/
theorem witness_row_shaped {H : Type} {enc : TypeId × Value → H} {C : Checked} {os : Os} {f : FuncId} {fn : Func} {s : OpenSpec} {conds : List PathCond} {apart : Bool} {laid : List (String × DataW Unit)} (w0 : World) (args : Array Value) (hos : w0.os = os)
    (hsh : (w0.forCall (fun _ _ => 0) ⟨#[], args, []⟩).Shaped C.prog)
    (hok : Input.okWideB C.prog (w0.forCall (fun _ _ => 0) ⟨#[], args, []⟩) f ⟨#[], args, []⟩ = true)
    (hrow : s.preRow enc C.prog fn conds apart laid (w0.forCall (fun _ _ => 0) ⟨#[], args, []⟩).memory args) :
    ∃ (w : World) (tape : Tape) (i : Input), w.os = os ∧ (w.forCall tape i).Shaped C.prog ∧ i.vars = [] ∧ Input.okWide C.prog (w.forCall tape i) .any w.heap.size f i ∧
      s.preRow enc C.prog fn conds apart laid (w.forCall tape i).memory i.args ∧ ({} : Assume).holds C.prog (lone (Frame.enter C.prog f i.args .normal) [] (w.forCall tape i)) :=
  ⟨w0, fun _ _ => 0, ⟨#[], args, []⟩, hos, hsh, (Input.okWide_of_okWideB (base := 0) hok).1, (Input.okWide_of_okWideB hok).2, hrow, by
    simp only [Assume.holds]
    exact ⟨by simp, by simp, by simp, by simp, by simp⟩⟩
theorem laidOut : laidOutB Tryd.prog = true := by kernel_rfl
set_option maxRecDepth 10000 in
/-- The frame of a law of one parameter that answers true, writes nothing that was there, and lists no variable among its readings. -/
theorem law_contract {H : Type} {enc : TypeId × Value → H} {f : FuncId} {fn : Func} {s : ChangeSpec} {t : TypeId} (hp : fn.params = #[t]) (hrt : fn.resultTypes = #[4]) (hvars : s.vars = [])
    (hfn : ∀ (K : Type) (d : DataW K), s.fn K [d] = { results := [.lit (.bool true)], args := [d] }) (hread : Tryd.prog.readableRec t = true) (hrow : t < Tryd.prog.types.size)
    (W : World) (base : Nat) (args : Array Value) (ds gs : List (DataW H)) (before : List MemPlace)
    (hval : ∀ (j : Nat) t v, fn.params[j]? = some t → args[j]? = some v → Value.okWide Tryd.prog W .any base t v)
    (hW : DataW.Whole enc Tryd.prog fn.params.toList s.vars false W args.toList ds gs before)
    (hsz : (DataW.weightsEach Tryd.prog (fn.params.toList ++ s.plain.varTypes Tryd.prog) (ds ++ gs)).all (· ≤ reachBytes) = true)
    (walk : ∀ (v : Value) (d : DataW H) (p : List MemPlace), Value.okWide Tryd.prog W .any base t v → DataW.Trod enc Tryd.prog W 0 (fun _ => true) true t v d p → (∀ x ∈ p, x.block < W.heap.size) → (∀ x ∈ d.weights Tryd.prog t, x ≤ reachBytes) → ds = [d] → gs = [] →
      Calls Tryd.prog f #[v] W fun e W' => e = .returned (.bool true) ∧ Below W.heap.size W W') :
    Calls Tryd.prog f args W fun e W' => ∃ v, e = .returned v ∧ s.post enc Tryd.prog fn false true false false W args v W' := by
  have hW' := hW
  obtain ⟨p, q, hA0, hV, rfl, hfz, hnd⟩ := hW
  have hA : DataW.TrodAll enc Tryd.prog W 0 (fun _ => true) true fn.params.toList args.toList ds p := hA0
  rw [hp] at hA hval hsz
  obtain ⟨v0, vs0, d0, ds0, p0, q0, hargs, rfl, rfl, h0, r0⟩ := trodAll_cons hA
  obtain ⟨rfl, rfl, rfl⟩ := trodAll_nil r0
  obtain rfl : args = #[v0] := by cases args; simp_all
  rw [hvars] at hV
  obtain ⟨rfl, rfl⟩ := trodVars_none hV
  have hlt : ∀ x ∈ p0, x.block < W.heap.size := fun x hx => by have := hW'.lt x (by simpa using hx); simpa using this
  have hw : ∀ x ∈ d0.weights Tryd.prog t, x ≤ reachBytes := fun x hx => by
    have := List.all_eq_true.1 hsz x (DataW.weights_mem_each (j := 0) (by simp) (by simp) x hx)
    simpa using this
  refine (walk v0 d0 p0 (hval 0 t v0 rfl rfl) h0 hlt hw rfl rfl).mono fun e W' ⟨he, hb⟩ => ?_
  subst he
  refine ⟨_, rfl, [d0], [], _, [], p0 ++ [], [], hW', ?_, ?_, ?_, hb.frame _, fun h => by cases h⟩
  · rw [hrt, show ([d0] ++ ([] : List (DataW H))) = [d0] from rfl, hfn]
    exact trodAll_cons_mk (shut_bool Tryd.underlying4 true) trodAll_mk0
  · rw [hp, show ([d0] ++ ([] : List (DataW H))) = [d0] from rfl, hfn]
    exact trodAll_cons_mk (Below.trod laidOut hread hrow h0 hb hlt) trodAll_mk0
  · rw [hvars, show ([d0] ++ ([] : List (DataW H))) = [d0] from rfl, hfn]
    rfl
set_option maxRecDepth 10000 in
/-- The same frame for a law without parameters. -/
theorem law_contract0 {H : Type} {enc : TypeId × Value → H} {f : FuncId} {fn : Func} {s : ChangeSpec} (hp : fn.params = #[]) (hrt : fn.resultTypes = #[4]) (hvars : s.vars = [])
    (hfn : ∀ (K : Type), s.fn K [] = { results := [.lit (.bool true)], args := [] })
    (W : World) (args : Array Value) (ds gs : List (DataW H)) (before : List MemPlace)
    (hW : DataW.Whole enc Tryd.prog fn.params.toList s.vars false W args.toList ds gs before)
    (walk : Calls Tryd.prog f #[] W fun e W' => e = .returned (.bool true) ∧ Below W.heap.size W W') :
    Calls Tryd.prog f args W fun e W' => ∃ v, e = .returned v ∧ s.post enc Tryd.prog fn false true false false W args v W' := by
  have hW' := hW
  obtain ⟨p, q, hA0, hV, rfl, hfz, hnd⟩ := hW
  have hA : DataW.TrodAll enc Tryd.prog W 0 (fun _ => true) true fn.params.toList args.toList ds p := hA0
  rw [hp] at hA
  obtain ⟨hargs, rfl, rfl⟩ := trodAll_nil hA
  obtain rfl : args = #[] := by cases args; simp_all
  rw [hvars] at hV
  obtain ⟨rfl, rfl⟩ := trodVars_none hV
  refine walk.mono fun e W' ⟨he, hb⟩ => ?_
  subst he
  refine ⟨_, rfl, [], [], _, [], [], [], hW', ?_, ?_, ?_, hb.frame _, fun h => by cases h⟩
  · rw [hrt, show (([] : List (DataW H)) ++ []) = [] from rfl, hfn]
    exact trodAll_cons_mk (shut_bool Tryd.underlying4 true) trodAll_mk0
  · rw [hp, show (([] : List (DataW H)) ++ []) = [] from rfl, hfn]
    exact trodAll_mk0
  · rw [hvars, show (([] : List (DataW H)) ++ []) = [] from rfl, hfn]
    rfl
end Go.Proofs.YthoogkpiacopiaaDoor
namespace Go.Proofs.YthoogkpiacopiaaDoor
open Go.ChangeShapes Go.WideShapes Go.ChangeAt Go.RowKit
theorem star : ("*" ++ "errors.errorString" : String) = "*errors.errorString" := by decide
theorem errRow (u : TypeId) (h : Tryd.prog.typeName? 3 u = some "*errors.errorString") : u = 97 :=
  typeName_ptr_named (nm := "errors.errorString") (by rw [star]; kernel_rfl) (by kernel_rfl) (by decide) u (by rw [star]; exact h)
theorem cellsErr : Tryd.prog.cellsOf 115 = 1 := by kernel_rfl
theorem cellsStr : Tryd.prog.cellsOf 9 = 1 := by kernel_rfl
/-- A listed refusal. -/
def sentRow (x : String × List UInt8) : String × DataW Unit := (x.1, .iface "*errors.errorString" (.ptr (.agg [.lit (.string x.2)])))
set_option maxRecDepth 10000 in
theorem sents_list {W : World} (rest : List (String × DataW Unit)) : ∀ (L : List (String × List UInt8)) (ps : List MemPlace),
    DataW.LaidVars Tryd.prog W (L.map sentRow ++ rest) ps → ps.Nodup →
    (∀ b off, MemPlace.cell b off ∈ ps → (∃ c t, W.heap[b]? = some (.cells c t (0, 0))) ∧ ∀ u v, W.cell? ⟨b, off, none⟩ = some (.iface u v) → Value.okWide Tryd.prog W .any 0 u v) →
    (∀ x ∈ L, ∀ g t, Tryd.prog.globalNamed x.1 = some g → (Tryd.prog.globals[g]?).map (·.type) = some t → t = 30) →
    ∃ xs : List Addr, xs.length = L.length ∧ xs.Nodup ∧ (∀ a ∈ xs, MemPlace.cell a.block a.off ∈ ps ∧ ∃ c t, W.heap[a.block]? = some (.cells c t (0, 0))) ∧
      ∀ i (h : i < L.length) g, Tryd.prog.globalNamed (L[i]).1 = some g → W.cell? ⟨g, 0, none⟩ = some (.iface 97 (.pointer (some (xs.getD i ⟨0, 0, none⟩)))) := by
  intro L
  induction L with
  | nil => intro ps _ _ _ _; exact ⟨[], rfl, List.nodup_nil, (fun a h => by cases h), fun i h => absurd h (Nat.not_lt_zero _)⟩
  | cons x L ih =>
    intro ps hl hnd hrows hty
    obtain ⟨g0, t0, cs0, f0, p0, q0, hg0, ht0, hv0, hd0, hl', rfl⟩ := hl
    obtain rfl := hty x List.mem_cons_self g0 t0 hg0 ht0
    obtain ⟨l0⟩ := cs0
    have ok0 : ∀ u v, l0 = [.iface u v] → Value.okWide Tryd.prog W .any 0 u v := fun u v e => by
      subst e
      exact (hrows g0 0 (by simp [MemPlace.row])).2 u v (by simpa using World.var?_cell hg0 hv0 0)
    obtain ⟨a, s, rfl, _, _, _, rfl⟩ := errorString_of_trod Tryd.underlying30 errRow Tryd.underlying97 Tryd.underlying115 rfl rfl Tryd.underlying9 cellsErr cellsStr hd0 ok0
    have hnd1 := List.nodup_append.1 hnd
    obtain ⟨xs, h1, h2, h3, h4⟩ := ih q0 hl' hnd1.2.1 (fun b off hb => hrows b off (List.mem_append_right _ hb)) (fun y hy => hty y (List.mem_cons_of_mem _ hy))
    have hmem : MemPlace.cell a.block a.off ∈ MemPlace.row ⟨g0, 0, none⟩ (#[Value.iface 97 (.pointer (some a))] : Array Value).size ++ MemPlace.row a 1 := by simp [MemPlace.row]
    refine ⟨a :: xs, by simp [h1], List.nodup_cons.2 ⟨fun hin => ?_, h2⟩, fun b hb => ?_, fun i hi g hg => ?_⟩
    · exact (hnd1.2.2 _ hmem _ (h3 a hin).1) rfl
    · rcases List.mem_cons.1 hb with rfl | hb
      · exact ⟨List.mem_append_left _ hmem, (hrows _ _ (List.mem_append_left _ hmem)).1⟩
      · exact ⟨List.mem_append_right _ (h3 b hb).1, (h3 b hb).2⟩
    · cases i with
      | zero =>
        have e : g = g0 := Option.some.inj (hg.symm.trans hg0)
        subst e
        simpa using World.var?_cell hg0 hv0 0
      | succ i => exact h4 i (by simpa using hi) g hg
/-- The text of a listed refusal. -/
def sentText : DataW Unit → List UInt8
  | .iface _ (.ptr (.agg [.lit (.string s)])) => s
  | _ => []
def sentList : List (String × List UInt8) := [("caesura/api.ErrArg", sentText Rows.laid_caesura_api_ErrArg), ("caesura/api.ErrText", sentText Rows.laid_caesura_api_ErrText), ("caesura/api.ErrMany", sentText Rows.laid_caesura_api_ErrMany), ("caesura/api.ErrShort", sentText Rows.laid_caesura_api_ErrShort), ("caesura/api.ErrTwice", sentText Rows.laid_caesura_api_ErrTwice), ("caesura/api.ErrLost", sentText Rows.laid_caesura_api_ErrLost), ("caesura/api.ErrOrder", sentText Rows.laid_caesura_api_ErrOrder), ("caesura/api.ErrCycle", sentText Rows.laid_caesura_api_ErrCycle), ("caesura/api.ErrSum", sentText Rows.laid_caesura_api_ErrSum), ("caesura/api.ErrForm", sentText Rows.laid_caesura_api_ErrForm), ("caesura/api.ErrEnd", sentText Rows.laid_caesura_api_ErrEnd)]
theorem sentTypes : ∀ x ∈ sentList, ∀ g t, Tryd.prog.globalNamed x.1 = some g → (Tryd.prog.globals[g]?).map (·.type) = some t → t = 30 := by
  have h : (sentList.all fun x => match Tryd.prog.globalNamed x.1 with | some g => (Tryd.prog.globals[g]?).map (·.type) == some 30 | none => true) = true := by kernel_rfl
  intro x hx g t hg ht
  have := List.all_eq_true.1 h x hx
  rw [hg] at this
  simp only [ht] at this
  simpa using this
theorem g_ErrArg : Tryd.prog.globalNamed "caesura/api.ErrArg" = some 0 := by kernel_rfl
theorem g_ErrText : Tryd.prog.globalNamed "caesura/api.ErrText" = some 1 := by kernel_rfl
theorem g_ErrMany : Tryd.prog.globalNamed "caesura/api.ErrMany" = some 2 := by kernel_rfl
theorem g_ErrShort : Tryd.prog.globalNamed "caesura/api.ErrShort" = some 3 := by kernel_rfl
theorem g_ErrTwice : Tryd.prog.globalNamed "caesura/api.ErrTwice" = some 4 := by kernel_rfl
theorem g_ErrLost : Tryd.prog.globalNamed "caesura/api.ErrLost" = some 6 := by kernel_rfl
theorem g_ErrOrder : Tryd.prog.globalNamed "caesura/api.ErrOrder" = some 5 := by kernel_rfl
theorem g_ErrCycle : Tryd.prog.globalNamed "caesura/api.ErrCycle" = some 7 := by kernel_rfl
theorem g_ErrSum : Tryd.prog.globalNamed "caesura/api.ErrSum" = some 8 := by kernel_rfl
theorem g_ErrForm : Tryd.prog.globalNamed "caesura/api.ErrForm" = some 9 := by kernel_rfl
theorem g_ErrEnd : Tryd.prog.globalNamed "caesura/api.ErrEnd" = some 10 := by kernel_rfl
theorem sents_of {W : World} {rest : List (String × DataW Unit)} (h : laidMet Tryd.prog (sentList.map sentRow ++ rest) W) : ∃ A, Sents W A := by
  obtain ⟨ps, hl, hnd, hrows⟩ := h
  obtain ⟨xs, h1, h2, h3, h4⟩ := sents_list rest sentList ps hl hnd hrows sentTypes
  have h11 : xs.length = 11 := h1
  refine ⟨fun i => xs.getD i ⟨0, 0, none⟩, h4 0 (by decide) _ g_ErrArg, h4 1 (by decide) _ g_ErrText, h4 2 (by decide) _ g_ErrMany, h4 3 (by decide) _ g_ErrShort, h4 4 (by decide) _ g_ErrTwice, h4 5 (by decide) _ g_ErrLost, h4 6 (by decide) _ g_ErrOrder, h4 7 (by decide) _ g_ErrCycle, h4 8 (by decide) _ g_ErrSum, h4 9 (by decide) _ g_ErrForm, h4 10 (by decide) _ g_ErrEnd, fun i j hi hj hij e => ?_, fun i hi => ?_⟩
  · have hi' : i < xs.length := by omega
    have hj' : j < xs.length := by omega
    simp only [List.getD_eq_getElem?_getD, List.getElem?_eq_getElem hi', List.getElem?_eq_getElem hj', Option.getD_some] at e
    exact hij ((List.getElem_inj h2).1 e)
  · have hi' : i < xs.length := by omega
    simp only [List.getD_eq_getElem?_getD, List.getElem?_eq_getElem hi', Option.getD_some]
    exact (h3 _ (List.getElem_mem hi')).2
end Go.Proofs.YthoogkpiacopiaaDoor
namespace Go.Proofs.YthoogkpiacopiaaDoor
open Go.ChangeShapes Go.WideShapes Go.ChangeAt Go.RowKit Go.Joins
theorem cellsInt : Tryd.prog.cellsOf 3 = 1 := by kernel_rfl
theorem cellsInts : Tryd.prog.cellsOf 25 = 1 := by kernel_rfl
theorem cellsRows : Tryd.prog.cellsOf 22 = 1 := by kernel_rfl
theorem cellsMach : Tryd.prog.cellsOf 24 = 3 := by kernel_rfl
theorem cellsCase : Tryd.prog.cellsOf 27 = 8 := by kernel_rfl
theorem bulk_lits {H : Type} (zs : List Int) : zs.length ≤ Rows.uptoBulkAll (H := H) (lits .i64 zs) := by
  induction zs with
  | nil => simp [lits]
  | cons z zs ih =>
    have e : (lits (H := H) .i64 (z :: zs)) = .lit (.int .i64 z) :: lits .i64 zs := rfl
    rw [e, Rows.uptoBulkAll, List.length_cons]
    have h1 : 1 ≤ Rows.uptoBulk (H := H) (.lit (.int .i64 z)) := by simp [Rows.uptoBulk]
    omega
theorem lt_of_cell {W : World} {b o : Nat} {u : Value} (h : W.cell? ⟨b, o, none⟩ = some u) : b < W.heap.size := World.block_lt_of_cell? W _ h
theorem bulk_map {H : Type} (D : Nat → DataW H) (l : List Nat) (h : ∀ i ∈ l, 1 ≤ Rows.uptoBulk (D i)) : l.length ≤ Rows.uptoBulkAll (l.map D) ∧ ∀ i ∈ l, Rows.uptoBulk (D i) ≤ Rows.uptoBulkAll (l.map D) := by
  induction l with
  | nil => simp
  | cons x r ih =>
    rw [List.map_cons, Rows.uptoBulkAll, List.length_cons]
    have h1 := h x (.head _)
    have h2 := ih (fun i hi => h i (.tail _ hi))
    refine ⟨by omega, fun i hi => ?_⟩
    rcases List.mem_cons.1 hi with rfl | hi
    · omega
    · have := h2.2 i hi; omega
theorem no_spot {W : World} {a : Addr} {u : Value} (h : W.cell? (a.add 0) = some u) : a.spot = none := by
  obtain ⟨b, off, spot⟩ := a
  cases spot with
  | none => rfl
  | some sp =>
    exfalso
    rw [show (⟨b, off, some sp⟩ : Addr).add 0 = ⟨b, off, some sp⟩ from rfl] at h
    unfold World.cell? at h
    split at h <;> simp at h
/-- Numbers that are read. -/
theorem open_points {H : Type} {enc : TypeId × Value → H} {W : World} {n : Nat} {c : Value} {x : DataW H × List MemPlace} (hf : DataW.trod enc Tryd.prog W 0 (fun _ => true) true n 25 [c] = some x) :
    ∃ (a : Option Addr) (ps : List Int) (cap : Nat), c = .slice a ps.length cap ∧ IA W a ps ∧ ps.length ≤ Rows.uptoBulk x.1 ∧ (a = none → cap = 0) := by
  rcases open_ints Tryd.underlying25 Tryd.underlying3 cellsInt hf with ⟨h1, h2⟩ | ⟨a, len, cap, zs, h1, h2, h3, h4, h5, h6, h7, h8⟩
  · simp only [List.cons.injEq, and_true] at h1
    exact ⟨none, [], 0, h1, ⟨fun k h => absurd h (Nat.not_lt_zero _)⟩, by simp, fun _ => rfl⟩
  · simp only [List.cons.injEq, and_true] at h1
    simp only [if_true] at h5
    have hl : (zs.take len).length = len := by rw [List.length_take]; omega
    have hb := bulk_lits (H := H) (zs.take len)
    refine ⟨some a, zs.take len, cap, by rw [hl]; exact h1, ⟨fun k hk' => ?_⟩, ?_, fun e => by cases e⟩
    · rw [hl] at hk'
      have h9 := h7 k (by omega)
      have hs := no_spot (h7 0 (by omega))
      obtain ⟨b, off, spot⟩ := a
      simp only at hs
      subst hs
      rw [Addr.add_lit] at h9
      refine ⟨b, off, rfl, lt_of_cell h9, ?_⟩
      rw [h9]
      congr 2
      rw [List.getElem_take, List.getD_eq_getElem?_getD, List.getElem?_eq_getElem (by omega)]
      rfl
    · rw [h6]
      simp only [Rows.uptoBulk]
      omega
/-- Lists of numbers that are read. -/
theorem open_rowsI {H : Type} {enc : TypeId × Value → H} {W : World} {n : Nat} {c : Value} {x : DataW H × List MemPlace} (hf : DataW.trod enc Tryd.prog W 0 (fun _ => true) true n 22 [c] = some x) :
    ∃ (a : Option Addr) (L : List (List Int)) (cap : Nat), c = .slice a L.length cap ∧ RwN W a L ∧ L.length ≤ Rows.uptoBulk x.1 ∧ ∀ r ∈ L, r.length ≤ Rows.uptoBulk x.1 := by
  rcases Deep.open_int_rows Tryd.underlying22 Tryd.underlying25 Tryd.underlying3 cellsInts cellsInt hf with ⟨h1, h2⟩ | ⟨a, len, cap, A, Ln, C, Z, h1, _, h3, _, h5, h6⟩
  · simp only [List.cons.injEq, and_true] at h1
    exact ⟨none, [], 0, h1, ⟨fun k h => absurd h (Nat.not_lt_zero _)⟩, by simp, fun r hr => by cases hr⟩
  · simp only [List.cons.injEq, and_true] at h1
    have hrl : ∀ r, r < len → ((Z r).take (Ln r)).length = Ln r := fun r hr => by
      obtain ⟨_, q1, _, q2, _⟩ := h6 r (by omega)
      rw [List.length_take]
      omega
    have hbk : ∀ r, r < len → Ln r + 1 ≤ Rows.uptoBulk (Deep.intRow (H := H) .i64 (A r) (Ln r) (Z r)) := fun r hr => by
      obtain ⟨_, q1, _, q2, _, q3, _⟩ := h6 r (by omega)
      have hz := hrl r hr
      cases e : A r with
      | none =>
        have := q3 e
        simp only [Deep.intRow, Rows.uptoBulk]
        omega
      | some a' =>
        have hb := bulk_lits (H := H) ((Z r).take (Ln r))
        simp only [Deep.intRow, Rows.uptoBulk]
        omega
    obtain ⟨k1, k2⟩ := bulk_map (H := H) (fun r => Deep.intRow .i64 (A r) (Ln r) (Z r)) (List.range len) (fun i hi => by have := hbk i (List.mem_range.1 hi); omega)
    rw [List.length_range] at k1
    refine ⟨some a, (List.range len).map fun r => (Z r).take (Ln r), cap, by simpa using h1, ⟨fun k hk => ?_⟩, ?_, fun r hr => ?_⟩
    · have hk' : k < len := by simpa using hk
      have hs := no_spot (h6 0 (by omega)).1
      obtain ⟨q0, q1, q2, q3, q4, q5, q6⟩ := h6 k (by omega)
      have hz := hrl k hk'
      obtain ⟨b, off, spot⟩ := a
      simp only at hs
      subst hs
      rw [Addr.add_lit] at q0
      have eg : ((List.range len).map fun r => (Z r).take (Ln r))[k] = (Z k).take (Ln k) := by simp
      refine ⟨b, off, rfl, lt_of_cell q0, A k, C k, ?_, ⟨fun j hj => ?_⟩, q5⟩
      · rw [eg, hz]; exact q0
      · have hj' : j < Ln k := by rw [eg, hz] at hj; exact hj
        cases e : A k with
        | none => have := q5 e; omega
        | some a' =>
          obtain ⟨_, q7⟩ := q6 a' e
          have hs := no_spot (q7 0 (by omega))
          have h9 := q7 j (by omega)
          obtain ⟨b', off', spot'⟩ := a'
          simp only at hs
          subst hs
          rw [Addr.add_lit] at h9
          refine ⟨b', off', rfl, lt_of_cell h9, ?_⟩
          rw [h9]
          congr 2
          simp only [eg]
          rw [List.getElem_take, List.getD_eq_getElem?_getD, List.getElem?_eq_getElem (by omega)]
          rfl
    · rw [List.length_map, List.length_range, h5]
      simp only [Rows.uptoBulk]
      omega
    · obtain ⟨i, hi, rfl⟩ := List.mem_map.1 hr
      have hi' := List.mem_range.1 hi
      have h7 := k2 i hi
      have h8 := hbk i hi'
      rw [hrl i hi', h5]
      simp only [Rows.uptoBulk]
      omega
/-- A machine that is read. -/
theorem open_mach {H : Type} {enc : TypeId × Value → H} {W : World} {n : Nat} {c0 c1 c2 : Value} {x : DataW H × List MemPlace} (g0 : DataW.trod enc Tryd.prog W 0 (fun _ => true) true n 24 [c0, c1, c2] = some x) :
    ∃ (st : Int) (N O : List (List Int)) (aN aO : Option Addr) (cN cO : Nat), c0 = .int .i64 st ∧ c1 = .slice aN N.length cN ∧ c2 = .slice aO O.length cO ∧ RwN W aN N ∧ RwN W aO O ∧ N.length + O.length ≤ Rows.uptoBulk x.1 ∧ (∀ r ∈ N, r.length ≤ Rows.uptoBulk x.1) ∧ ∀ r ∈ O, r.length ≤ Rows.uptoBulk x.1 := by
  obtain ⟨zs, n2, _, hx2, _, hzl, hgs⟩ := DataW.trod_struct Tryd.underlying24 g0
  obtain ⟨z0, z1, z2, rfl⟩ : ∃ z0 z1 z2, zs = [z0, z1, z2] := by
    match zs, hzl with
    | [z0, z1, z2], _ => exact ⟨z0, z1, z2, rfl⟩
  have e0 := hgs 0 _ rfl
  have e1 := hgs 1 _ rfl
  have e2 := hgs 2 _ rfl
  have k0 : DataW.trod enc Tryd.prog W 0 (fun _ => true) true n2 3 [c0] = some z0 := by simpa [cellsInt] using e0
  have k1 : DataW.trod enc Tryd.prog W 0 (fun _ => true) true n2 22 [c1] = some z1 := by simpa [cellsInt, cellsRows] using e1
  have k2 : DataW.trod enc Tryd.prog W 0 (fun _ => true) true n2 22 [c2] = some z2 := by simpa [cellsInt, cellsRows] using e2
  obtain ⟨st, q0, _, _⟩ := DataW.trod_int Tryd.underlying3 k0
  simp only [List.cons.injEq, and_true] at q0
  obtain ⟨aN, N, cN, r1, rN, bN, rbN⟩ := open_rowsI k1
  obtain ⟨aO, O, cO, r2, rO, bO, rbO⟩ := open_rowsI k2
  have hd0 : Rows.uptoBulk x.1 = Rows.uptoBulk z0.1 + Rows.uptoBulk z1.1 + Rows.uptoBulk z2.1 + 1 := by
    have := congrArg Prod.fst hx2
    simp only at this
    rw [this]
    simp [Rows.uptoBulk, Rows.uptoBulkAll]
    omega
  exact ⟨st, N, O, aN, aO, cN, cO, q0, r1, r2, rN, rO, by omega, fun r hr => by have := rbN r hr; omega, fun r hr => by have := rbO r hr; omega⟩
/-- What is asked, read. -/
theorem open_case {H : Type} {enc : TypeId × Value → H} {W : World} {base : Nat} {v : Value} {d : DataW H} {p : List MemPlace} (hv : Value.okWide Tryd.prog W .any base 27 v)
    (h0 : DataW.Trod enc Tryd.prog W 0 (fun _ => true) true 27 v d p) :
    ∃ (sa sb sy : Int) (N O N' O' : List (List Int)) (aN aO aM aP aW : Option Addr) (cN cO cM cP nW cW : Nat), v = .agg #[.int .i64 sa, .slice aN N.length cN, .slice aO O.length cO, .int .i64 sb, .slice aM N'.length cM, .slice aP O'.length cP, .int .i64 sy, .slice aW nW cW] ∧ RwN W aN N ∧ RwN W aO O ∧ RwN W aM N' ∧ RwN W aP O' ∧
      N.length + O.length + N'.length + O'.length ≤ Rows.uptoBulk d ∧ (∀ r ∈ N, r.length ≤ Rows.uptoBulk d) ∧ (∀ r ∈ O, r.length ≤ Rows.uptoBulk d) ∧ (∀ r ∈ N', r.length ≤ Rows.uptoBulk d) ∧ (∀ r ∈ O', r.length ≤ Rows.uptoBulk d) := by
  obtain ⟨fuel, hf⟩ := h0
  have hcs : ∃ cs, v = .agg cs := by
    simp only [Value.okWide, Tryd.underlying27] at hv
    obtain ⟨cs, h1, _⟩ := hv
    exact ⟨cs, h1⟩
  obtain ⟨cs, rfl⟩ := hcs
  obtain ⟨xs, n, _, hx, hlen, hxl, hfs⟩ := DataW.trod_struct Tryd.underlying27 hf
  rw [cellsCase] at hlen
  obtain ⟨l⟩ := cs
  match l, hlen with
  | [c0, c1, c2, c3, c4, c5, c6, c7], _ =>
    obtain ⟨y0, y1, y2, y3, rfl⟩ : ∃ y0 y1 y2 y3, xs = [y0, y1, y2, y3] := by
      match xs, hxl with
      | [y0, y1, y2, y3], _ => exact ⟨y0, y1, y2, y3, rfl⟩
    have f0 := hfs 0 _ rfl
    have f1 := hfs 1 _ rfl
    have f2 := hfs 2 _ rfl
    have f3 := hfs 3 _ rfl
    have g0 : DataW.trod enc Tryd.prog W 0 (fun _ => true) true n 24 [c0, c1, c2] = some y0 := by simpa [Value.cells, cellsMach] using f0
    have g1 : DataW.trod enc Tryd.prog W 0 (fun _ => true) true n 24 [c3, c4, c5] = some y1 := by simpa [Value.cells, cellsMach] using f1
    have g2 : DataW.trod enc Tryd.prog W 0 (fun _ => true) true n 3 [c6] = some y2 := by simpa [Value.cells, cellsMach, cellsInt] using f2
    have g3 : DataW.trod enc Tryd.prog W 0 (fun _ => true) true n 25 [c7] = some y3 := by simpa [Value.cells, cellsMach, cellsInt, cellsInts] using f3
    obtain ⟨sa, N, O, aN, aO, cN, cO, rfl, rfl, rfl, rN, rO, b1, b2, b3⟩ := open_mach g0
    obtain ⟨sb, N', O', aM, aP, cM, cP, rfl, rfl, rfl, rM, rP, b4, b5, b6⟩ := open_mach g1
    obtain ⟨sy, q1, _, _⟩ := DataW.trod_int Tryd.underlying3 g2
    simp only [List.cons.injEq, and_true] at q1
    subst q1
    obtain ⟨aW, lW, cW, rfl, _⟩ := open_points g3
    have hd : Rows.uptoBulk d = Rows.uptoBulk y0.1 + Rows.uptoBulk y1.1 + Rows.uptoBulk y2.1 + Rows.uptoBulk y3.1 + 1 := by
      have := congrArg Prod.fst hx
      simp only at this
      rw [this]
      simp [Rows.uptoBulk, Rows.uptoBulkAll]
      omega
    exact ⟨sa, sb, sy, N, O, N', O', aN, aO, aM, aP, aW, cN, cO, cM, cP, lW.length, cW, rfl, rN, rO, rM, rP, by omega, fun r hr => by have := b2 r hr; omega, fun r hr => by have := b3 r hr; omega, fun r hr => by have := b5 r hr; omega, fun r hr => by have := b6 r hr; omega⟩
theorem prod_small {a b : Nat} (h : a + b ≤ 1048576) : a * b ≤ 1000000000000 := by
  rcases Nat.le_total a 524288 with h1 | h1
  · have := Nat.mul_le_mul h1 (show b ≤ 1048576 by omega)
    omega
  · have := Nat.mul_le_mul (show a ≤ 1048576 by omega) (show b ≤ 524288 by omega)
    omega
set_option maxRecDepth 100000 in
theorem minimalApart_walk {H : Type} (enc : TypeId × Value → H) (W : World) (base : Nat) (hL : laidMetH Tryd.prog Rows.minimalApartUptoRow.laid W) (v : Value) (d : DataW H) (p : List MemPlace) (hv : Value.okWide Tryd.prog W .any base 27 v)
    (h0 : DataW.Trod enc Tryd.prog W 0 (fun _ => true) true 27 v d p) (_hlt : ∀ x ∈ p, x.block < W.heap.size) (_hw : ∀ x ∈ d.weights Tryd.prog 27, x ≤ reachBytes) (hk : Rows.uptoSmall H ([d] ++ []) = true) :
    Calls Tryd.prog 3 #[v] W fun e W' => e = .returned (.bool true) ∧ Below W.heap.size W W' := by
  obtain ⟨sa, sb, sy, N, O, N', O', aN, aO, aM, aP, aW, cN, cO, cM, cP, nW, cW, rfl, rN, rO, rM, rP, b1, b2, b3, b4, b5⟩ := open_case hv h0
  obtain ⟨A, hA⟩ := sents_of (rest := []) hL
  have hs := of_decide_eq_true hk
  simp only [List.append_nil, Rows.uptoBulkAll] at hs
  have small : ∀ (L : List (List Int)), (∀ r ∈ L, r.length ≤ Rows.uptoBulk d) → ∀ k ∈ L.map List.length, k ≤ 2000000 := fun L h k hk => by
    obtain ⟨r, hr, rfl⟩ := List.mem_map.1 hk
    have := h r hr
    omega
  exact minimalApart_any A sa sb sy N O N' O' aN aO aM aP aW cN cO cM cP nW cW W ⟨by rw [List.length_map]; omega, by rw [List.length_map]; omega, small N b2, small O b3⟩ ⟨by rw [List.length_map]; omega, by rw [List.length_map]; omega, small N' b4, small O' b5⟩ (prod_small (by omega)) rN rO rM rP hA
set_option maxRecDepth 100000 in
theorem minimalApart_lifted (os : Os) (started : os.Started) (H : Type) (enc : TypeId × Value → H) (F : Stop.Interp) :
    ReturnsInHanded {} Tryd.checked os 3 .any ((Rows.OpenSpec.upto Rows.minimalApartSpec).preRow enc Tryd.prog Tryd.f3 Rows.minimalApartUptoRow.domain false Rows.minimalApartUptoRow.laid) (((Rows.OpenSpec.upto Rows.minimalApartSpec).at F).post enc Tryd.prog Tryd.f3 false true false false) := by
  refine returnsInHanded_of_row (C := Tryd.checked) (s := Rows.OpenSpec.upto Rows.minimalApartSpec) own started (by kernel_rfl) Tryd.func3
    (witness_row_shaped (enc := enc) (C := Tryd.checked) (World.laidAll Tryd.prog os Rows.minimalApartUptoRow.laid) #[.agg #[.int .i64 0, .slice none 0 0, .slice none 0 0, .int .i64 0, .slice none 0 0, .slice none 0 0, .int .i64 0, .slice none 0 0]] (World.laidAll_os _ _ _) (World.shaped_of_ZipB (by kernel_rfl) (by kernel_rfl)) (by kernel_rfl)
      (OpenSpec.preRow_of_cond 8 (x := ([.agg [.agg [.lit (.int .i64 0), .nil, .nil], .agg [.lit (.int .i64 0), .nil, .nil], .lit (.int .i64 0), .nil]], [], [])) (by kernel_rfl) (by kernel_rfl) (fun k hk => by cases hk; kernel_rfl) (by kernel_rfl) (laidMet_laidAll _ (by kernel_rfl) (by kernel_rfl)))) ?_
  intro W base args ds gs before hval hW _ hcond hsz hL _ _
  exact law_contract rfl rfl rfl (fun _ _ => rfl) (by kernel_rfl) (of_decide_eq_true (by kernel_rfl)) W base args ds gs before hval hW hsz (fun v d p hv h0 hlt hw e1 e2 => minimalApart_walk enc W base hL v d p hv h0 hlt hw (by have := hcond _ rfl; rw [e1, e2] at this; exact this))
theorem minimalApart_said : Rows.MinimalApartUptoSaid :=
  OpenClaim.holds_of_cond 3 Tryd.f3 rfl rfl rfl rfl rfl rfl rfl ⟨rfl, rfl, rfl, rfl, rfl⟩ rfl rfl rfl rfl rfl (by kernel_rfl) Tryd.func3 (by kernel_rfl)
    (of_decide_eq_true (by kernel_rfl)) (by unfold Func.isWrapper; first | (rw [if_pos (by decide +kernel)]; kernel_rfl) | (rw [if_neg (by decide +kernel)]; exact ⟨rfl, rfl⟩))
    (fun os started H enc _ F => by rw [OpenClaim.pre_eq_preRow]; exact minimalApart_lifted os started H enc F)
theorem minimalApart_plain (f : FuncId) (fn : Func) (hf : Tryd.pinned.checked.prog.funcNamed "caesura/caesuralaw13.MinimalApart" = some f) (hfn : Tryd.pinned.checked.prog.funcs[f]? = some fn) :
    true = Tryd.pinned.checked.prog.looks [] ∧ ∀ (j : Nat) t, fn.params[j]? = some t → Tryd.pinned.checked.prog.wantsStandIn t = false := by
  obtain rfl : f = 3 := Option.some.inj ((show Tryd.prog.funcNamed "caesura/caesuralaw13.MinimalApart" = some 3 by kernel_rfl).symm.trans hf) |>.symm
  obtain rfl : fn = Tryd.f3 := (Option.some.inj (Tryd.func3.symm.trans hfn)).symm
  refine ⟨by kernel_rfl, fun j t ht => ?_⟩
  rw [Tryd.params3] at ht
  obtain rfl : t = 27 := by simpa using Array.mem_of_getElem? ht
  exact (show Tryd.prog.wantsStandIn 27 = false by kernel_rfl)
theorem minimalApart_card : Rows.MinimalApartUptoCardSaid :=
  Claim7.holds_tied_plain_at .later [] _ _ _ _ minimalApart_said (fun _ h => by cases h) (by kernel_rfl) (fun _ h => by cases h) minimalApartUpto_row_tie rfl ⟨rfl, rfl⟩ (by kernel_rfl) rfl minimalApart_plain (by kernel_rfl)
end Go.Proofs.YthoogkpiacopiaaDoor
