/-
  The walk of caesuralaw23.TestPrints.
-/
import Derived.Test.YtooeagpopncmgaaDoorTfUW
import Derived.Test.YtooeagpopncmgaaDoorTfQW
import Derived.Test.YtooeagpopncmgaaDoorTfSW
namespace Go.Proofs.YtooeagpopncmgaaDoor
open Go.RowKit Go.Shelf
set_option maxRecDepth 10000 in
set_option maxHeartbeats 3200000 in
theorem testPrints_any (C : List Cs) (a : Option Addr) (cap : Nat) (A : Nat → Addr) (w : World) (hl : C.length ≤ 1000000000) (hP : ∀ x ∈ C, x.1.length ≤ 1000000000 ∧ x.2.length ≤ 1000000000) (hC : CsA w a C) (hT : TabAt 17 Lib.deBruijn64tab w) (hS : Sents w A) :
    Calls Tryd.prog 3 #[.slice a C.length cap] w fun e w' => e = .returned (.bool true) ∧ Below w.heap.size w w' := by
  have HTm := hid0 (tameF_any C a cap w hl hP hC)
  obtain ⟨n, hn⟩ : ∃ n, n = C.length := ⟨_, rfl⟩
  have HN := hid0 hn
  cases htm : tmF C with
  | false =>
    rw [htm, ← hn] at HTm
    rw [← hn]
    clear hC hT hS hP hl hn htm
    go_enter Tryd.func3, Tryd.ntmps3
    go_wp2_with (go_at_call 4; go_loud ((refine HTm.out.mono ?_; rintro e w1 ⟨rfl, q1, rfl⟩)))
    go_ret
    exact ⟨rfl, below_drew' (Below.refl _ _) _⟩
  | true =>
    have hb := tmF_bound htm
    have hbP : ∀ x ∈ C, x.1.length ≤ 20000000 ∧ x.2.length ≤ 1000000000 := fun x hx => by have := hb x hx; omega
    have HEnv : Hid (∀ V, Below w.heap.size w V → TabAt 17 Lib.deBruijn64tab V ∧ Sents V A) := hid0 (fun V hV => ⟨fun i hi => (hV.cell (p := ⟨17, i, none⟩) (World.block_lt_of_cell? w _ (hT i hi))).trans (hT i hi), hS.below hV⟩)
    have HOwn : Hid (∀ V, Below w.heap.size w V → Calls Tryd.prog 5 #[.slice a n cap] V fun e w' => ∃ G c, e = .returned (.slice (some ⟨G, 0, none⟩) n c) ∧ Hid (CK w' V.heap.size G c C ∧ Below V.heap.size V w' ∧ V.heap.size ≤ G)) := hid0 (fun V hV => by
      have h := own_any C a cap V hl hbP (hC.past hV)
      rw [← hn] at h
      exact h)
    have HPr : Hid (∀ (D : List Cs), D.length = n → (∀ x ∈ D, x.1.length ≤ 20000000 ∧ x.2.length ≤ 1000000000) → ∀ (V : World) (b : Option Addr) (c : Nat), Below w.heap.size w V → CsA V b D → Calls Tryd.prog 6 #[.slice b n c] V fun e w' => e = .returned (.tuple #[.string ⟨(sayT D).toArray⟩, errV A (sayN D)]) ∧ Hid (Below V.heap.size V w')) := hid0 (fun D hD hDb V b c hV hDC => by
      have h := print_any D b c A V (by rw [hD]; omega) hDb hDC (HEnv.out V hV).1 (HEnv.out V hV).2
      rw [hD] at h
      exact h)
    have HRp : Hid (∀ (D : List Cs), D.length = n → (∀ x ∈ D, x.1.length ≤ 20000000 ∧ x.2.length ≤ 1000000000) → ∀ (V : World) (b : Option Addr) (c : Nat), CsA V b D → Calls Tryd.prog 8 #[.slice b n c] V fun e w' => e = .returned (.tuple #[.string ⟨(sayT D).toArray⟩, .int .i64 (sayN D : Int)]) ∧ Hid (Below V.heap.size V w')) := hid0 (fun D hD hDb V b c hDC => by
      have h := refPrint_any D b c V (by rw [hD]; omega) hDb hDC
      rw [hD] at h
      exact h)
    have HNu : Hid (∀ (D : List Cs) (V : World), Below w.heap.size w V → Calls Tryd.prog 9 #[errV A (sayN D)] V fun e w' => e = .returned (.int .i64 (sayN D : Int)) ∧ w' = V) := hid0 (fun D V hV => num_say A D V (HEnv.out V hV).2)
    have HKp : Hid (∀ (V : World) (lo G c : Nat), Below w.heap.size w V → CK V lo G c C → Calls Tryd.prog 7 #[.slice (some ⟨G, 0, none⟩) n c, .slice a n cap] V fun e w' => e = .returned (.bool true) ∧ Hid (Below V.heap.size V w')) := hid0 (fun V lo G c hV hK => by
      have h := kept_any C lo G c a cap V hl hP hK (hC.past hV)
      rw [← hn] at h
      exact h)
    have HOt : Hid (∀ (V : World) (lo G c : Nat), YC V lo G C → Calls Tryd.prog 10 #[.slice (some ⟨G, 0, none⟩) n c] V fun e w' => (∃ v, e = .returned v) ∧ Hid (YC w' lo G C ∧ Below lo V w')) := hid0 (fun V lo G c hY => by
      have h := other_any C lo G c V hl hP hY
      rw [← hn] at h
      exact h)
    have HC := hid0 hC
    have HbP := hid0 hbP
    have HRd : Hid (∀ (V : World) (lo G : Nat), YC V lo G C → ∃ D : List Cs, D.length = n ∧ (∀ x ∈ D, x.1.length ≤ 20000000 ∧ x.2.length ≤ 1000000000) ∧ CsA V (some ⟨G, 0, none⟩) D) := hid0 (fun V lo G hY => by
      obtain ⟨D, h1, h2, h3⟩ := hY.read
      refine ⟨D, by rw [h1, hn], fun x hx => ?_, h3⟩
      obtain ⟨i, hi, rfl⟩ := List.getElem_of_mem hx
      have hi2 : i < C.length := by omega
      obtain ⟨e1, e2⟩ := h2 i hi hi2
      rw [e1, e2]
      exact hbP _ (List.getElem_mem hi2))
    obtain ⟨T1, hT1⟩ : ∃ T1, T1 = (⟨(sayT C).toArray⟩ : ByteArray) := ⟨_, rfl⟩
    obtain ⟨e1, he1⟩ : ∃ e1, e1 = errV A (sayN C) := ⟨_, rfl⟩
    obtain ⟨z1, hz1⟩ : ∃ z1, z1 = (sayN C : Int) := ⟨_, rfl⟩
    have HPr1 : Hid (∀ (V : World) (b : Option Addr) (c : Nat), Below w.heap.size w V → CsA V b C → Calls Tryd.prog 6 #[.slice b n c] V fun e w' => e = .returned (.tuple #[.string T1, e1]) ∧ Hid (Below V.heap.size V w')) := hid0 (fun V b c hV h => by rw [hT1, he1]; exact HPr.out C hn.symm hbP V b c hV h)
    have HRp1 : Hid (∀ (V : World), Below w.heap.size w V → Calls Tryd.prog 8 #[.slice a n cap] V fun e w' => e = .returned (.tuple #[.string T1, .int .i64 z1]) ∧ Hid (Below V.heap.size V w')) := hid0 (fun V hV => by rw [hT1, hz1]; exact HRp.out C hn.symm hbP V a cap (hC.past hV))
    have HNu1 : Hid (∀ (V : World), Below w.heap.size w V → Calls Tryd.prog 9 #[e1] V fun e w' => e = .returned (.int .i64 z1) ∧ w' = V) := hid0 (fun V hV => by rw [he1, hz1]; exact HNu.out C V hV)
    have hs2 : (z1 != z1) = false := by simp
    rw [htm, ← hn] at HTm
    rw [← hn]
    clear hC hT hS hP hl hn htm hb hbP hT1 he1 hz1 HC HbP HEnv
    go_enter Tryd.func3, Tryd.ntmps3
    go_wp2_with (first
      | (go_at_call 4; go_loud ((refine HTm.out.mono ?_; rintro e x1 ⟨rfl, q1, hx1⟩; have HB1 : Hid (Below w.heap.size w x1) := hid0 (by rw [hx1]; exact below_drew' (Below.refl _ _) _); clear hx1)))
      | (go_at_call 5; go_loud ((refine (HOwn.out x1 HB1.out).mono ?_; rintro e x2 ⟨G, c, rfl, hK⟩; have HK2 := hid0 hK.out.1; have HB2 := hid0 (HB1.out.trans (hK.out.2.1.mono HB1.out.size)); clear hK)))
      | (go_at_call 6; go_loud ((refine (HPr1.out x2 _ _ HB2.out HK2.out.csa).mono ?_; rintro e x3 ⟨rfl, h3⟩; have HK3 := hid0 (HK2.out.past h3.out); have HB3 := hid0 (HB2.out.trans (h3.out.mono HB2.out.size)); clear h3)))
      | (go_at_call 7; go_loud ((refine (HKp.out x3 _ _ _ HB3.out HK3.out).mono ?_; rintro e x4 ⟨rfl, h4⟩; have HK4 := hid0 (HK3.out.past h4.out); have HB4 := hid0 (HB3.out.trans (h4.out.mono HB3.out.size)); clear h4)))
      | (go_at_call 8; go_loud ((refine (HRp1.out x4 HB4.out).mono ?_; rintro e x5 ⟨rfl, h5⟩; have HK5 := hid0 (HK4.out.past h5.out); have HB5 := hid0 (HB4.out.trans (h5.out.mono HB4.out.size)); clear h5)))
      | (go_at_call 9; go_loud ((refine (HNu1.out x5 HB5.out).mono ?_; rintro e x6 ⟨rfl, hx6⟩; subst hx6)))
      | fail)
    refine (HOt.out _ _ _ _ HK5.out.yc).mono ?_
    rintro e x7 ⟨⟨v7, rfl⟩, hy7⟩
    obtain ⟨D, hD, hDb, hDC⟩ := HRd.out x7 _ _ hy7.out.1
    have hB7 := HB5.out.trans (hy7.out.2.mono HB1.out.size)
    obtain ⟨T2, hT2⟩ : ∃ T2, T2 = (⟨(sayT D).toArray⟩ : ByteArray) := ⟨_, rfl⟩
    obtain ⟨e2, he2⟩ : ∃ e2, e2 = errV A (sayN D) := ⟨_, rfl⟩
    obtain ⟨z2, hz2⟩ : ∃ z2, z2 = (sayN D : Int) := ⟨_, rfl⟩
    have HRp2 : Hid (Calls Tryd.prog 8 #[.slice (some ⟨G, 0, none⟩) n c] x7 fun e w' => e = .returned (.tuple #[.string T2, .int .i64 z2]) ∧ Hid (Below x7.heap.size x7 w')) := hid0 (by rw [hT2, hz2]; exact HRp.out D hD hDb x7 _ c hDC)
    have HPr2 : Hid (∀ V, Below x7.heap.size x7 V → Calls Tryd.prog 6 #[.slice (some ⟨G, 0, none⟩) n c] V fun e w' => e = .returned (.tuple #[.string T2, e2]) ∧ Hid (Below V.heap.size V w')) := hid0 (fun V hV => by rw [hT2, he2]; exact HPr.out D hD hDb V _ c (hB7.trans (hV.mono hB7.size)) (hDC.past hV))
    have HNu2 : Hid (∀ V, Below w.heap.size w V → Calls Tryd.prog 9 #[e2] V fun e w' => e = .returned (.int .i64 z2) ∧ w' = V) := hid0 (fun V hV => by rw [he2, hz2]; exact HNu.out D V hV)
    have HB7 := hid0 hB7
    have hs3 : (z2 == z2) = true := by simp
    clear hT2 he2 hz2 hD hDb hDC hB7 hy7 HTm HOwn HPr HRp HNu HKp HOt HRd HPr1 HRp1 HNu1 HK2 HK3 HK4 HK5
    go_wp2_with (first
      | (go_at_call 8; go_loud ((refine HRp2.out.mono ?_; rintro e x8 ⟨rfl, h8⟩; have HQ8 := hid0 h8.out; clear h8)))
      | (go_at_call 6; go_loud ((refine (HPr2.out x8 HQ8.out).mono ?_; rintro e x9 ⟨rfl, h9⟩; have HB9 := hid0 ((HB7.out.trans (HQ8.out.mono HB7.out.size)).trans (h9.out.mono (HB7.out.trans (HQ8.out.mono HB7.out.size)).size)); clear h9)))
      | (go_at_call 9; go_loud ((refine (HNu2.out x9 HB9.out).mono ?_; rintro e x10 ⟨rfl, hx10⟩; subst hx10)))
      | fail)
    go_ret
    exact ⟨rfl, HB9.out⟩
end Go.Proofs.YtooeagpopncmgaaDoor
