/-
  PlTdW, PlTfW, PlTeW, PlThW, PlLW, PlTkM.
-/
import Derived.Test.YtlkgghbdgjomkaaDoorMue
import Derived.Test.YtlkgghbdgjomkaaDoorMuc
import Derived.Test.YtlkgghbdgjomkaaDoorMub
import Derived.Test.YtlkgghbdgjomkaaDoorMua
namespace Go.Proofs.YtlkgghbdgjomkaaDoor
open Go.RowKit Go.Shelf
set_option maxRecDepth 10000 in
set_option maxHeartbeats 1600000 in
theorem tidy_any (aL aF aA aO : Option Addr) (cL cF cA cO : Nat) (Le Fo : List (List Int)) (Fi La : List Int) (em : Bool) (w : World) (hL : RwA w aL Le) (hF : IA w aF Fi) (hA : IA w aA La) (hO : RwA w aO Fo) (l1 : Le.length ≤ 17592186043904) (l2 : Fi.length ≤ 17592186043904) (l3 : La.length ≤ 17592186043904) (l4 : Fo.length ≤ 17592186043904) (r1 : ∀ r ∈ Le, r.length ≤ 17592186043904) (r4 : ∀ r ∈ Fo, r.length ≤ 17592186043904) (n : Nat) (hnn : n = min Le.length 8) :
    Calls Tryd.prog 5 #[posV aL aF aA aO cL cF cA cO Le Fo Fi La em] w fun r w' => RevB w ⟨tdL Le n, someL Fi n, someL La n, tdO Fo n n, em⟩ r w' := by
  unfold posV
  obtain ⟨wa, hwa⟩ : ∃ wa, wa = w.alloc (.cells #[.slice aL Le.length cL, .slice aF Fi.length cF, .slice aA La.length cA, .slice aO Fo.length cO, .bool em] 25) := ⟨_, rfl⟩
  obtain ⟨w0, hw0⟩ : ∃ w0, w0 = wa.alloc (.cells #[.slice none 0 0, .slice none 0 0, .slice none 0 0, .slice none 0 0, .bool false] 25) := ⟨_, rfl⟩
  have hsa : wa.heap.size = w.heap.size + 1 := by rw [hwa]; simp
  have hs0 : w0.heap.size = w.heap.size + 1 + 1 := by rw [hw0]; simp [hsa]
  have hBa : Below w.heap.size w wa := by rw [hwa]; exact (Below.refl _ _).alloc (Nat.le_refl _) _
  have hBb : Below wa.heap.size wa w0 := by rw [hw0]; exact (Below.refl _ _).alloc (Nat.le_refl _) _
  have hB0 : Below w.heap.size w w0 := Below.later hBa hBb
  have hXa : wa.heap[w.heap.size]? = some (.cells #[.slice aL Le.length cL, .slice aF Fi.length cF, .slice aA La.length cA, .slice aO Fo.length cO, .bool em] 25 (0, 0)) := by rw [hwa]; exact heap_alloc_new w _
  have hX0 : w0.heap[w.heap.size]? = some (.cells #[.slice aL Le.length cL, .slice aF Fi.length cF, .slice aA La.length cA, .slice aO Fo.length cO, .bool em] 25 (0, 0)) := (hBb.block _ (by omega)).trans hXa
  have hY0 : w0.heap[w.heap.size + 1]? = some (.cells #[.slice none 0 0, .slice none 0 0, .slice none 0 0, .slice none 0 0, .bool false] 25 (0, 0)) := by rw [hw0, ← hsa]; exact heap_alloc_new wa _
  have HS5 : Hid (∀ V, Below w0.heap.size w0 V → V.cell? ⟨w.heap.size, 0, none⟩ = some (.slice aL Le.length cL) ∧ V.cell? ⟨w.heap.size, 1, none⟩ = some (.slice aF Fi.length cF) ∧ V.cell? ⟨w.heap.size, 2, none⟩ = some (.slice aA La.length cA) ∧ V.cell? ⟨w.heap.size, 3, none⟩ = some (.slice aO Fo.length cO) ∧ V.cell? ⟨w.heap.size, 4, none⟩ = some (.bool em)) := hid0 (fun V hV => row5 ((hV.block _ (by omega)).trans hX0))
  obtain ⟨x0, x1, x2, x3, x4⟩ := row5 hX0
  have HY0 := hid0 hY0
  have HB0 := hid0 hB0
  have HL := hid0 hL
  have HF := hid0 hF
  have HA := hid0 hA
  have HO := hid0 hO
  have HR1 := hid0 r1
  have HR4 := hid0 r4
  have hn8 : n ≤ 8 := by omega
  have hnL : n ≤ Le.length := by omega
  have HZ0 := hid0 hs0
  have hfa := hwa.symm
  have hfold := hw0.symm
  have hmn : (if (8 : Int) < (Le.length : Int) then (8 : Int) else (Le.length : Int)) = (n : Int) := by split <;> omega
  have HZa : Hid (wa.heap.size = w.heap.size + 1 ∧ w0.heap.size = w.heap.size + 1 + 1) := hid0 ⟨hsa, hs0⟩
  have HYa : Hid (w0.heap[wa.heap.size]? = some (.cells #[.slice none 0 0, .slice none 0 0, .slice none 0 0, .slice none 0 0, .bool false] 25 (0, 0))) := hid0 (by rw [hsa]; exact hY0)
  clear hwa hw0 hsa hs0 hBa hBb hB0 hXa hX0 hY0 hL hF hA hO r1 r4 hnn
  go_enter Tryd.func5, Tryd.ntmps5
  go_upto_region 2 with fail

  rename_i K0 hK0
  suffices H : ∀ (X : Nat) (W : World) (bF bA : Option Addr) (dF dA : Nat), TdI w0 W X W.heap.size (.slice none 0 0) (.slice none 0 0) (.slice bF (someL Fi n).length dF) (.slice bA (someL La n).length dA) [] [] (someL Fi n) (someL La n) em → K0 { tmps := #[.agg #[.slice aL Le.length cL, .slice aF Fi.length cF, .slice aA La.length cA, .slice aO Fo.length cO, .bool em], .pointer (some ⟨w.heap.size, 0, none⟩), .pointer (some ⟨wa.heap.size, 0, none⟩), .int .i64 (n : Int), .pointer (some ⟨X, 0, none⟩), undef, undef, .pointer (some ⟨w.heap.size, 0, none⟩), .slice aL Le.length cL, .int .i64 (Le.length : Int), .int .i64 (n : Int), .pointer (some ⟨w.heap.size, 4, none⟩), .bool em, .pointer (some ⟨w.heap.size, 1, none⟩), .slice aF Fi.length cF, .int .i64 (n : Int), .slice bF (someL Fi n).length dF, .pointer (some ⟨w.heap.size, 2, none⟩), .slice aA La.length cA, .int .i64 (n : Int), .slice bA (someL La n).length dA, .agg #[.slice none 0 0, .slice bF (someL Fi n).length dF, .slice bA (someL La n).length dA, .slice none 0 0, .bool em], undef, undef, undef, undef, undef, undef, undef, undef, undef, undef, undef, undef, undef, undef, undef, undef, undef, undef, undef, undef, undef, undef, undef, undef, undef, undef, undef, undef, undef, undef, undef, undef, undef, undef, undef], defers := [] } W by
    refine wp_region_noPanic ?_
    refine wp_region_held_drew (S := (fun V => V.cell? ⟨w.heap.size, 0, none⟩ = some (.slice aL Le.length cL) ∧ V.cell? ⟨w.heap.size, 1, none⟩ = some (.slice aF Fi.length cF) ∧ V.cell? ⟨w.heap.size, 2, none⟩ = some (.slice aA La.length cA) ∧ V.cell? ⟨w.heap.size, 3, none⟩ = some (.slice aO Fo.length cO) ∧ V.cell? ⟨w.heap.size, 4, none⟩ = some (.bool em))) (by kernel_rfl) (HS5.out w0.drew (drew_below w0)) (fun hHeld => ?_)
    refine tkV (i := 0) (d := some 11) (v := ?_) rfl (by kernel_rfl) (by kernel_rfl) (by kernel_rfl) rfl (fun _ _ _ h => h) (by rfl) ?_ (by assumption) ?_
    rotate_left
    · (intro w hSw; (try dsimp only at hSw); (try simp only [List.getElem_toArray, List.getElem_cons_zero]); go_simp; try with_reducible rfl)
    try simp only [Act.put, List.setIfInBounds_toArray, List.set_cons_zero, List.set_cons_succ]
    refine tkV (i := 1) (d := some 12) (v := ?_) rfl (by kernel_rfl) (by kernel_rfl) (by kernel_rfl) rfl (fun _ _ _ h => h) (by rfl) ?_ (by assumption) ?_
    rotate_left
    · (intro w hSw; (try dsimp only at hSw); (try simp only [List.getElem_toArray, List.getElem_cons_zero, List.getElem_cons_succ]); go_simp; try with_reducible rfl)
    try simp only [Act.put, List.setIfInBounds_toArray, List.set_cons_zero, List.set_cons_succ]
    refine tkV (i := 2) (d := some 13) (v := ?_) rfl (by kernel_rfl) (by kernel_rfl) (by kernel_rfl) rfl (fun _ _ _ h => h) (by rfl) ?_ (by assumption) ?_
    rotate_left
    · (intro w hSw; (try dsimp only at hSw); (try simp only [List.getElem_toArray, List.getElem_cons_zero, List.getElem_cons_succ]); go_simp; try with_reducible rfl)
    try simp only [Act.put, List.setIfInBounds_toArray, List.set_cons_zero, List.set_cons_succ]
    refine tkV (i := 3) (d := some 14) (v := ?_) rfl (by kernel_rfl) (by kernel_rfl) (by kernel_rfl) rfl (fun _ _ _ h => h) (by rfl) ?_ (by assumption) ?_
    rotate_left
    · (intro w hSw; (try dsimp only at hSw); (try simp only [List.getElem_toArray, List.getElem_cons_zero, List.getElem_cons_succ]); go_simp; try with_reducible rfl)
    try simp only [Act.put, List.setIfInBounds_toArray, List.set_cons_zero, List.set_cons_succ]
    refine tkV (i := 4) (d := some 15) (v := ?_) rfl (by kernel_rfl) (by kernel_rfl) (by kernel_rfl) rfl (fun _ _ _ h => h) (by rfl) ?_ (by assumption) ?_
    rotate_left
    · (intro w hSw; (try dsimp only at hSw); (try simp only [List.getElem_toArray, List.getElem_cons_zero, List.getElem_cons_succ]); go_simp; try with_reducible rfl)
    try simp only [Act.put, List.setIfInBounds_toArray, List.set_cons_zero, List.set_cons_succ]
    refine tkV (i := 6) (d := some 17) (v := ?_) rfl (by kernel_rfl) (by kernel_rfl) (by kernel_rfl) rfl (fun _ _ _ h => h) (by rfl) ?_ (by assumption) ?_
    rotate_left
    · (intro w hSw; (try dsimp only at hSw); (try simp only [List.getElem_toArray, List.getElem_cons_zero, List.getElem_cons_succ]); go_simp; try with_reducible rfl)
    try simp only [Act.put, List.setIfInBounds_toArray, List.set_cons_zero, List.set_cons_succ]
    refine tkV (i := 7) (d := some 18) (v := ?_) rfl (by kernel_rfl) (by kernel_rfl) (by kernel_rfl) rfl (fun _ _ _ h => h) (by rfl) ?_ (by assumption) ?_
    rotate_left
    · (intro w hSw; (try dsimp only at hSw); (try simp only [List.getElem_toArray, List.getElem_cons_zero, List.getElem_cons_succ]); go_simp; try with_reducible rfl)
    try simp only [Act.put, List.setIfInBounds_toArray, List.set_cons_zero, List.set_cons_succ]
    refine tkV (i := 8) (d := some 19) (v := ?_) rfl (by kernel_rfl) (by kernel_rfl) (by kernel_rfl) rfl (fun _ _ _ h => h) (by rfl) ?_ (by assumption) ?_
    rotate_left
    · (intro w hSw; (try dsimp only at hSw); (try simp only [List.getElem_toArray, List.getElem_cons_zero, List.getElem_cons_succ]); go_simp; try with_reducible rfl)
    try simp only [Act.put, List.setIfInBounds_toArray, List.set_cons_zero, List.set_cons_succ]
    refine wpAnyH_ready (rs := [5, 11]) (by kernel_rfl) (by simp) (AllReadyH.cons rfl (fun K hK => ?_) (AllReadyH.cons rfl (fun K hK => ?_) AllReadyH.nil))
    · try simp only [List.getElem_toArray, List.getElem_cons_zero, List.getElem_cons_succ]
      go_simp
      refine (some_any Fi aF cF n w0.drew l2 hn8 ((HF.out.past HB0.out).past (drew_below w0))).mono ?_
      rintro e v5 ⟨vv, rfl, ho5, hb5⟩
      obtain ⟨bF, dF, rfl, _⟩ := ho5.ia
      have HB5 := hid0 (Below.later (drew_below w0) hb5)
      go_wp2_with fail
      refine hK.out _ _ (HS5.out v5 HB5.out) (fun hHeld5 => ?_)
      clear hK K
      (try simp only [Act.put]); (try simp only [List.setIfInBounds_toArray]); (try simp only [List.set_cons_succ]); (try simp only [List.set_cons_zero])
      refine wpAnyH_ready (rs := [9, 11]) (by kernel_rfl) (by simp) (AllReadyH.cons rfl (fun K hK => ?_) (AllReadyH.cons rfl (fun K hK => ?_) AllReadyH.nil))
      · try simp only [List.getElem_toArray, List.getElem_cons_zero, List.getElem_cons_succ]
        go_simp
        refine (some_any La aA cA n v5 l3 hn8 ((HA.out.past HB0.out).past HB5.out)).mono ?_
        rintro e v9 ⟨vv, rfl, ho9, hb9⟩
        obtain ⟨bA, dA, rfl, _⟩ := ho9.ia
        have HB9 := hid0 (Below.later HB5.out hb9)
        go_wp2_with fail
        refine hK.out _ _ (HS5.out v9 HB9.out) (fun hHeld9 => ?_)
        clear hK K
        (try simp only [Act.put]); (try simp only [List.setIfInBounds_toArray]); (try simp only [List.set_cons_succ]); (try simp only [List.set_cons_zero])
        refine tkV (i := 10) (d := some 21) (v := ?_) rfl (by kernel_rfl) (by kernel_rfl) (by kernel_rfl) rfl (fun _ _ _ h => h) (by rfl) ?_ (by assumption) ?_
        rotate_left
        · (intro w hSw; (try dsimp only at hSw); (try simp only [List.getElem_toArray, List.getElem_cons_zero, List.getElem_cons_succ]); go_simp; try with_reducible rfl)
        try simp only [Act.put, List.setIfInBounds_toArray, List.set_cons_zero, List.set_cons_succ]
        refine wpAnyH_ready (rs := [11]) (by kernel_rfl) (by simp) (AllReadyH.cons rfl (fun K hK => ?_) AllReadyH.nil)
        obtain ⟨va, hva⟩ : ∃ va, va = v9.alloc (.cells #[.slice none 0 0, .slice none 0 0, .slice none 0 0, .slice none 0 0, .bool false] 25) := ⟨_, rfl⟩
        have hba : Below v9.heap.size v9 va := by { rw [hva]; exact (Below.refl _ _).alloc (Nat.le_refl _) _ }
        have hXv : va.heap[v9.heap.size]? = some (.cells #[.slice none 0 0, .slice none 0 0, .slice none 0 0, .slice none 0 0, .bool false] 25 (0, 0)) := by { rw [hva]; exact heap_alloc_new v9 _ }
        have hfva := hva.symm
        clear hva
        try simp only [List.getElem_toArray, List.getElem_cons_zero, List.getElem_cons_succ]
        go_simp
        have HBa := hid0 (Below.later HB9.out hba)
        refine hK.out _ _ (HS5.out va HBa.out) (fun hHeld11 => ?_)
        clear hK K
        (try simp only [Act.put]); (try simp only [List.setIfInBounds_toArray]); (try simp only [List.set_cons_succ]); (try simp only [List.set_cons_zero])
        refine wpAnyH_ready (rs := [12]) (by kernel_rfl) (by simp) (AllReadyH.cons rfl (fun K hK => ?_) AllReadyH.nil)
        have hz0 : w0.drew.heap.size = w0.heap.size := rfl
        have hzz := HZa.out
        have hXs := (Array.getElem?_eq_some_iff.1 hXv).1
        have hs5 := hb5.size
        have hs9 := hb9.size
        have hs11 := hba.size
        have hXl : va.heap[v9.heap.size]? = some (.cells #[.slice none 0 0, .slice none 0 0, .slice none 0 0, .slice none 0 0, .bool false] 25 (0, 0)) := hXv
        have hF5 := ((ho5.past hb9).past hba)
        have hA9 := (ho9.past hba)
        have hlF := fun k (hk : (Value.slice bF (someL Fi n).length dF).ownBlock = some k) => (World.ownsRow.lt ho5 k hk)
        have hlA := fun k (hk : (Value.slice bA (someL La n).length dA).ownBlock = some k) => (World.ownsRow.lt ho9 k hk)
        obtain ⟨y0, y1, y2, y3, y4⟩ := row5 hXl
        obtain ⟨q0, q1, q2, q3, q4⟩ := frz5 hXl
        obtain ⟨W, hW⟩ : ∃ W, W = set5 va v9.heap.size (.slice none 0 0) (.slice bF (someL Fi n).length dF) (.slice bA (someL La n).length dA) (.slice none 0 0) (.bool em) := ⟨_, rfl⟩
        have hWs : W.heap.size = va.heap.size := by rw [hW]; exact set5_size _ _ _ _ _ _ _
        have hoth : ∀ k, ¬ k = v9.heap.size → W.heap[k]? = va.heap[k]? := fun k hk => by rw [hW]; exact set5_other hk _ _ _ _ _
        have HBW : Hid (Below w0.heap.size w0 W) := hid0 (by rw [hW]; exact set5_below HBa.out (by omega) _ _ _ _ _)
        have HT : Hid (TdI w0 W v9.heap.size W.heap.size (.slice none 0 0) (.slice none 0 0) (.slice bF (someL Fi n).length dF) (.slice bA (someL La n).length dA) [] [] (someL Fi n) (someL La n) em) := hid0 ⟨by rw [hW]; exact set5_row hXl _ _ _ _ _, Bag.nil _ _, Bag.nil _ _, fun k e => (by rcases e with e | ⟨x, hx, _⟩; (· cases e); (· cases hx)), own_blk (owns_lower hF5 (by omega)) (fun k e => hoth k (by have := hlF k e; omega)), own_blk (owns_lower hA9 (by omega)) (fun k e => hoth k (by have := hlA k e; omega)), fun k e => ⟨by have := hlF k e; omega, by have := hlF k e; omega⟩, fun k e => ⟨by have := hlA k e; omega, by have := hlA k e; omega⟩, HBW.out, ⟨by omega, by have := (Array.getElem?_eq_some_iff.1 hXl).1; omega, Nat.le_refl _⟩⟩
        unfold set5 at hW
        have hfW := hW.symm
        clear hW hoth hF5 hA9 hXl hz0 hzz hXs hWs
        try simp only [List.getElem_toArray, List.getElem_cons_zero, List.getElem_cons_succ]
        go_simp
        refine hK.out _ _ (HS5.out W HBW.out) (fun hHeld12 => ?_)
        clear hK K
        (try simp only [Act.put]); (try simp only [List.setIfInBounds_toArray]); (try simp only [List.set_cons_succ]); (try simp only [List.set_cons_zero])
        refine wpAnyH_done (by kernel_rfl) ?_ _
        refine NoPanic.normal ?_
        exact H _ _ _ _ _ _ HT.out
      · obtain ⟨va, hva⟩ : ∃ va, va = v5.alloc (.cells #[.slice none 0 0, .slice none 0 0, .slice none 0 0, .slice none 0 0, .bool false] 25) := ⟨_, rfl⟩
        have hba : Below v5.heap.size v5 va := by { rw [hva]; exact (Below.refl _ _).alloc (Nat.le_refl _) _ }
        have hXv : va.heap[v5.heap.size]? = some (.cells #[.slice none 0 0, .slice none 0 0, .slice none 0 0, .slice none 0 0, .bool false] 25 (0, 0)) := by { rw [hva]; exact heap_alloc_new v5 _ }
        have hfva := hva.symm
        clear hva
        try simp only [List.getElem_toArray, List.getElem_cons_zero, List.getElem_cons_succ]
        go_simp
        have HBa := hid0 (Below.later HB5.out hba)
        refine hK.out _ _ (HS5.out va HBa.out) (fun hHeld11 => ?_)
        clear hK K
        (try simp only [Act.put]); (try simp only [List.setIfInBounds_toArray]); (try simp only [List.set_cons_succ]); (try simp only [List.set_cons_zero])
        refine wpAnyH_ready (rs := [9]) (by kernel_rfl) (by simp) (AllReadyH.cons rfl (fun K hK => ?_) AllReadyH.nil)
        try simp only [List.getElem_toArray, List.getElem_cons_zero, List.getElem_cons_succ]
        go_simp
        refine (some_any La aA cA n va l3 hn8 ((HA.out.past HB0.out).past HBa.out)).mono ?_
        rintro e v9 ⟨vv, rfl, ho9, hb9⟩
        obtain ⟨bA, dA, rfl, _⟩ := ho9.ia
        have HB9 := hid0 (Below.later HBa.out hb9)
        go_wp2_with fail
        refine hK.out _ _ (HS5.out v9 HB9.out) (fun hHeld9 => ?_)
        clear hK K
        (try simp only [Act.put]); (try simp only [List.setIfInBounds_toArray]); (try simp only [List.set_cons_succ]); (try simp only [List.set_cons_zero])
        refine tkV (i := 10) (d := some 21) (v := ?_) rfl (by kernel_rfl) (by kernel_rfl) (by kernel_rfl) rfl (fun _ _ _ h => h) (by rfl) ?_ (by assumption) ?_
        rotate_left
        · (intro w hSw; (try dsimp only at hSw); (try simp only [List.getElem_toArray, List.getElem_cons_zero, List.getElem_cons_succ]); go_simp; try with_reducible rfl)
        try simp only [Act.put, List.setIfInBounds_toArray, List.set_cons_zero, List.set_cons_succ]
        refine wpAnyH_ready (rs := [12]) (by kernel_rfl) (by simp) (AllReadyH.cons rfl (fun K hK => ?_) AllReadyH.nil)
        have hz0 : w0.drew.heap.size = w0.heap.size := rfl
        have hzz := HZa.out
        have hXs := (Array.getElem?_eq_some_iff.1 hXv).1
        have hs5 := hb5.size
        have hs11 := hba.size
        have hs9 := hb9.size
        have hXl : v9.heap[v5.heap.size]? = some (.cells #[.slice none 0 0, .slice none 0 0, .slice none 0 0, .slice none 0 0, .bool false] 25 (0, 0)) := ((hb9.block _ (by have := (Array.getElem?_eq_some_iff.1 hXv).1; omega)).trans hXv)
        have hF5 := ((ho5.past hba).past hb9)
        have hA9 := ho9
        have hlF := fun k (hk : (Value.slice bF (someL Fi n).length dF).ownBlock = some k) => (World.ownsRow.lt ho5 k hk)
        have hlA := fun k (hk : (Value.slice bA (someL La n).length dA).ownBlock = some k) => (World.ownsRow.lt ho9 k hk)
        obtain ⟨y0, y1, y2, y3, y4⟩ := row5 hXl
        obtain ⟨q0, q1, q2, q3, q4⟩ := frz5 hXl
        obtain ⟨W, hW⟩ : ∃ W, W = set5 v9 v5.heap.size (.slice none 0 0) (.slice bF (someL Fi n).length dF) (.slice bA (someL La n).length dA) (.slice none 0 0) (.bool em) := ⟨_, rfl⟩
        have hWs : W.heap.size = v9.heap.size := by rw [hW]; exact set5_size _ _ _ _ _ _ _
        have hoth : ∀ k, ¬ k = v5.heap.size → W.heap[k]? = v9.heap[k]? := fun k hk => by rw [hW]; exact set5_other hk _ _ _ _ _
        have HBW : Hid (Below w0.heap.size w0 W) := hid0 (by rw [hW]; exact set5_below HB9.out (by omega) _ _ _ _ _)
        have HT : Hid (TdI w0 W v5.heap.size W.heap.size (.slice none 0 0) (.slice none 0 0) (.slice bF (someL Fi n).length dF) (.slice bA (someL La n).length dA) [] [] (someL Fi n) (someL La n) em) := hid0 ⟨by rw [hW]; exact set5_row hXl _ _ _ _ _, Bag.nil _ _, Bag.nil _ _, fun k e => (by rcases e with e | ⟨x, hx, _⟩; (· cases e); (· cases hx)), own_blk (owns_lower hF5 (by omega)) (fun k e => hoth k (by have := hlF k e; omega)), own_blk (owns_lower hA9 (by omega)) (fun k e => hoth k (by have := hlA k e; omega)), fun k e => ⟨by have := hlF k e; omega, by have := hlF k e; omega⟩, fun k e => ⟨by have := hlA k e; omega, by have := hlA k e; omega⟩, HBW.out, ⟨by omega, by have := (Array.getElem?_eq_some_iff.1 hXl).1; omega, Nat.le_refl _⟩⟩
        unfold set5 at hW
        have hfW := hW.symm
        clear hW hoth hF5 hA9 hXl hz0 hzz hXs hWs
        try simp only [List.getElem_toArray, List.getElem_cons_zero, List.getElem_cons_succ]
        go_simp
        refine hK.out _ _ (HS5.out W HBW.out) (fun hHeld12 => ?_)
        clear hK K
        (try simp only [Act.put]); (try simp only [List.setIfInBounds_toArray]); (try simp only [List.set_cons_succ]); (try simp only [List.set_cons_zero])
        refine wpAnyH_done (by kernel_rfl) ?_ _
        refine NoPanic.normal ?_
        exact H _ _ _ _ _ _ HT.out
    · obtain ⟨va, hva⟩ : ∃ va, va = w0.drew.alloc (.cells #[.slice none 0 0, .slice none 0 0, .slice none 0 0, .slice none 0 0, .bool false] 25) := ⟨_, rfl⟩
      have hba : Below w0.drew.heap.size w0.drew va := by { rw [hva]; exact (Below.refl _ _).alloc (Nat.le_refl _) _ }
      have hXv : va.heap[w0.heap.size]? = some (.cells #[.slice none 0 0, .slice none 0 0, .slice none 0 0, .slice none 0 0, .bool false] 25 (0, 0)) := by { rw [hva]; exact heap_alloc_new w0.drew _ }
      have hfva := hva.symm
      clear hva
      try simp only [List.getElem_toArray, List.getElem_cons_zero, List.getElem_cons_succ]
      go_simp
      have HBa := hid0 (Below.later (drew_below w0) hba)
      refine hK.out _ _ (HS5.out va HBa.out) (fun hHeld11 => ?_)
      clear hK K
      (try simp only [Act.put]); (try simp only [List.setIfInBounds_toArray]); (try simp only [List.set_cons_succ]); (try simp only [List.set_cons_zero])
      refine wpAnyH_ready (rs := [5]) (by kernel_rfl) (by simp) (AllReadyH.cons rfl (fun K hK => ?_) AllReadyH.nil)
      try simp only [List.getElem_toArray, List.getElem_cons_zero, List.getElem_cons_succ]
      go_simp
      refine (some_any Fi aF cF n va l2 hn8 ((HF.out.past HB0.out).past HBa.out)).mono ?_
      rintro e v5 ⟨vv, rfl, ho5, hb5⟩
      obtain ⟨bF, dF, rfl, _⟩ := ho5.ia
      have HB5 := hid0 (Below.later HBa.out hb5)
      go_wp2_with fail
      refine hK.out _ _ (HS5.out v5 HB5.out) (fun hHeld5 => ?_)
      clear hK K
      (try simp only [Act.put]); (try simp only [List.setIfInBounds_toArray]); (try simp only [List.set_cons_succ]); (try simp only [List.set_cons_zero])
      refine wpAnyH_ready (rs := [9]) (by kernel_rfl) (by simp) (AllReadyH.cons rfl (fun K hK => ?_) AllReadyH.nil)
      try simp only [List.getElem_toArray, List.getElem_cons_zero, List.getElem_cons_succ]
      go_simp
      refine (some_any La aA cA n v5 l3 hn8 ((HA.out.past HB0.out).past HB5.out)).mono ?_
      rintro e v9 ⟨vv, rfl, ho9, hb9⟩
      obtain ⟨bA, dA, rfl, _⟩ := ho9.ia
      have HB9 := hid0 (Below.later HB5.out hb9)
      go_wp2_with fail
      refine hK.out _ _ (HS5.out v9 HB9.out) (fun hHeld9 => ?_)
      clear hK K
      (try simp only [Act.put]); (try simp only [List.setIfInBounds_toArray]); (try simp only [List.set_cons_succ]); (try simp only [List.set_cons_zero])
      refine tkV (i := 10) (d := some 21) (v := ?_) rfl (by kernel_rfl) (by kernel_rfl) (by kernel_rfl) rfl (fun _ _ _ h => h) (by rfl) ?_ (by assumption) ?_
      rotate_left
      · (intro w hSw; (try dsimp only at hSw); (try simp only [List.getElem_toArray, List.getElem_cons_zero, List.getElem_cons_succ]); go_simp; try with_reducible rfl)
      try simp only [Act.put, List.setIfInBounds_toArray, List.set_cons_zero, List.set_cons_succ]
      refine wpAnyH_ready (rs := [12]) (by kernel_rfl) (by simp) (AllReadyH.cons rfl (fun K hK => ?_) AllReadyH.nil)
      have hz0 : w0.drew.heap.size = w0.heap.size := rfl
      have hzz := HZa.out
      have hXs := (Array.getElem?_eq_some_iff.1 hXv).1
      have hs11 := hba.size
      have hs5 := hb5.size
      have hs9 := hb9.size
      have hXl : v9.heap[w0.heap.size]? = some (.cells #[.slice none 0 0, .slice none 0 0, .slice none 0 0, .slice none 0 0, .bool false] 25 (0, 0)) := ((hb9.block _ (by have := (Array.getElem?_eq_some_iff.1 hXv).1; omega)).trans ((hb5.block _ (by have := (Array.getElem?_eq_some_iff.1 hXv).1; omega)).trans hXv))
      have hF5 := (ho5.past hb9)
      have hA9 := ho9
      have hlF := fun k (hk : (Value.slice bF (someL Fi n).length dF).ownBlock = some k) => (World.ownsRow.lt ho5 k hk)
      have hlA := fun k (hk : (Value.slice bA (someL La n).length dA).ownBlock = some k) => (World.ownsRow.lt ho9 k hk)
      obtain ⟨y0, y1, y2, y3, y4⟩ := row5 hXl
      obtain ⟨q0, q1, q2, q3, q4⟩ := frz5 hXl
      obtain ⟨W, hW⟩ : ∃ W, W = set5 v9 w0.heap.size (.slice none 0 0) (.slice bF (someL Fi n).length dF) (.slice bA (someL La n).length dA) (.slice none 0 0) (.bool em) := ⟨_, rfl⟩
      have hWs : W.heap.size = v9.heap.size := by rw [hW]; exact set5_size _ _ _ _ _ _ _
      have hoth : ∀ k, ¬ k = w0.heap.size → W.heap[k]? = v9.heap[k]? := fun k hk => by rw [hW]; exact set5_other hk _ _ _ _ _
      have HBW : Hid (Below w0.heap.size w0 W) := hid0 (by rw [hW]; exact set5_below HB9.out (by omega) _ _ _ _ _)
      have HT : Hid (TdI w0 W w0.heap.size W.heap.size (.slice none 0 0) (.slice none 0 0) (.slice bF (someL Fi n).length dF) (.slice bA (someL La n).length dA) [] [] (someL Fi n) (someL La n) em) := hid0 ⟨by rw [hW]; exact set5_row hXl _ _ _ _ _, Bag.nil _ _, Bag.nil _ _, fun k e => (by rcases e with e | ⟨x, hx, _⟩; (· cases e); (· cases hx)), own_blk (owns_lower hF5 (by omega)) (fun k e => hoth k (by have := hlF k e; omega)), own_blk (owns_lower hA9 (by omega)) (fun k e => hoth k (by have := hlA k e; omega)), fun k e => ⟨by have := hlF k e; omega, by have := hlF k e; omega⟩, fun k e => ⟨by have := hlA k e; omega, by have := hlA k e; omega⟩, HBW.out, ⟨by omega, by have := (Array.getElem?_eq_some_iff.1 hXl).1; omega, Nat.le_refl _⟩⟩
      unfold set5 at hW
      have hfW := hW.symm
      clear hW hoth hF5 hA9 hXl hz0 hzz hXs hWs
      try simp only [List.getElem_toArray, List.getElem_cons_zero, List.getElem_cons_succ]
      go_simp
      refine hK.out _ _ (HS5.out W HBW.out) (fun hHeld12 => ?_)
      clear hK K
      (try simp only [Act.put]); (try simp only [List.setIfInBounds_toArray]); (try simp only [List.set_cons_succ]); (try simp only [List.set_cons_zero])
      refine wpAnyH_done (by kernel_rfl) ?_ _
      refine NoPanic.normal ?_
      exact H _ _ _ _ _ _ HT.out
  intro X W bF bA dF dA hI
  apply hK0
  obtain ⟨j0, hj, hy0, hy1, hy2⟩ := info_parts infoInts
  have HI0 := hid0 hI
  have HBs : Hid (∀ V, Below w0.heap.size w0 V → Below w.heap.size w V) := hid0 (fun V hV => Below.later HB0.out hV)
  clear hK0 hI x0 x1 x2 x3 x4
  generalize hFi : someL Fi n = Fi' at *
  generalize hLa : someL La n = La' at *
  obtain ⟨base, hbase⟩ : ∃ base, base = W.heap.size := ⟨_, rfl⟩
  rw [← hbase] at HI0
  go_wp2
  go_loopw [5] (fun i wr => ∃ (k : Nat) (vL vO : Value) (psL psO : Lot), k ≤ n ∧ i = .int .i64 (k : Int) ∧ Hid (TdI w0 wr X base vL vO (.slice bF Fi'.length dF) (.slice bA La'.length dA) psL psO Fi' La' em) ∧ Hid (psL.map (fun x : Value × List Int => x.2) = tdL Le k ∧ psO.map (fun x : Value × List Int => x.2) = tdO Fo n k)) (fun i _ => n - (intOf i).toNat)
  case atStart => exact ⟨0, _, _, [], [], Nat.zero_le _, rfl, HI0, hid0 ⟨rfl, rfl⟩⟩
  case round =>
    obtain ⟨k, vL, vO, psL, psO, hk, rfl, HI, HM⟩ := hrel
    by_cases hlt : k < n
    · have hkL : k < Le.length := by omega
      have hBw := HBs.out wr HI.out.bel
      obtain ⟨b, off, rfl, hbl, a1, c1, d1, i1w⟩ := HL.out.at' k hkL
      have i1 := i1w.past hBw
      have hkI : (k : Int) < (n : Int) := by omega
      have hkI2 : (k : Int) < (Le.length : Int) := by omega
      have hkI0 : (0 : Int) ≤ (k : Int) := by omega
      have hrl := HR1.out _ (List.getElem_mem hkL)
      have hpl : psL.length = k := by have := congrArg List.length HM.out.1; simpa [tdL] using this
      have hpo : psO.length = k := by have := congrArg List.length HM.out.2; simpa [tdO] using this
      have HgL : Hid (Le.getD k [] = Le[k]) := hid0 (by rw [List.getD_eq_getElem?_getD, List.getElem?_eq_getElem hkL]; rfl)
      generalize Le[k] = Lk at *
      have y0 := (row5 HI.out.row).1
      have HS6 : Hid (∀ V, Below w0.heap.size w0 V → V.cell? ⟨w.heap.size, 0, none⟩ = some (.slice (some ⟨b, off, none⟩) Le.length cL) ∧ V.cell? ⟨b, off + k, none⟩ = some (.slice a1 Lk.length c1)) := hid0 (fun V hV => ⟨(HS5.out V hV).1, ((HBs.out V hV).cell (p := ⟨b, off + k, none⟩) hbl).trans d1⟩)
      have hXl : X < wr.heap.size := (Array.getElem?_eq_some_iff.1 HI.out.row).1
      have HAdd : Hid (∀ (w2 w3 : World) b2 d2, OwnI w2 wr.drew.heap.size (.slice b2 (someL Lk 4).length d2) (someL Lk 4) → Below wr.drew.heap.size wr.drew w2 → w3 = w2.alloc (.cells #[.slice b2 (someL Lk 4).length d2] 23) → ∃ g4 e4 w4 w5, w5 = w4.setCell ⟨X, 0, none⟩ (.slice (some ⟨g4, 0, none⟩) (k + 1) e4) ∧ (Builtin.append_ #[22, 22] 22 #[vL, .slice (some ⟨w2.heap.size, 0, none⟩) 1 1]).run Tryd.prog w3 = .ok (.slice (some ⟨g4, 0, none⟩) (k + 1) e4) w4 ∧ w4.cell? ⟨X, 0, none⟩ = some vL ∧ w4.frozen? ⟨X, 0, none⟩ = false ∧ w2.cell? ⟨X, 0, none⟩ = some vL ∧ w3.cell? ⟨X, 0, none⟩ = some vL ∧
          (w2.cell? ⟨w.heap.size, 0, none⟩ = some (.slice (some ⟨b, off, none⟩) Le.length cL) ∧ w2.cell? ⟨b, off + k, none⟩ = some (.slice a1 Lk.length c1)) ∧ (w3.cell? ⟨w.heap.size, 0, none⟩ = some (.slice (some ⟨b, off, none⟩) Le.length cL) ∧ w3.cell? ⟨b, off + k, none⟩ = some (.slice a1 Lk.length c1)) ∧
          ((w4.cell? ⟨w.heap.size, 0, none⟩ = some (.slice (some ⟨b, off, none⟩) Le.length cL) ∧ w4.cell? ⟨b, off + k, none⟩ = some (.slice a1 Lk.length c1)) ∧ (w5.cell? ⟨w.heap.size, 0, none⟩ = some (.slice (some ⟨b, off, none⟩) Le.length cL) ∧ w5.cell? ⟨b, off + k, none⟩ = some (.slice a1 Lk.length c1))) ∧
          Hid (TdI w0 w5 X base (.slice (some ⟨g4, 0, none⟩) (k + 1) e4) vO (.slice bF Fi'.length dF) (.slice bA La'.length dA) (psL ++ [(.slice b2 (someL Lk 4).length d2, someL Lk 4)]) psO Fi' La' em)) := hid0 (fun w2 w3 b2 d2 ho2 hb2 hw3 => by
        have hb2' := below_drew hb2
        have hb3 : Below w2.heap.size w2 w3 := by rw [hw3]; exact (Below.refl _ _).alloc (Nat.le_refl _) _
        have hI2 := HI.out.past hb2'
        have hI3 := hI2.past hb3
        have hz3 : w3.heap.size = w2.heap.size + 1 := by rw [hw3]; simp
        have hod := HI.out.od
        have hz2 := hb2'.size
        have hcl : ∀ j u, [Value.slice b2 (someL Lk 4).length d2][j]? = some u → w3.cell? ((⟨w2.heap.size, 0, none⟩ : Addr).add j) = some u := by rw [hw3]; exact cell_one_new _ _ _
        have hox := hI3.bL.outer
        rw [hpl] at hox
        obtain ⟨v4, w4, hrun4, hown4, hgrow4, _, hat4⟩ := run_append_own_at (P := Tryd.prog) w3 base 22 22 23 j0 (.slice none 0 0) 1 24 Tryd.underlying22 hj hy0 hy1 hy2 rfl (by decide) vL k (psL.map (·.1)) hox ⟨w2.heap.size, 0, none⟩ 1 1 [.slice b2 (someL Lk 4).length d2] rfl hcl (by simp [Value.oneCell']) (by unfold maxLen; omega) (by omega) (by omega)
        obtain ⟨g4, e4, rfl, _, _, _⟩ := own_form hown4 (by omega)
        have hown5 := hown4
        rw [← hpl] at hown5
        have hb4 : Below w0.heap.size w0 w4 := hI3.bel.trans ((⟨hgrow4.os, hgrow4.tape, hgrow4.output, hgrow4.size, fun i hi hs => hgrow4.block i hi (fun e => hs e.symm)⟩ : Only w3 w4 (fun q => vL.ownBlock = some q)).below hI3.bel.size (fun i hi => by have := (World.ownsRow.lt hI3.bL.outer i hi).1; omega))
        rw [hw3] at hgrow4 hat4
        obtain ⟨q1, q2, q3⟩ := HI.out.addL hb2' ho2 hown5 hgrow4 hat4
        rw [hpl] at q3
        exact ⟨g4, e4, w4, _, rfl, hrun4, q1, q2, (row5 hI2.row).1, (row5 hI3.row).1, HS6.out w2 hI2.bel, HS6.out w3 hI3.bel, ⟨HS6.out w4 hb4, HS6.out _ q3.bel⟩, hid0 q3⟩)
      clear i1w d1 hBw
      go_upto_region 6 with fail
      refine wp_region_noPanic ?_
      refine wp_region_held_drew (S := fun V => V.cell? ⟨w.heap.size, 0, none⟩ = some (.slice (some ⟨b, off, none⟩) Le.length cL) ∧ V.cell? ⟨b, off + k, none⟩ = some (.slice a1 (Lk).length c1)) (by kernel_rfl) (HS6.out wr.drew (Below.later HI.out.bel (drew_below wr))) (fun hHeld => ?_)
      refine tkV (i := 0) (d := some 27) (v := ?_) rfl (by kernel_rfl) (by kernel_rfl) (by kernel_rfl) rfl (fun _ _ _ h => h) (by rfl) ?_ (by assumption) ?_
      rotate_left
      · (intro w hSw; (try dsimp only at hSw); (try simp only [List.getElem_toArray, List.getElem_cons_zero]); go_simp; try with_reducible rfl)
      try simp only [Act.put, List.setIfInBounds_toArray, List.set_cons_zero, List.set_cons_succ]
      refine tkV (i := 2) (d := some 29) (v := ?_) rfl (by kernel_rfl) (by kernel_rfl) (by kernel_rfl) rfl (fun _ _ _ h => h) (by rfl) ?_ (by assumption) ?_
      rotate_left
      · (intro w hSw; (try dsimp only at hSw); (try simp only [List.getElem_toArray, List.getElem_cons_zero, List.getElem_cons_succ]); go_simp; try with_reducible rfl)
      try simp only [Act.put, List.setIfInBounds_toArray, List.set_cons_zero, List.set_cons_succ]
      refine tkV (i := 3) (d := some 30) (v := ?_) rfl (by kernel_rfl) (by kernel_rfl) (by kernel_rfl) rfl (fun _ _ _ h => h) (by rfl) ?_ (by assumption) ?_
      rotate_left
      · (intro w hSw; (try dsimp only at hSw); (try simp only [List.getElem_toArray, List.getElem_cons_zero, List.getElem_cons_succ]); go_simp; try with_reducible rfl)
      try simp only [Act.put, List.setIfInBounds_toArray, List.set_cons_zero, List.set_cons_succ]
      refine tkV (i := 4) (d := some 31) (v := ?_) rfl (by kernel_rfl) (by kernel_rfl) (by kernel_rfl) rfl (fun _ _ _ h => h) (by rfl) ?_ (by assumption) ?_
      rotate_left
      · (intro w hSw; (try dsimp only at hSw); (try simp only [List.getElem_toArray, List.getElem_cons_zero, List.getElem_cons_succ]); go_simp; try with_reducible rfl)
      try simp only [Act.put, List.setIfInBounds_toArray, List.set_cons_zero, List.set_cons_succ]
      refine tkV (i := 5) (d := some 32) (v := ?_) rfl (by kernel_rfl) (by kernel_rfl) (by kernel_rfl) rfl (fun _ _ _ h => h) (by rfl) ?_ (by assumption) ?_
      rotate_left
      · (intro w hSw; (try dsimp only at hSw); (try simp only [List.getElem_toArray, List.getElem_cons_zero, List.getElem_cons_succ]); go_simp; try with_reducible rfl)
      try simp only [Act.put, List.setIfInBounds_toArray, List.set_cons_zero, List.set_cons_succ]
      refine tkV (i := 6) (d := some 33) (v := ?_) rfl (by kernel_rfl) (by kernel_rfl) (by kernel_rfl) rfl (fun _ _ _ h => h) (by rfl) ?_ (by assumption) ?_
      rotate_left
      · (intro w hSw; (try dsimp only at hSw); (try simp only [List.getElem_toArray, List.getElem_cons_zero, List.getElem_cons_succ]); go_simp; try with_reducible rfl)
      try simp only [Act.put, List.setIfInBounds_toArray, List.set_cons_zero, List.set_cons_succ]
      refine wpAnyH_ready (rs := [1, 7]) (by kernel_rfl) (by simp) (AllReadyH.cons rfl (fun K hK => ?_) (AllReadyH.cons rfl (fun K hK => ?_) AllReadyH.nil))
      · try simp only [List.getElem_toArray, List.getElem_cons_zero, List.getElem_cons_succ]
        go_simp
        refine hK.out _ _ ?_ (fun hHeld1 => ?_)
        · assumption
        clear hK K
        (try simp only [Act.put]); (try simp only [List.setIfInBounds_toArray]); (try simp only [List.set_cons_succ]); (try simp only [List.set_cons_zero])
        refine wpAnyH_ready (rs := [7]) (by kernel_rfl) (by simp) (AllReadyH.cons rfl (fun K hK => ?_) AllReadyH.nil)
        try simp only [List.getElem_toArray, List.getElem_cons_zero, List.getElem_cons_succ]
        go_simp
        refine (some_any Lk a1 c1 4 wr.drew hrl (by omega) (i1.past (drew_below wr))).mono ?_
        rintro e w2 ⟨vv, rfl, ho2, hb2⟩
        obtain ⟨b2, d2, rfl, _⟩ := ho2.ia
        obtain ⟨w3, hw3⟩ : ∃ w3, w3 = w2.alloc (.cells #[.slice b2 (someL Lk 4).length d2] 23) := ⟨_, rfl⟩
        obtain ⟨g4, e4, w4, w5, hw5, hrun4, hc4, hf4, hs2, hs3, hS2, hS3, hS4, HT6⟩ := HAdd.out w2 w3 b2 d2 ho2 hb2 hw3
        have hf5 := hw5.symm
        clear hw5
        have HRun := hid0 hrun4
        have hfold3 := hw3.symm
        clear ho2 hb2 hrun4 hw3
        go_wp2_with fail
        refine hK.out _ _ ?_ (fun hHeld7 => ?_)
        · exact hS2
        clear hK K
        (try simp only [Act.put]); (try simp only [List.setIfInBounds_toArray]); (try simp only [List.set_cons_succ]); (try simp only [List.set_cons_zero])
        refine wpAnyH_ready (rs := [8]) (by kernel_rfl) (by simp) (AllReadyH.cons rfl (fun K hK => ?_) AllReadyH.nil)
        try simp only [List.getElem_toArray, List.getElem_cons_zero, List.getElem_cons_succ]
        go_simp
        refine hK.out _ _ ?_ (fun hHeld8 => ?_)
        · exact hS3
        clear hK K
        (try simp only [Act.put]); (try simp only [List.setIfInBounds_toArray]); (try simp only [List.set_cons_succ]); (try simp only [List.set_cons_zero])
        refine wpAnyH_ready (rs := [9]) (by kernel_rfl) (by simp) (AllReadyH.cons rfl (fun K hK => ?_) AllReadyH.nil)
        refine step_append_run rfl (.tmp 28) (.tmp 35) 22 rfl _ _ _ _ HRun.out (by simp [Act.eval]) (by simp [Act.eval]) ?_
        refine hK.out _ _ ?_ (fun hHeld9 => ?_)
        · exact hS4.1
        clear hK K
        (try simp only [Act.put]); (try simp only [List.setIfInBounds_toArray]); (try simp only [List.set_cons_succ]); (try simp only [List.set_cons_zero])
        refine tkV (i := 10) (d := some 37) (v := ?_) rfl (by kernel_rfl) (by kernel_rfl) (by kernel_rfl) rfl (fun _ _ _ h => h) (by rfl) ?_ (by assumption) ?_
        rotate_left
        · (intro w hSw; (try dsimp only at hSw); (try simp only [List.getElem_toArray, List.getElem_cons_zero, List.getElem_cons_succ]); go_simp; try with_reducible rfl)
        try simp only [Act.put]
        refine wpAnyH_ready (rs := [11]) (by kernel_rfl) (by simp) (AllReadyH.cons rfl (fun K hK => ?_) AllReadyH.nil)
        try simp only [List.getElem_toArray, List.getElem_cons_zero, List.getElem_cons_succ]
        go_simp
        refine hK.out _ _ ?_ (fun hHeld11 => ?_)
        · exact hS4.2
        clear hK K
        (try simp only [Act.put]); (try simp only [List.setIfInBounds_toArray]); (try simp only [List.set_cons_succ]); (try simp only [List.set_cons_zero])
        refine wpAnyH_done (by kernel_rfl) ?_ _
        refine NoPanic.normal ?_
        obtain ⟨x0, x1, x2, x3, x4⟩ := HS5.out w5 HT6.out.bel
        have c3 := (row5 HT6.out.row).2.2.2.1
        clear hc4 hf4 hs2 hs3
        by_cases hOl : k < Fo.length
        · obtain ⟨bo, fo, rfl, _, a3, c3', d3, i3⟩ := (HO.out.past (HBs.out w5 HT6.out.bel)).at' k hOl
          have hkO : (k : Int) < (Fo.length : Int) := by omega
          have hr3 := HR4.out _ (List.getElem_mem hOl)
          have HgO : Hid (Fo.getD k [] = Fo[k]) := hid0 (by rw [List.getD_eq_getElem?_getD, List.getElem?_eq_getElem hOl]; rfl)
          have HSo := hid0 (some_any Fo[k] a3 c3' n w5 hr3 hn8 i3)
          generalize Fo[k] = Fk at *
          go_wp2_with (first
            | (go_at_call 24; go_loud ((
                refine HSo.out.mono ?_
                rintro e w6 ⟨vv, rfl, ho6, hb6⟩
                obtain ⟨b6, d6, rfl, _⟩ := ho6.ia
                have HT7 := hid0 (HT6.out.past hb6)
                have hc7 := (row5 HT7.out.row).2.2.2.1
                have HO6 := hid0 ho6
                have HB6 := hid0 hb6
                clear ho6 hb6)))
            | (at_builtin; go_loud ((
                refine wpList_append_own_at _ rfl _ _ 22 rfl base 23 j0 (.slice none 0 0) 1 24 Tryd.underlying22 hj hy0 hy1 hy2 rfl (by decide) _ psO.length (psO.map (·.1)) rfl (World.ownsRow.alloc HT7.out.bO.outer _) ⟨w6.heap.size, 0, none⟩ 1 1 [.slice b6 (someL Fk n).length d6] rfl rfl (cell_one_new _ _ _) (by simp [Value.oneCell']) (by unfold maxLen; omega) (by omega) (by have := HT7.out.od.2.2; simp; omega) ?_
                intro v7 w7 hown7 hgrow7 _ hat7
                obtain ⟨q1, q2, ht8⟩ := HT6.out.addO (l := someL Fk n) HB6.out HO6.out hown7 hgrow7 hat7
                obtain ⟨g8, e8, rfl, _, _, _⟩ := own_form hown7 (by omega)
                have HT8 := hid0 ht8
                rw [hpo] at HT8
                clear hown7 hgrow7 hat7 ht8)))
            | fail)
          go_roundw
          case rel => exact ⟨k + 1, _, _, _, _, by omega, by go_num, HT8, hid0 ⟨by rw [List.map_append, HM.out.1, tdL_succ, HgL.out]; rfl, by rw [List.map_append, HM.out.2, tdO_succ, HgO.out]; rfl⟩⟩
          case measure => simp [intOf]; omega
        · have hkO : ¬ (k : Int) < (Fo.length : Int) := by omega
          have HgO : Hid (someL (Fo.getD k []) n = []) := hid0 (by rw [List.getD_eq_getElem?_getD, List.getElem?_eq_none (by omega)]; exact someL_nil n)
          have HT7 := hid0 HT6.out
          go_wp2_with (at_builtin; go_loud ((
              refine wpList_append_own_at _ rfl _ _ 22 rfl base 23 j0 (.slice none 0 0) 1 24 Tryd.underlying22 hj hy0 hy1 hy2 rfl (by decide) _ psO.length (psO.map (·.1)) rfl (World.ownsRow.alloc HT7.out.bO.outer _) ⟨w5.heap.size, 0, none⟩ 1 1 [.slice none 0 0] rfl rfl (cell_one_new _ _ _) (by simp [Value.oneCell']) (by unfold maxLen; omega) (by omega) (by have := HT7.out.od.2.2; simp; omega) ?_
              intro v7 w7 hown7 hgrow7 _ hat7
              obtain ⟨q1, q2, ht8⟩ := HT6.out.addO (l := []) (Below.refl _ _) (World.ownsRow_nil _ _ _ _ : OwnI w5 w5.heap.size (.slice none 0 0) []) hown7 hgrow7 hat7
              obtain ⟨g8, e8, rfl, _, _, _⟩ := own_form hown7 (by omega)
              have HT8 := hid0 ht8
              rw [hpo] at HT8
              clear hown7 hgrow7 hat7 ht8)))
          go_roundw
          case rel => exact ⟨k + 1, _, _, _, _, by omega, by go_num, HT8, hid0 ⟨by rw [List.map_append, HM.out.1, tdL_succ, HgL.out]; rfl, by rw [List.map_append, HM.out.2, tdO_succ, HgO.out]; rfl⟩⟩
          case measure => simp [intOf]; omega
      · try simp only [List.getElem_toArray, List.getElem_cons_zero, List.getElem_cons_succ]
        go_simp
        refine (some_any Lk a1 c1 4 wr.drew hrl (by omega) (i1.past (drew_below wr))).mono ?_
        rintro e w2 ⟨vv, rfl, ho2, hb2⟩
        obtain ⟨b2, d2, rfl, _⟩ := ho2.ia
        obtain ⟨w3, hw3⟩ : ∃ w3, w3 = w2.alloc (.cells #[.slice b2 (someL Lk 4).length d2] 23) := ⟨_, rfl⟩
        obtain ⟨g4, e4, w4, w5, hw5, hrun4, hc4, hf4, hs2, hs3, hS2, hS3, hS4, HT6⟩ := HAdd.out w2 w3 b2 d2 ho2 hb2 hw3
        have hf5 := hw5.symm
        clear hw5
        have HRun := hid0 hrun4
        have hfold3 := hw3.symm
        clear ho2 hb2 hrun4 hw3
        go_wp2_with fail
        refine hK.out _ _ ?_ (fun hHeld7 => ?_)
        · exact hS2
        clear hK K
        (try simp only [Act.put]); (try simp only [List.setIfInBounds_toArray]); (try simp only [List.set_cons_succ]); (try simp only [List.set_cons_zero])
        refine wpAnyH_ready (rs := [1, 8]) (by kernel_rfl) (by simp) (AllReadyH.cons rfl (fun K hK => ?_) (AllReadyH.cons rfl (fun K hK => ?_) AllReadyH.nil))
        · try simp only [List.getElem_toArray, List.getElem_cons_zero, List.getElem_cons_succ]
          go_simp
          refine hK.out _ _ ?_ (fun hHeld1 => ?_)
          · assumption
          clear hK K
          (try simp only [Act.put]); (try simp only [List.setIfInBounds_toArray]); (try simp only [List.set_cons_succ]); (try simp only [List.set_cons_zero])
          refine wpAnyH_ready (rs := [8]) (by kernel_rfl) (by simp) (AllReadyH.cons rfl (fun K hK => ?_) AllReadyH.nil)
          try simp only [List.getElem_toArray, List.getElem_cons_zero, List.getElem_cons_succ]
          go_simp
          refine hK.out _ _ ?_ (fun hHeld8 => ?_)
          · exact hS3
          clear hK K
          (try simp only [Act.put]); (try simp only [List.setIfInBounds_toArray]); (try simp only [List.set_cons_succ]); (try simp only [List.set_cons_zero])
          refine wpAnyH_ready (rs := [9]) (by kernel_rfl) (by simp) (AllReadyH.cons rfl (fun K hK => ?_) AllReadyH.nil)
          refine step_append_run rfl (.tmp 28) (.tmp 35) 22 rfl _ _ _ _ HRun.out (by simp [Act.eval]) (by simp [Act.eval]) ?_
          refine hK.out _ _ ?_ (fun hHeld9 => ?_)
          · exact hS4.1
          clear hK K
          (try simp only [Act.put]); (try simp only [List.setIfInBounds_toArray]); (try simp only [List.set_cons_succ]); (try simp only [List.set_cons_zero])
          refine tkV (i := 10) (d := some 37) (v := ?_) rfl (by kernel_rfl) (by kernel_rfl) (by kernel_rfl) rfl (fun _ _ _ h => h) (by rfl) ?_ (by assumption) ?_
          rotate_left
          · (intro w hSw; (try dsimp only at hSw); (try simp only [List.getElem_toArray, List.getElem_cons_zero, List.getElem_cons_succ]); go_simp; try with_reducible rfl)
          try simp only [Act.put]
          refine wpAnyH_ready (rs := [11]) (by kernel_rfl) (by simp) (AllReadyH.cons rfl (fun K hK => ?_) AllReadyH.nil)
          try simp only [List.getElem_toArray, List.getElem_cons_zero, List.getElem_cons_succ]
          go_simp
          refine hK.out _ _ ?_ (fun hHeld11 => ?_)
          · exact hS4.2
          clear hK K
          (try simp only [Act.put]); (try simp only [List.setIfInBounds_toArray]); (try simp only [List.set_cons_succ]); (try simp only [List.set_cons_zero])
          refine wpAnyH_done (by kernel_rfl) ?_ _
          refine NoPanic.normal ?_
          obtain ⟨x0, x1, x2, x3, x4⟩ := HS5.out w5 HT6.out.bel
          have c3 := (row5 HT6.out.row).2.2.2.1
          clear hc4 hf4 hs2 hs3
          by_cases hOl : k < Fo.length
          · obtain ⟨bo, fo, rfl, _, a3, c3', d3, i3⟩ := (HO.out.past (HBs.out w5 HT6.out.bel)).at' k hOl
            have hkO : (k : Int) < (Fo.length : Int) := by omega
            have hr3 := HR4.out _ (List.getElem_mem hOl)
            have HgO : Hid (Fo.getD k [] = Fo[k]) := hid0 (by rw [List.getD_eq_getElem?_getD, List.getElem?_eq_getElem hOl]; rfl)
            have HSo := hid0 (some_any Fo[k] a3 c3' n w5 hr3 hn8 i3)
            generalize Fo[k] = Fk at *
            go_wp2_with (first
              | (go_at_call 24; go_loud ((
                  refine HSo.out.mono ?_
                  rintro e w6 ⟨vv, rfl, ho6, hb6⟩
                  obtain ⟨b6, d6, rfl, _⟩ := ho6.ia
                  have HT7 := hid0 (HT6.out.past hb6)
                  have hc7 := (row5 HT7.out.row).2.2.2.1
                  have HO6 := hid0 ho6
                  have HB6 := hid0 hb6
                  clear ho6 hb6)))
              | (at_builtin; go_loud ((
                  refine wpList_append_own_at _ rfl _ _ 22 rfl base 23 j0 (.slice none 0 0) 1 24 Tryd.underlying22 hj hy0 hy1 hy2 rfl (by decide) _ psO.length (psO.map (·.1)) rfl (World.ownsRow.alloc HT7.out.bO.outer _) ⟨w6.heap.size, 0, none⟩ 1 1 [.slice b6 (someL Fk n).length d6] rfl rfl (cell_one_new _ _ _) (by simp [Value.oneCell']) (by unfold maxLen; omega) (by omega) (by have := HT7.out.od.2.2; simp; omega) ?_
                  intro v7 w7 hown7 hgrow7 _ hat7
                  obtain ⟨q1, q2, ht8⟩ := HT6.out.addO (l := someL Fk n) HB6.out HO6.out hown7 hgrow7 hat7
                  obtain ⟨g8, e8, rfl, _, _, _⟩ := own_form hown7 (by omega)
                  have HT8 := hid0 ht8
                  rw [hpo] at HT8
                  clear hown7 hgrow7 hat7 ht8)))
              | fail)
            go_roundw
            case rel => exact ⟨k + 1, _, _, _, _, by omega, by go_num, HT8, hid0 ⟨by rw [List.map_append, HM.out.1, tdL_succ, HgL.out]; rfl, by rw [List.map_append, HM.out.2, tdO_succ, HgO.out]; rfl⟩⟩
            case measure => simp [intOf]; omega
          · have hkO : ¬ (k : Int) < (Fo.length : Int) := by omega
            have HgO : Hid (someL (Fo.getD k []) n = []) := hid0 (by rw [List.getD_eq_getElem?_getD, List.getElem?_eq_none (by omega)]; exact someL_nil n)
            have HT7 := hid0 HT6.out
            go_wp2_with (at_builtin; go_loud ((
                refine wpList_append_own_at _ rfl _ _ 22 rfl base 23 j0 (.slice none 0 0) 1 24 Tryd.underlying22 hj hy0 hy1 hy2 rfl (by decide) _ psO.length (psO.map (·.1)) rfl (World.ownsRow.alloc HT7.out.bO.outer _) ⟨w5.heap.size, 0, none⟩ 1 1 [.slice none 0 0] rfl rfl (cell_one_new _ _ _) (by simp [Value.oneCell']) (by unfold maxLen; omega) (by omega) (by have := HT7.out.od.2.2; simp; omega) ?_
                intro v7 w7 hown7 hgrow7 _ hat7
                obtain ⟨q1, q2, ht8⟩ := HT6.out.addO (l := []) (Below.refl _ _) (World.ownsRow_nil _ _ _ _ : OwnI w5 w5.heap.size (.slice none 0 0) []) hown7 hgrow7 hat7
                obtain ⟨g8, e8, rfl, _, _, _⟩ := own_form hown7 (by omega)
                have HT8 := hid0 ht8
                rw [hpo] at HT8
                clear hown7 hgrow7 hat7 ht8)))
            go_roundw
            case rel => exact ⟨k + 1, _, _, _, _, by omega, by go_num, HT8, hid0 ⟨by rw [List.map_append, HM.out.1, tdL_succ, HgL.out]; rfl, by rw [List.map_append, HM.out.2, tdO_succ, HgO.out]; rfl⟩⟩
            case measure => simp [intOf]; omega
        · try simp only [List.getElem_toArray, List.getElem_cons_zero, List.getElem_cons_succ]
          go_simp
          refine hK.out _ _ ?_ (fun hHeld8 => ?_)
          · exact hS3
          clear hK K
          (try simp only [Act.put]); (try simp only [List.setIfInBounds_toArray]); (try simp only [List.set_cons_succ]); (try simp only [List.set_cons_zero])
          refine wpAnyH_ready (rs := [1]) (by kernel_rfl) (by simp) (AllReadyH.cons rfl (fun K hK => ?_) AllReadyH.nil)
          try simp only [List.getElem_toArray, List.getElem_cons_zero, List.getElem_cons_succ]
          go_simp
          refine hK.out _ _ ?_ (fun hHeld1 => ?_)
          · assumption
          clear hK K
          (try simp only [Act.put]); (try simp only [List.setIfInBounds_toArray]); (try simp only [List.set_cons_succ]); (try simp only [List.set_cons_zero])
          refine wpAnyH_ready (rs := [9]) (by kernel_rfl) (by simp) (AllReadyH.cons rfl (fun K hK => ?_) AllReadyH.nil)
          refine step_append_run rfl (.tmp 28) (.tmp 35) 22 rfl _ _ _ _ HRun.out (by simp [Act.eval]) (by simp [Act.eval]) ?_
          refine hK.out _ _ ?_ (fun hHeld9 => ?_)
          · exact hS4.1
          clear hK K
          (try simp only [Act.put]); (try simp only [List.setIfInBounds_toArray]); (try simp only [List.set_cons_succ]); (try simp only [List.set_cons_zero])
          refine tkV (i := 10) (d := some 37) (v := ?_) rfl (by kernel_rfl) (by kernel_rfl) (by kernel_rfl) rfl (fun _ _ _ h => h) (by rfl) ?_ (by assumption) ?_
          rotate_left
          · (intro w hSw; (try dsimp only at hSw); (try simp only [List.getElem_toArray, List.getElem_cons_zero, List.getElem_cons_succ]); go_simp; try with_reducible rfl)
          try simp only [Act.put]
          refine wpAnyH_ready (rs := [11]) (by kernel_rfl) (by simp) (AllReadyH.cons rfl (fun K hK => ?_) AllReadyH.nil)
          try simp only [List.getElem_toArray, List.getElem_cons_zero, List.getElem_cons_succ]
          go_simp
          refine hK.out _ _ ?_ (fun hHeld11 => ?_)
          · exact hS4.2
          clear hK K
          (try simp only [Act.put]); (try simp only [List.setIfInBounds_toArray]); (try simp only [List.set_cons_succ]); (try simp only [List.set_cons_zero])
          refine wpAnyH_done (by kernel_rfl) ?_ _
          refine NoPanic.normal ?_
          obtain ⟨x0, x1, x2, x3, x4⟩ := HS5.out w5 HT6.out.bel
          have c3 := (row5 HT6.out.row).2.2.2.1
          clear hc4 hf4 hs2 hs3
          by_cases hOl : k < Fo.length
          · obtain ⟨bo, fo, rfl, _, a3, c3', d3, i3⟩ := (HO.out.past (HBs.out w5 HT6.out.bel)).at' k hOl
            have hkO : (k : Int) < (Fo.length : Int) := by omega
            have hr3 := HR4.out _ (List.getElem_mem hOl)
            have HgO : Hid (Fo.getD k [] = Fo[k]) := hid0 (by rw [List.getD_eq_getElem?_getD, List.getElem?_eq_getElem hOl]; rfl)
            have HSo := hid0 (some_any Fo[k] a3 c3' n w5 hr3 hn8 i3)
            generalize Fo[k] = Fk at *
            go_wp2_with (first
              | (go_at_call 24; go_loud ((
                  refine HSo.out.mono ?_
                  rintro e w6 ⟨vv, rfl, ho6, hb6⟩
                  obtain ⟨b6, d6, rfl, _⟩ := ho6.ia
                  have HT7 := hid0 (HT6.out.past hb6)
                  have hc7 := (row5 HT7.out.row).2.2.2.1
                  have HO6 := hid0 ho6
                  have HB6 := hid0 hb6
                  clear ho6 hb6)))
              | (at_builtin; go_loud ((
                  refine wpList_append_own_at _ rfl _ _ 22 rfl base 23 j0 (.slice none 0 0) 1 24 Tryd.underlying22 hj hy0 hy1 hy2 rfl (by decide) _ psO.length (psO.map (·.1)) rfl (World.ownsRow.alloc HT7.out.bO.outer _) ⟨w6.heap.size, 0, none⟩ 1 1 [.slice b6 (someL Fk n).length d6] rfl rfl (cell_one_new _ _ _) (by simp [Value.oneCell']) (by unfold maxLen; omega) (by omega) (by have := HT7.out.od.2.2; simp; omega) ?_
                  intro v7 w7 hown7 hgrow7 _ hat7
                  obtain ⟨q1, q2, ht8⟩ := HT6.out.addO (l := someL Fk n) HB6.out HO6.out hown7 hgrow7 hat7
                  obtain ⟨g8, e8, rfl, _, _, _⟩ := own_form hown7 (by omega)
                  have HT8 := hid0 ht8
                  rw [hpo] at HT8
                  clear hown7 hgrow7 hat7 ht8)))
              | fail)
            go_roundw
            case rel => exact ⟨k + 1, _, _, _, _, by omega, by go_num, HT8, hid0 ⟨by rw [List.map_append, HM.out.1, tdL_succ, HgL.out]; rfl, by rw [List.map_append, HM.out.2, tdO_succ, HgO.out]; rfl⟩⟩
            case measure => simp [intOf]; omega
          · have hkO : ¬ (k : Int) < (Fo.length : Int) := by omega
            have HgO : Hid (someL (Fo.getD k []) n = []) := hid0 (by rw [List.getD_eq_getElem?_getD, List.getElem?_eq_none (by omega)]; exact someL_nil n)
            have HT7 := hid0 HT6.out
            go_wp2_with (at_builtin; go_loud ((
                refine wpList_append_own_at _ rfl _ _ 22 rfl base 23 j0 (.slice none 0 0) 1 24 Tryd.underlying22 hj hy0 hy1 hy2 rfl (by decide) _ psO.length (psO.map (·.1)) rfl (World.ownsRow.alloc HT7.out.bO.outer _) ⟨w5.heap.size, 0, none⟩ 1 1 [.slice none 0 0] rfl rfl (cell_one_new _ _ _) (by simp [Value.oneCell']) (by unfold maxLen; omega) (by omega) (by have := HT7.out.od.2.2; simp; omega) ?_
                intro v7 w7 hown7 hgrow7 _ hat7
                obtain ⟨q1, q2, ht8⟩ := HT6.out.addO (l := []) (Below.refl _ _) (World.ownsRow_nil _ _ _ _ : OwnI w5 w5.heap.size (.slice none 0 0) []) hown7 hgrow7 hat7
                obtain ⟨g8, e8, rfl, _, _, _⟩ := own_form hown7 (by omega)
                have HT8 := hid0 ht8
                rw [hpo] at HT8
                clear hown7 hgrow7 hat7 ht8)))
            go_roundw
            case rel => exact ⟨k + 1, _, _, _, _, by omega, by go_num, HT8, hid0 ⟨by rw [List.map_append, HM.out.1, tdL_succ, HgL.out]; rfl, by rw [List.map_append, HM.out.2, tdO_succ, HgO.out]; rfl⟩⟩
            case measure => simp [intOf]; omega
    · have hkn : k = n := by omega
      subst hkn
      obtain ⟨y0, y1, y2, y3, y4⟩ := row5 HI.out.row
      have hza := HZa.out
      have hYr : wr.heap[wa.heap.size]? = some (.cells #[.slice none 0 0, .slice none 0 0, .slice none 0 0, .slice none 0 0, .bool false] 25 (0, 0)) := (HI.out.bel.block _ (by omega)).trans HYa.out
      obtain ⟨p0, p1, p2, p3, p4⟩ := row5 hYr
      obtain ⟨f0, f1, f2, f3, f4⟩ := frz5 hYr
      obtain ⟨bL, dL, hvL, hqL⟩ := HI.out.bL.rwq
      obtain ⟨bO, dO, hvO, hqO⟩ := HI.out.bO.rwq
      subst hvL hvO
      rw [HM.out.1] at hqL
      rw [HM.out.2] at hqO
      have hlL : (psL.map (fun x : Value × List Int => x.2)).length = (tdL Le k).length := by rw [HM.out.1]
      have hlO : (psO.map (fun x : Value × List Int => x.2)).length = (tdO Fo k k).length := by rw [HM.out.2]
      obtain ⟨_, _, eF, hqF⟩ := HI.out.oF.iq
      obtain ⟨_, _, eA, hqA⟩ := HI.out.oA.iq
      cases eF
      cases eA
      rw [hlL] at y0
      rw [hlO] at y3
      obtain ⟨V5, hV5⟩ : ∃ V5, V5 = set5 wr wa.heap.size (.slice bL (tdL Le k).length dL) (.slice bF Fi'.length dF) (.slice bA La'.length dA) (.slice bO (tdO Fo k k).length dO) (.bool em) := ⟨_, rfl⟩
      have hk5 := set5_row hYr (.slice bL (tdL Le k).length dL) (.slice bF Fi'.length dF) (.slice bA La'.length dA) (.slice bO (tdO Fo k k).length dO) (.bool em)
      rw [← hV5] at hk5
      obtain ⟨k0, k1, k2, k3, k4⟩ := row5 hk5
      have hoth : ∀ q, ¬ q = wa.heap.size → V5.heap[q]? = wr.heap[q]? := fun q hq => by rw [hV5]; exact set5_other hq _ _ _ _ _
      have hsz5 : V5.heap.size = wr.heap.size := by rw [hV5]; exact set5_size _ _ _ _ _ _ _
      have hod := HI.out.od
      have hPQ : PosQ V5 w0.heap.size bL bF bA bO (tdL Le k) (tdO Fo k k) Fi' La' := by
        have hp : PosQ wr w0.heap.size bL bF bA bO (tdL Le k) (tdO Fo k k) Fi' La' := ⟨⟨fun j hj => by
            obtain ⟨b1, off, e, h0, h1, a1, c1, h2, h3⟩ := hqL.at' j hj
            exact ⟨b1, off, e, by omega, h1, a1, c1, h2, ⟨fun i hi => by obtain ⟨b2, o2, e2, g0, g1, g2⟩ := h3.at' i hi; exact ⟨b2, o2, e2, by omega, g1, g2⟩⟩⟩⟩, hqF, hqA, ⟨fun j hj => by
            obtain ⟨b1, off, e, h0, h1, a1, c1, h2, h3⟩ := hqO.at' j hj
            exact ⟨b1, off, e, by omega, h1, a1, c1, h2, ⟨fun i hi => by obtain ⟨b2, o2, e2, g0, g1, g2⟩ := h3.at' i hi; exact ⟨b2, o2, e2, by omega, g1, g2⟩⟩⟩⟩⟩
        exact hp.keep (by omega) (fun q h1 _ => hoth q (by omega))
      have hPK : RwK V5 w0.heap.size bO (tdO Fo k k) := ((HI.out.bO.rwk HM.out.2).lower (by omega)).keep (by omega) (fun q h1 _ => hoth q (by omega))
      have hPF : ∀ q, bF = some q → q.block < V5.heap.size := by rw [hsz5]; exact HI.out.oF.bd
      have hB5 : Below w.heap.size w V5 := by
        rw [hV5]
        exact set5_below (HBs.out wr HI.out.bel) (by omega) _ _ _ _ _
      have HRR : Hid (RevB w ⟨tdL Le k, Fi', La', tdO Fo k k, em⟩ (.returned (.agg #[.slice bL (tdL Le k).length dL, .slice bF Fi'.length dF, .slice bA La'.length dA, .slice bO (tdO Fo k k).length dO, .bool em])) V5) := hid0 ⟨bL, bF, bA, bO, dL, dF, dA, dO, rfl, hPQ.lower (by omega), hPK.lower (by omega), hPF, hB5⟩
      unfold set5 at hV5
      have hf5 := hV5.symm
      clear hV5 hk5 hoth hsz5 hod hPQ hPK hPF hB5 hza hqL hqO hqF hqA hlL hlO hYr
      go_wp2
      exact bodyPost_ret (v := .agg #[.slice bL (tdL Le k).length dL, .slice bF Fi'.length dF, .slice bA La'.length dA, .slice bO (tdO Fo k k).length dO, .bool em]) (by simp [results, Tryd.results5, go_sem, k0, k1, k2, k3, k4]) rfl (by rw [hFi, hLa]; exact HRR.out)
end Go.Proofs.YtlkgghbdgjomkaaDoor
namespace Go.Proofs.YtlkgghbdgjomkaaDoor
open Go.RowKit Go.Shelf
/-- Two refusals. -/
structure Sen2 (w : World) (A : Nat → Addr) : Prop where
  c0 : w.cell? ⟨1, 0, none⟩ = some (.iface 79 (.pointer (some (A 0))))
  c2 : w.cell? ⟨0, 0, none⟩ = some (.iface 79 (.pointer (some (A 2))))
theorem Sen2.below {w w' : World} {A : Nat → Addr} (h : Sen2 w A) (hb : Below w.heap.size w w') : Sen2 w' A where
  c0 := (hb.cell (p := ⟨1, 0, none⟩) (World.block_lt_of_cell? w _ h.c0)).trans h.c0
  c2 := (hb.cell (p := ⟨0, 0, none⟩) (World.block_lt_of_cell? w _ h.c2)).trans h.c2
/-- What the world holds besides. -/
structure EnvT (w : World) (A : Nat → Addr) : Prop where
  sen : Sen2 w A
  tab : TabAt 11 Lib.deBruijn64tab w
  tl : 11 < w.heap.size
theorem EnvT.past {w w' : World} {A : Nat → Addr} (h : EnvT w A) (hb : Below w.heap.size w w') : EnvT w' A :=
  ⟨h.sen.below hb, fun j hj => (hb.cell (p := ⟨11, j, none⟩) h.tl).trans (h.tab j hj), Nat.lt_of_lt_of_le h.tl hb.size⟩
set_option maxRecDepth 10000 in
set_option maxHeartbeats 3200000 in
theorem check_two (A : Nat → Addr) (sy : Int) (aL aF aA aO : Option Addr) (cL cF cA cO : Nat) (Le Fo : List (List Int)) (Fi La : List Int) (em : Bool) (w : World) (hp : PosA w aL aF aA aO Le Fo Fi La) (hsy : sy ≤ 9223372036854775807) (he : Sen2 w A) :
    Calls Tryd.prog 10 #[posV aL aF aA aO cL cF cA cO Le Fo Fi La em, .int .i64 sy] w fun e w' => e = .returned (errP A (chkP Le Fo Fi La sy)) ∧ Below w.heap.size w w' := by
  unfold posV
  obtain ⟨w0, hw0⟩ : ∃ w0, w0 = w.alloc (.cells #[.slice aL Le.length cL, .slice aF Fi.length cF, .slice aA La.length cA, .slice aO Fo.length cO, .bool em] 25) := ⟨_, rfl⟩
  have hB0 : Below w.heap.size w w0 := by rw [hw0]; exact (Below.refl _ _).alloc (Nat.le_refl _) _
  have hX0 : w0.heap[w.heap.size]? = some (.cells #[.slice aL Le.length cL, .slice aF Fi.length cF, .slice aA La.length cA, .slice aO Fo.length cO, .bool em] 25 (0, 0)) := by rw [hw0]; exact heap_alloc_new w _
  have HB0 := hid0 hB0
  have hp0 := hp.past hB0
  obtain ⟨x0, x1, x2, x3, x4⟩ := row5 hX0
  have he0 := he.below hB0
  have HE := hid0 he0
  have e0 := he0.c0
  have e2 := he0.c2
  have hl1 := hp.l1
  have hl4 := hp.l4
  have H1 := hid0 (hasMore_any 4194304 Le aL cL w0 (by decide) (by omega) (fun r hr => by have := hp.r1 r hr; omega) hp0.le)
  have H2 := hid0 (hasMore_any 1048576 Fo aO cO w0 (by decide) (by omega) (fun r hr => by have := hp.r4 r hr; omega) hp0.fo)
  have H3 := hid0 (allRise_any sy Le aL cL w0 (by omega) (fun r hr => by have := hp.r1 r hr; omega) hsy hp0.le)
  have H4 := hid0 (fun W (hW : Below w0.heap.size w0 W) => placesRise_any aL aF aA aO cL cF cA cO Le Fo Fi La em W (hp0.past hW))
  unfold posV at H4
  have hfold := hw0.symm
  clear hw0 hp hp0 hB0 hX0 he he0
  by_cases h1 : (Le.length : Int) > 4000
  case pos =>
    have HV : Hid (chkP Le Fo Fi La sy = some 2) := hid0 (by unfold chkP; rw [if_pos (.inl (by omega))])
    go_enter Tryd.func10, Tryd.ntmps10
    go_wp2_with (first
      | (go_at_call 25; refine (H4.out _ (Below.refl _ _)).mono ?_; rintro e w4 ⟨rfl, h⟩; have HB4 := hid0 (Below.later HB0.out h); have e4 := (HE.out.below h).c0; clear h)
      | (go_at_call 31; refine H3.out.mono ?_; rintro e w3 ⟨rfl, hw3⟩; have hw3' := hw3.symm; subst hw3'; clear hw3)
      | (go_at_call 30; have hq := HQ1.out; refine H2.out.mono ?_; rintro e w2 ⟨rfl, hw2⟩; have hw2' := hw2.symm; subst hw2'; clear hw2 hq)
      | (go_at_call 30; (fail_if_success (have hq := HQ1.out)); refine H1.out.mono ?_; rintro e w1 ⟨rfl, hw1⟩; have hw1' := hw1.symm; subst hw1'; clear hw1; have HQ1 : Hid True := hid0 trivial)
      | fail)
    go_ret
    exact ⟨by rw [HV.out]; rfl, HB0.out⟩
  by_cases h2 : 4194304 < sumL Le
  case pos =>
    rw [decide_eq_true h2] at H1
    have HV : Hid (chkP Le Fo Fi La sy = some 2) := hid0 (by unfold chkP; rw [if_pos (.inr (.inl h2))])
    go_enter Tryd.func10, Tryd.ntmps10
    go_wp2_with (first
      | (go_at_call 25; refine (H4.out _ (Below.refl _ _)).mono ?_; rintro e w4 ⟨rfl, h⟩; have HB4 := hid0 (Below.later HB0.out h); have e4 := (HE.out.below h).c0; clear h)
      | (go_at_call 31; refine H3.out.mono ?_; rintro e w3 ⟨rfl, hw3⟩; have hw3' := hw3.symm; subst hw3'; clear hw3)
      | (go_at_call 30; have hq := HQ1.out; refine H2.out.mono ?_; rintro e w2 ⟨rfl, hw2⟩; have hw2' := hw2.symm; subst hw2'; clear hw2 hq)
      | (go_at_call 30; (fail_if_success (have hq := HQ1.out)); refine H1.out.mono ?_; rintro e w1 ⟨rfl, hw1⟩; have hw1' := hw1.symm; subst hw1'; clear hw1; have HQ1 : Hid True := hid0 trivial)
      | fail)
    go_ret
    exact ⟨by rw [HV.out]; rfl, HB0.out⟩
  rw [decide_eq_false h2] at H1
  by_cases h3 : 1048576 < sumL Fo
  case pos =>
    rw [decide_eq_true h3] at H2
    have HV : Hid (chkP Le Fo Fi La sy = some 2) := hid0 (by unfold chkP; rw [if_pos (.inr (.inr h3))])
    go_enter Tryd.func10, Tryd.ntmps10
    go_wp2_with (first
      | (go_at_call 25; refine (H4.out _ (Below.refl _ _)).mono ?_; rintro e w4 ⟨rfl, h⟩; have HB4 := hid0 (Below.later HB0.out h); have e4 := (HE.out.below h).c0; clear h)
      | (go_at_call 31; refine H3.out.mono ?_; rintro e w3 ⟨rfl, hw3⟩; have hw3' := hw3.symm; subst hw3'; clear hw3)
      | (go_at_call 30; have hq := HQ1.out; refine H2.out.mono ?_; rintro e w2 ⟨rfl, hw2⟩; have hw2' := hw2.symm; subst hw2'; clear hw2 hq)
      | (go_at_call 30; (fail_if_success (have hq := HQ1.out)); refine H1.out.mono ?_; rintro e w1 ⟨rfl, hw1⟩; have hw1' := hw1.symm; subst hw1'; clear hw1; have HQ1 : Hid True := hid0 trivial)
      | fail)
    go_ret
    exact ⟨by rw [HV.out]; rfl, HB0.out⟩
  rw [decide_eq_false h3] at H2
  have HC : Hid (chkP Le Fo Fi La sy = if sy < 1 ∨ 16384 < sy ∨ ¬ Fo.length = Le.length then some 0 else if riseA sy Le && plRise Le.length Fi La Fo then none else some 0) := hid0 (by unfold chkP; rw [if_neg (by omega)])
  clear h2 h3
  by_cases h4 : sy < 1
  case pos =>
    have HV : Hid (chkP Le Fo Fi La sy = some 0) := hid0 (by rw [HC.out, if_pos (.inl h4)])
    go_enter Tryd.func10, Tryd.ntmps10
    go_wp2_with (first
      | (go_at_call 25; refine (H4.out _ (Below.refl _ _)).mono ?_; rintro e w4 ⟨rfl, h⟩; have HB4 := hid0 (Below.later HB0.out h); have e4 := (HE.out.below h).c0; clear h)
      | (go_at_call 31; refine H3.out.mono ?_; rintro e w3 ⟨rfl, hw3⟩; have hw3' := hw3.symm; subst hw3'; clear hw3)
      | (go_at_call 30; have hq := HQ1.out; refine H2.out.mono ?_; rintro e w2 ⟨rfl, hw2⟩; have hw2' := hw2.symm; subst hw2'; clear hw2 hq)
      | (go_at_call 30; (fail_if_success (have hq := HQ1.out)); refine H1.out.mono ?_; rintro e w1 ⟨rfl, hw1⟩; have hw1' := hw1.symm; subst hw1'; clear hw1; have HQ1 : Hid True := hid0 trivial)
      | fail)
    go_ret
    exact ⟨by rw [HV.out]; rfl, HB0.out⟩
  by_cases h5 : sy > 16384
  case pos =>
    have HV : Hid (chkP Le Fo Fi La sy = some 0) := hid0 (by rw [HC.out, if_pos (.inr (.inl h5))])
    go_enter Tryd.func10, Tryd.ntmps10
    go_wp2_with (first
      | (go_at_call 25; refine (H4.out _ (Below.refl _ _)).mono ?_; rintro e w4 ⟨rfl, h⟩; have HB4 := hid0 (Below.later HB0.out h); have e4 := (HE.out.below h).c0; clear h)
      | (go_at_call 31; refine H3.out.mono ?_; rintro e w3 ⟨rfl, hw3⟩; have hw3' := hw3.symm; subst hw3'; clear hw3)
      | (go_at_call 30; have hq := HQ1.out; refine H2.out.mono ?_; rintro e w2 ⟨rfl, hw2⟩; have hw2' := hw2.symm; subst hw2'; clear hw2 hq)
      | (go_at_call 30; (fail_if_success (have hq := HQ1.out)); refine H1.out.mono ?_; rintro e w1 ⟨rfl, hw1⟩; have hw1' := hw1.symm; subst hw1'; clear hw1; have HQ1 : Hid True := hid0 trivial)
      | fail)
    go_ret
    exact ⟨by rw [HV.out]; rfl, HB0.out⟩
  by_cases h6 : (Fo.length : Int) = (Le.length : Int)
  case neg =>
    have h6n : ¬ Fo.length = Le.length := by omega
    have h6b : ((Fo.length : Int) != (Le.length : Int)) = true := by simp; omega
    have h6c : (Fo.length != Le.length) = true := by simp; omega
    have HV : Hid (chkP Le Fo Fi La sy = some 0) := hid0 (by rw [HC.out, if_pos (.inr (.inr (by omega)))])
    go_enter Tryd.func10, Tryd.ntmps10
    go_wp2_with (first
      | (go_at_call 25; refine (H4.out _ (Below.refl _ _)).mono ?_; rintro e w4 ⟨rfl, h⟩; have HB4 := hid0 (Below.later HB0.out h); have e4 := (HE.out.below h).c0; clear h)
      | (go_at_call 31; refine H3.out.mono ?_; rintro e w3 ⟨rfl, hw3⟩; have hw3' := hw3.symm; subst hw3'; clear hw3)
      | (go_at_call 30; have hq := HQ1.out; refine H2.out.mono ?_; rintro e w2 ⟨rfl, hw2⟩; have hw2' := hw2.symm; subst hw2'; clear hw2 hq)
      | (go_at_call 30; (fail_if_success (have hq := HQ1.out)); refine H1.out.mono ?_; rintro e w1 ⟨rfl, hw1⟩; have hw1' := hw1.symm; subst hw1'; clear hw1; have HQ1 : Hid True := hid0 trivial)
      | fail)
    go_ret
    exact ⟨by rw [HV.out]; rfl, HB0.out⟩
  have HC2 : Hid (chkP Le Fo Fi La sy = if riseA sy Le && plRise Le.length Fi La Fo then none else some 0) := hid0 (by rw [HC.out, if_neg (by omega)])
  clear HC
  cases g1 : riseA sy Le with
  | false =>
    rw [g1] at H3
    have HV : Hid (chkP Le Fo Fi La sy = some 0) := hid0 (by rw [HC2.out, g1]; rfl)
    go_enter Tryd.func10, Tryd.ntmps10
    go_wp2_with (first
      | (go_at_call 25; refine (H4.out _ (Below.refl _ _)).mono ?_; rintro e w4 ⟨rfl, h⟩; have HB4 := hid0 (Below.later HB0.out h); have e4 := (HE.out.below h).c0; clear h)
      | (go_at_call 31; refine H3.out.mono ?_; rintro e w3 ⟨rfl, hw3⟩; have hw3' := hw3.symm; subst hw3'; clear hw3)
      | (go_at_call 30; have hq := HQ1.out; refine H2.out.mono ?_; rintro e w2 ⟨rfl, hw2⟩; have hw2' := hw2.symm; subst hw2'; clear hw2 hq)
      | (go_at_call 30; (fail_if_success (have hq := HQ1.out)); refine H1.out.mono ?_; rintro e w1 ⟨rfl, hw1⟩; have hw1' := hw1.symm; subst hw1'; clear hw1; have HQ1 : Hid True := hid0 trivial)
      | fail)
    go_ret
    exact ⟨by rw [HV.out]; rfl, HB0.out⟩
  | true =>
    rw [g1] at H3
    cases g2 : plRise Le.length Fi La Fo with
    | false =>
      rw [g2] at H4
      have HV : Hid (chkP Le Fo Fi La sy = some 0) := hid0 (by rw [HC2.out, g1, g2]; rfl)
      go_enter Tryd.func10, Tryd.ntmps10
      go_wp2_with (first
      | (go_at_call 25; refine (H4.out _ (Below.refl _ _)).mono ?_; rintro e w4 ⟨rfl, h⟩; have HB4 := hid0 (Below.later HB0.out h); have e4 := (HE.out.below h).c0; clear h)
      | (go_at_call 31; refine H3.out.mono ?_; rintro e w3 ⟨rfl, hw3⟩; have hw3' := hw3.symm; subst hw3'; clear hw3)
      | (go_at_call 30; have hq := HQ1.out; refine H2.out.mono ?_; rintro e w2 ⟨rfl, hw2⟩; have hw2' := hw2.symm; subst hw2'; clear hw2 hq)
      | (go_at_call 30; (fail_if_success (have hq := HQ1.out)); refine H1.out.mono ?_; rintro e w1 ⟨rfl, hw1⟩; have hw1' := hw1.symm; subst hw1'; clear hw1; have HQ1 : Hid True := hid0 trivial)
      | fail)
      go_ret
      exact ⟨by rw [HV.out]; rfl, HB4.out⟩
    | true =>
      rw [g2] at H4
      have HV : Hid (chkP Le Fo Fi La sy = none) := hid0 (by rw [HC2.out, g1, g2]; rfl)
      go_enter Tryd.func10, Tryd.ntmps10
      go_wp2_with (first
      | (go_at_call 25; refine (H4.out _ (Below.refl _ _)).mono ?_; rintro e w4 ⟨rfl, h⟩; have HB4 := hid0 (Below.later HB0.out h); have e4 := (HE.out.below h).c0; clear h)
      | (go_at_call 31; refine H3.out.mono ?_; rintro e w3 ⟨rfl, hw3⟩; have hw3' := hw3.symm; subst hw3'; clear hw3)
      | (go_at_call 30; have hq := HQ1.out; refine H2.out.mono ?_; rintro e w2 ⟨rfl, hw2⟩; have hw2' := hw2.symm; subst hw2'; clear hw2 hq)
      | (go_at_call 30; (fail_if_success (have hq := HQ1.out)); refine H1.out.mono ?_; rintro e w1 ⟨rfl, hw1⟩; have hw1' := hw1.symm; subst hw1'; clear hw1; have HQ1 : Hid True := hid0 trivial)
      | fail)
      go_ret
      exact ⟨by rw [HV.out]; rfl, HB4.out⟩
end Go.Proofs.YtlkgghbdgjomkaaDoor
namespace Go.Proofs.YtlkgghbdgjomkaaDoor
open Go.RowKit Go.Shelf
instance inID : DecidablePred inI := fun c => inferInstanceAs (Decidable ((Lit.int .i64 c).wf = true))
/-- Positions that are known. -/
def kLe : List (List Int) := [[1], [2]]
def kFo : List (List Int) := [[1], [1]]
theorem k_chk : chkP kLe kFo [0] [0, 1] 3 = none := by decide
theorem k_m1 : matM kLe kFo [0] [0, 1] false [1, 2, 2] = true := by decide
theorem k_m2 : matM kLe kFo [0] [0, 1] false [1] = true := by decide
theorem k_m3 : matM kLe kFo [0] [0, 1] false [2] = false := by decide
theorem k_m4 : matM kLe kFo [0] [0, 1] false [] = false := by decide
theorem ia_one (W : World) (g : Nat) (x : Int) (h : W.heap[g]? = some (.cells #[.int .i64 x] 3 (0, 0))) : IA W (some ⟨g, 0, none⟩) [x] := ⟨fun k hk => by
  have : k = 0 := by simpa using hk
  subst this
  exact ⟨g, 0, rfl, (Array.getElem?_eq_some_iff.1 h).1, by rw [cell_of_row _ _ _ _ _ _ h]; rfl⟩⟩
theorem ia_two (W : World) (g : Nat) (x y : Int) (h : W.heap[g]? = some (.cells #[.int .i64 x, .int .i64 y] 3 (0, 0))) : IA W (some ⟨g, 0, none⟩) [x, y] := ⟨fun k hk => by
  have : k = 0 ∨ k = 1 := by simp at hk; omega
  rcases this with rfl | rfl
  · exact ⟨g, 0, rfl, (Array.getElem?_eq_some_iff.1 h).1, by rw [cell_of_row _ _ _ _ _ _ h]; rfl⟩
  · exact ⟨g, 0, rfl, (Array.getElem?_eq_some_iff.1 h).1, by rw [cell_of_row _ _ _ _ _ _ h]; rfl⟩⟩
theorem ia_three (W : World) (g : Nat) (x y z : Int) (h : W.heap[g]? = some (.cells #[.int .i64 x, .int .i64 y, .int .i64 z] 3 (0, 0))) : IA W (some ⟨g, 0, none⟩) [x, y, z] := ⟨fun k hk => by
  have : k = 0 ∨ k = 1 ∨ k = 2 := by simp at hk; omega
  rcases this with rfl | rfl | rfl
  · exact ⟨g, 0, rfl, (Array.getElem?_eq_some_iff.1 h).1, by rw [cell_of_row _ _ _ _ _ _ h]; rfl⟩
  · exact ⟨g, 0, rfl, (Array.getElem?_eq_some_iff.1 h).1, by rw [cell_of_row _ _ _ _ _ _ h]; rfl⟩
  · exact ⟨g, 0, rfl, (Array.getElem?_eq_some_iff.1 h).1, by rw [cell_of_row _ _ _ _ _ _ h]; rfl⟩⟩
theorem rwb_two (W : World) (g g1 g2 c1 c2 : Nat) (x y : Int) (h : W.heap[g]? = some (.cells #[.slice (some ⟨g1, 0, none⟩) 1 c1, .slice (some ⟨g2, 0, none⟩) 1 c2] 23 (0, 0))) (h1 : IA W (some ⟨g1, 0, none⟩) [x]) (h2 : IA W (some ⟨g2, 0, none⟩) [y]) (l1 : g1 < W.heap.size) (l2 : g2 < W.heap.size) : RwB W (some ⟨g, 0, none⟩) [[x], [y]] := ⟨fun k hk => by
  have : k = 0 ∨ k = 1 := by simp at hk; omega
  rcases this with rfl | rfl
  · exact ⟨g, 0, rfl, (Array.getElem?_eq_some_iff.1 h).1, some ⟨g1, 0, none⟩, c1, by rw [cell_of_row _ _ _ _ _ _ h]; rfl, h1, fun p hp => by cases hp; exact l1⟩
  · exact ⟨g, 0, rfl, (Array.getElem?_eq_some_iff.1 h).1, some ⟨g2, 0, none⟩, c2, by rw [cell_of_row _ _ _ _ _ _ h]; rfl, h2, fun p hp => by cases hp; exact l2⟩⟩
theorem RwB.rwa {w : World} {a : Option Addr} {L : List (List Int)} (h : RwB w a L) : RwA w a L := ⟨fun k hk => by
  obtain ⟨b, off, e, h1, a1, c1, h2, h3, _⟩ := h.at' k hk
  exact ⟨b, off, e, h1, a1, c1, h2, h3⟩⟩
theorem nine (w : World) (o0 o1 o2 o3 o4 o5 o6 o7 o8 : Obj) : (((((((((w.alloc o0).alloc o1).alloc o2).alloc o3).alloc o4).alloc o5).alloc o6).alloc o7).alloc o8).heap.size = w.heap.size + 1 + 1 + 1 + 1 + 1 + 1 + 1 + 1 + 1 ∧ (((((((((w.alloc o0).alloc o1).alloc o2).alloc o3).alloc o4).alloc o5).alloc o6).alloc o7).alloc o8).heap[w.heap.size]? = some o0 ∧ (((((((((w.alloc o0).alloc o1).alloc o2).alloc o3).alloc o4).alloc o5).alloc o6).alloc o7).alloc o8).heap[w.heap.size + 1]? = some o1 ∧ (((((((((w.alloc o0).alloc o1).alloc o2).alloc o3).alloc o4).alloc o5).alloc o6).alloc o7).alloc o8).heap[w.heap.size + 1 + 1]? = some o2 ∧ (((((((((w.alloc o0).alloc o1).alloc o2).alloc o3).alloc o4).alloc o5).alloc o6).alloc o7).alloc o8).heap[w.heap.size + 1 + 1 + 1]? = some o3 ∧ (((((((((w.alloc o0).alloc o1).alloc o2).alloc o3).alloc o4).alloc o5).alloc o6).alloc o7).alloc o8).heap[w.heap.size + 1 + 1 + 1 + 1]? = some o4 ∧ (((((((((w.alloc o0).alloc o1).alloc o2).alloc o3).alloc o4).alloc o5).alloc o6).alloc o7).alloc o8).heap[w.heap.size + 1 + 1 + 1 + 1 + 1]? = some o5 ∧ (((((((((w.alloc o0).alloc o1).alloc o2).alloc o3).alloc o4).alloc o5).alloc o6).alloc o7).alloc o8).heap[w.heap.size + 1 + 1 + 1 + 1 + 1 + 1]? = some o6 ∧ (((((((((w.alloc o0).alloc o1).alloc o2).alloc o3).alloc o4).alloc o5).alloc o6).alloc o7).alloc o8).heap[w.heap.size + 1 + 1 + 1 + 1 + 1 + 1 + 1]? = some o7 ∧ (((((((((w.alloc o0).alloc o1).alloc o2).alloc o3).alloc o4).alloc o5).alloc o6).alloc o7).alloc o8).heap[w.heap.size + 1 + 1 + 1 + 1 + 1 + 1 + 1 + 1]? = some o8 := by
  have n0 := heap_alloc_new w o0
  have n1 := heap_alloc_new (w.alloc o0) o1
  have n2 := heap_alloc_new ((w.alloc o0).alloc o1) o2
  have n3 := heap_alloc_new (((w.alloc o0).alloc o1).alloc o2) o3
  have n4 := heap_alloc_new ((((w.alloc o0).alloc o1).alloc o2).alloc o3) o4
  have n5 := heap_alloc_new (((((w.alloc o0).alloc o1).alloc o2).alloc o3).alloc o4) o5
  have n6 := heap_alloc_new ((((((w.alloc o0).alloc o1).alloc o2).alloc o3).alloc o4).alloc o5) o6
  have n7 := heap_alloc_new (((((((w.alloc o0).alloc o1).alloc o2).alloc o3).alloc o4).alloc o5).alloc o6) o7
  have n8 := heap_alloc_new ((((((((w.alloc o0).alloc o1).alloc o2).alloc o3).alloc o4).alloc o5).alloc o6).alloc o7) o8
  simp only [World.size_alloc] at n1 n2 n3 n4 n5 n6 n7 n8
  refine ⟨by simp only [World.size_alloc], ?_, ?_, ?_, ?_, ?_, ?_, ?_, ?_, ?_⟩
  · rw [Below.heap_alloc _ _ _ (by simp only [World.size_alloc]; omega), Below.heap_alloc _ _ _ (by simp only [World.size_alloc]; omega), Below.heap_alloc _ _ _ (by simp only [World.size_alloc]; omega), Below.heap_alloc _ _ _ (by simp only [World.size_alloc]; omega), Below.heap_alloc _ _ _ (by simp only [World.size_alloc]; omega), Below.heap_alloc _ _ _ (by simp only [World.size_alloc]; omega), Below.heap_alloc _ _ _ (by simp only [World.size_alloc]; omega), Below.heap_alloc _ _ _ (by simp only [World.size_alloc]; omega)]; exact n0
  · rw [Below.heap_alloc _ _ _ (by simp only [World.size_alloc]; omega), Below.heap_alloc _ _ _ (by simp only [World.size_alloc]; omega), Below.heap_alloc _ _ _ (by simp only [World.size_alloc]; omega), Below.heap_alloc _ _ _ (by simp only [World.size_alloc]; omega), Below.heap_alloc _ _ _ (by simp only [World.size_alloc]; omega), Below.heap_alloc _ _ _ (by simp only [World.size_alloc]; omega), Below.heap_alloc _ _ _ (by simp only [World.size_alloc]; omega)]; exact n1
  · rw [Below.heap_alloc _ _ _ (by simp only [World.size_alloc]; omega), Below.heap_alloc _ _ _ (by simp only [World.size_alloc]; omega), Below.heap_alloc _ _ _ (by simp only [World.size_alloc]; omega), Below.heap_alloc _ _ _ (by simp only [World.size_alloc]; omega), Below.heap_alloc _ _ _ (by simp only [World.size_alloc]; omega), Below.heap_alloc _ _ _ (by simp only [World.size_alloc]; omega)]; exact n2
  · rw [Below.heap_alloc _ _ _ (by simp only [World.size_alloc]; omega), Below.heap_alloc _ _ _ (by simp only [World.size_alloc]; omega), Below.heap_alloc _ _ _ (by simp only [World.size_alloc]; omega), Below.heap_alloc _ _ _ (by simp only [World.size_alloc]; omega), Below.heap_alloc _ _ _ (by simp only [World.size_alloc]; omega)]; exact n3
  · rw [Below.heap_alloc _ _ _ (by simp only [World.size_alloc]; omega), Below.heap_alloc _ _ _ (by simp only [World.size_alloc]; omega), Below.heap_alloc _ _ _ (by simp only [World.size_alloc]; omega), Below.heap_alloc _ _ _ (by simp only [World.size_alloc]; omega)]; exact n4
  · rw [Below.heap_alloc _ _ _ (by simp only [World.size_alloc]; omega), Below.heap_alloc _ _ _ (by simp only [World.size_alloc]; omega), Below.heap_alloc _ _ _ (by simp only [World.size_alloc]; omega)]; exact n5
  · rw [Below.heap_alloc _ _ _ (by simp only [World.size_alloc]; omega), Below.heap_alloc _ _ _ (by simp only [World.size_alloc]; omega)]; exact n6
  · rw [Below.heap_alloc _ _ _ (by simp only [World.size_alloc]; omega)]; exact n7
  · exact n8
set_option maxRecDepth 10000 in
set_option maxHeartbeats 1600000 in
theorem first_any (A : Nat → Addr) (w : World) (he : EnvT w A) :
    Calls Tryd.prog 9 #[] w fun e w' => e = .returned (.bool true) ∧ Below w.heap.size w w' := by
  obtain ⟨w9, h9⟩ : ∃ w9, w9 = (((((((((w.alloc (.cells #[.int .i64 1] 3)).alloc (.cells #[.int .i64 2] 3)).alloc (.cells #[.slice (some ⟨w.heap.size, 0, none⟩) 1 1, .slice (some ⟨w.heap.size + 1, 0, none⟩) 1 1] 23)).alloc (.cells #[.int .i64 0] 3)).alloc (.cells #[.int .i64 0, .int .i64 1] 3)).alloc (.cells #[.int .i64 1] 3)).alloc (.cells #[.int .i64 1] 3)).alloc (.cells #[.slice (some ⟨w.heap.size + 1 + 1 + 1 + 1 + 1, 0, none⟩) 1 1, .slice (some ⟨w.heap.size + 1 + 1 + 1 + 1 + 1 + 1, 0, none⟩) 1 1] 23)).alloc (.cells #[.slice (some ⟨w.heap.size + 1 + 1, 0, none⟩) 2 2, .slice (some ⟨w.heap.size + 1 + 1 + 1, 0, none⟩) 1 1, .slice (some ⟨w.heap.size + 1 + 1 + 1 + 1, 0, none⟩) 2 2, .slice (some ⟨w.heap.size + 1 + 1 + 1 + 1 + 1 + 1 + 1, 0, none⟩) 2 2, .bool false] 25)) := ⟨_, rfl⟩
  have hn := nine w (.cells #[.int .i64 1] 3) (.cells #[.int .i64 2] 3) (.cells #[.slice (some ⟨w.heap.size, 0, none⟩) 1 1, .slice (some ⟨w.heap.size + 1, 0, none⟩) 1 1] 23) (.cells #[.int .i64 0] 3) (.cells #[.int .i64 0, .int .i64 1] 3) (.cells #[.int .i64 1] 3) (.cells #[.int .i64 1] 3) (.cells #[.slice (some ⟨w.heap.size + 1 + 1 + 1 + 1 + 1, 0, none⟩) 1 1, .slice (some ⟨w.heap.size + 1 + 1 + 1 + 1 + 1 + 1, 0, none⟩) 1 1] 23) (.cells #[.slice (some ⟨w.heap.size + 1 + 1, 0, none⟩) 2 2, .slice (some ⟨w.heap.size + 1 + 1 + 1, 0, none⟩) 1 1, .slice (some ⟨w.heap.size + 1 + 1 + 1 + 1, 0, none⟩) 2 2, .slice (some ⟨w.heap.size + 1 + 1 + 1 + 1 + 1 + 1 + 1, 0, none⟩) 2 2, .bool false] 25)
  rw [← h9] at hn
  obtain ⟨hs, h0, h1, h2, h3, h4, h5, h6, h7, h8⟩ := hn
  have hb9 : Below w.heap.size w w9 := by
    rw [h9]
    exact ((((((((((Below.refl w.heap.size w).alloc (Nat.le_refl _) _).alloc (by simp) _).alloc (by simp; omega) _).alloc (by simp; omega) _).alloc (by simp; omega) _).alloc (by simp; omega) _).alloc (by simp; omega) _).alloc (by simp; omega) _).alloc (by simp; omega) _)
  have rL : RwB w9 (some ⟨w.heap.size + 1 + 1, 0, none⟩) kLe := rwb_two w9 _ _ _ 1 1 1 2 h2 (ia_one w9 _ 1 h0) (ia_one w9 _ 2 h1) (by omega) (by omega)
  have rO : RwB w9 (some ⟨w.heap.size + 1 + 1 + 1 + 1 + 1 + 1 + 1, 0, none⟩) kFo := rwb_two w9 _ _ _ 1 1 1 1 h7 (ia_one w9 _ 1 h5) (ia_one w9 _ 1 h6) (by omega) (by omega)
  have hp : PosA w9 (some ⟨w.heap.size + 1 + 1, 0, none⟩) (some ⟨w.heap.size + 1 + 1 + 1, 0, none⟩) (some ⟨w.heap.size + 1 + 1 + 1 + 1, 0, none⟩) (some ⟨w.heap.size + 1 + 1 + 1 + 1 + 1 + 1 + 1, 0, none⟩) kLe kFo [0] [0, 1] := ⟨rL.rwa, ia_one w9 _ 0 h3, ia_two w9 _ 0 1 h4, rO.rwa, by decide, by decide, by decide, by decide, by decide, by decide⟩
  have hi : ∀ r ∈ kLe, ∀ z ∈ r, inI z := by decide
  have HC5 : Hid (∀ V, Below w9.heap.size w9 V → V.cell? ⟨w.heap.size + 1 + 1 + 1 + 1 + 1 + 1 + 1 + 1, 0, none⟩ = some (.slice (some ⟨w.heap.size + 1 + 1, 0, none⟩) 2 2) ∧ V.cell? ⟨w.heap.size + 1 + 1 + 1 + 1 + 1 + 1 + 1 + 1, 1, none⟩ = some (.slice (some ⟨w.heap.size + 1 + 1 + 1, 0, none⟩) 1 1) ∧ V.cell? ⟨w.heap.size + 1 + 1 + 1 + 1 + 1 + 1 + 1 + 1, 2, none⟩ = some (.slice (some ⟨w.heap.size + 1 + 1 + 1 + 1, 0, none⟩) 2 2) ∧ V.cell? ⟨w.heap.size + 1 + 1 + 1 + 1 + 1 + 1 + 1 + 1, 3, none⟩ = some (.slice (some ⟨w.heap.size + 1 + 1 + 1 + 1 + 1 + 1 + 1, 0, none⟩) 2 2) ∧ V.cell? ⟨w.heap.size + 1 + 1 + 1 + 1 + 1 + 1 + 1 + 1, 4, none⟩ = some (.bool false)) := hid0 (fun V hV => row5 ((hV.block _ (by omega)).trans h8))
  have HE : Hid (∀ V, Below w9.heap.size w9 V → EnvT V A) := hid0 (fun V hV => he.past (Below.later hb9 hV))
  have HCk : Hid (∀ V, Below w9.heap.size w9 V → Calls Tryd.prog 10 #[.agg #[.slice (some ⟨w.heap.size + 1 + 1, 0, none⟩) 2 2, .slice (some ⟨w.heap.size + 1 + 1 + 1, 0, none⟩) 1 1, .slice (some ⟨w.heap.size + 1 + 1 + 1 + 1, 0, none⟩) 2 2, .slice (some ⟨w.heap.size + 1 + 1 + 1 + 1 + 1 + 1 + 1, 0, none⟩) 2 2, .bool false], .int .i64 3] V fun e w' => e = .returned .nilIface ∧ Below V.heap.size V w') := hid0 (fun V hV => by
    have hc := check_two A 3 (some ⟨w.heap.size + 1 + 1, 0, none⟩) (some ⟨w.heap.size + 1 + 1 + 1, 0, none⟩) (some ⟨w.heap.size + 1 + 1 + 1 + 1, 0, none⟩) (some ⟨w.heap.size + 1 + 1 + 1 + 1 + 1 + 1 + 1, 0, none⟩) 2 1 2 2 kLe kFo [0] [0, 1] false V (hp.past hV) (by decide) (HE.out V hV).sen
    rw [k_chk] at hc
    exact hc)
  have HMt : Hid (∀ (V : World) (aW : Option Addr) (cW : Nat) (Wd : List Int), Below w9.heap.size w9 V → IA V aW Wd → Wd.length ≤ 4000000 → (∀ z ∈ Wd, inI z) → Calls Tryd.prog 11 #[.agg #[.slice (some ⟨w.heap.size + 1 + 1, 0, none⟩) 2 2, .slice (some ⟨w.heap.size + 1 + 1 + 1, 0, none⟩) 1 1, .slice (some ⟨w.heap.size + 1 + 1 + 1 + 1, 0, none⟩) 2 2, .slice (some ⟨w.heap.size + 1 + 1 + 1 + 1 + 1 + 1 + 1, 0, none⟩) 2 2, .bool false], .slice aW Wd.length cW] V fun e w' => e = .returned (.bool (matM kLe kFo [0] [0, 1] false Wd)) ∧ Below V.heap.size V w') := hid0 (fun V aW cW Wd hV h1 h2 h3 =>
    match_any (some ⟨w.heap.size + 1 + 1, 0, none⟩) (some ⟨w.heap.size + 1 + 1 + 1, 0, none⟩) (some ⟨w.heap.size + 1 + 1 + 1 + 1, 0, none⟩) (some ⟨w.heap.size + 1 + 1 + 1 + 1 + 1 + 1 + 1, 0, none⟩) aW 2 1 2 2 cW kLe kFo [0] [0, 1] Wd false V (hp.past hV) h1 h2 (rO.past hV) (fun p hp => by cases hp; have := hV.size; show w.heap.size + 1 + 1 + 1 < _; omega) hi h3 (HE.out V hV).tab (HE.out V hV).tl)
  have hA1 : ∀ (V : World) (o : Obj), Below V.heap.size V (V.alloc o) := fun V o => (Below.refl _ _).alloc (Nat.le_refl _) _
  have HM1 : Hid (∀ V, Below w9.heap.size w9 V → Calls Tryd.prog 11 #[.agg #[.slice (some ⟨w.heap.size + 1 + 1, 0, none⟩) 2 2, .slice (some ⟨w.heap.size + 1 + 1 + 1, 0, none⟩) 1 1, .slice (some ⟨w.heap.size + 1 + 1 + 1 + 1, 0, none⟩) 2 2, .slice (some ⟨w.heap.size + 1 + 1 + 1 + 1 + 1 + 1 + 1, 0, none⟩) 2 2, .bool false], .slice (some ⟨V.heap.size, 0, none⟩) 3 3] (V.alloc (.cells #[.int .i64 1, .int .i64 2, .int .i64 2] 3)) fun e w' => e = .returned (.bool true) ∧ Below w9.heap.size w9 w') := hid0 (fun V hV => by
    have hV2 := Below.later hV (hA1 V (.cells #[.int .i64 1, .int .i64 2, .int .i64 2] 3))
    have h := HMt.out _ (some ⟨V.heap.size, 0, none⟩) 3 [1, 2, 2] hV2 (ia_three _ _ 1 2 2 (heap_alloc_new V _)) (by decide) (by decide)
    rw [k_m1] at h
    exact h.mono (fun e w' h => ⟨h.1, Below.later hV2 h.2⟩))
  have HM2 : Hid (∀ V, Below w9.heap.size w9 V → Calls Tryd.prog 11 #[.agg #[.slice (some ⟨w.heap.size + 1 + 1, 0, none⟩) 2 2, .slice (some ⟨w.heap.size + 1 + 1 + 1, 0, none⟩) 1 1, .slice (some ⟨w.heap.size + 1 + 1 + 1 + 1, 0, none⟩) 2 2, .slice (some ⟨w.heap.size + 1 + 1 + 1 + 1 + 1 + 1 + 1, 0, none⟩) 2 2, .bool false], .slice (some ⟨V.heap.size, 0, none⟩) 1 1] (V.alloc (.cells #[.int .i64 1] 3)) fun e w' => e = .returned (.bool true) ∧ Below w9.heap.size w9 w') := hid0 (fun V hV => by
    have hV2 := Below.later hV (hA1 V (.cells #[.int .i64 1] 3))
    have h := HMt.out _ (some ⟨V.heap.size, 0, none⟩) 1 [1] hV2 (ia_one _ _ 1 (heap_alloc_new V _)) (by decide) (by decide)
    rw [k_m2] at h
    exact h.mono (fun e w' h => ⟨h.1, Below.later hV2 h.2⟩))
  have HM3 : Hid (∀ V, Below w9.heap.size w9 V → Calls Tryd.prog 11 #[.agg #[.slice (some ⟨w.heap.size + 1 + 1, 0, none⟩) 2 2, .slice (some ⟨w.heap.size + 1 + 1 + 1, 0, none⟩) 1 1, .slice (some ⟨w.heap.size + 1 + 1 + 1 + 1, 0, none⟩) 2 2, .slice (some ⟨w.heap.size + 1 + 1 + 1 + 1 + 1 + 1 + 1, 0, none⟩) 2 2, .bool false], .slice (some ⟨V.heap.size, 0, none⟩) 1 1] (V.alloc (.cells #[.int .i64 2] 3)) fun e w' => e = .returned (.bool false) ∧ Below w9.heap.size w9 w') := hid0 (fun V hV => by
    have hV2 := Below.later hV (hA1 V (.cells #[.int .i64 2] 3))
    have h := HMt.out _ (some ⟨V.heap.size, 0, none⟩) 1 [2] hV2 (ia_one _ _ 2 (heap_alloc_new V _)) (by decide) (by decide)
    rw [k_m3] at h
    exact h.mono (fun e w' h => ⟨h.1, Below.later hV2 h.2⟩))
  have HM4 : Hid (∀ V, Below w9.heap.size w9 V → Calls Tryd.prog 11 #[.agg #[.slice (some ⟨w.heap.size + 1 + 1, 0, none⟩) 2 2, .slice (some ⟨w.heap.size + 1 + 1 + 1, 0, none⟩) 1 1, .slice (some ⟨w.heap.size + 1 + 1 + 1 + 1, 0, none⟩) 2 2, .slice (some ⟨w.heap.size + 1 + 1 + 1 + 1 + 1 + 1 + 1, 0, none⟩) 2 2, .bool false], .slice none 0 0] V fun e w' => e = .returned (.bool false) ∧ Below w9.heap.size w9 w') := hid0 (fun V hV => by
    have h := HMt.out V none 0 [] hV ⟨fun k hk => absurd hk (Nat.not_lt_zero _)⟩ (by decide) (by decide)
    rw [k_m4] at h
    exact h.mono (fun e w' h => ⟨h.1, Below.later hV h.2⟩))
  have HB9 := hid0 hb9
  have HS9 := hid0 hs
  clear HMt h0 h1 h2 h3 h4 h5 h6 h7 h8 hb9 rL rO hp hi hs he
  go_enter Tryd.func9, Tryd.ntmps9
  go_upto_region 2 with fail
  rw [← h9]
  obtain ⟨c0, c1, c2, c3, c4⟩ := HC5.out w9 (Below.refl _ _)
  clear h9
  go_wp2_with (first
    | (go_at_call 10; go_loud ((
        refine (HCk.out w9 (Below.refl _ _)).mono ?_
        rintro e w10 ⟨rfl, h⟩
        have HT10 := hid0 h
        clear h c0 c1 c2 c3 c4
        obtain ⟨c0, c1, c2, c3, c4⟩ := HC5.out w10 HT10.out)))
    | (go_at_call 11; go_loud ((first
        | (refine (HM1.out w10 HT10.out).mono ?_; clear HM1; rintro e w11 ⟨rfl, h⟩; have HT11 := hid0 h; clear h c0 c1 c2 c3 c4; obtain ⟨c0, c1, c2, c3, c4⟩ := HC5.out w11 HT11.out)
        | (refine (HM2.out w11 HT11.out).mono ?_; clear HM2; rintro e w12 ⟨rfl, h⟩; have HT12 := hid0 h; clear h c0 c1 c2 c3 c4; obtain ⟨c0, c1, c2, c3, c4⟩ := HC5.out w12 HT12.out)
        | (refine (HM3.out w12 HT12.out).mono ?_; clear HM3; rintro e w13 ⟨rfl, h⟩; have HT13 := hid0 h; clear h c0 c1 c2 c3 c4; obtain ⟨c0, c1, c2, c3, c4⟩ := HC5.out w13 HT13.out)
        | (refine (HM4.out w13 HT13.out).mono ?_; clear HM4; rintro e w14 ⟨rfl, h⟩; have HT14 := hid0 h; clear h c0 c1 c2 c3 c4; obtain ⟨c0, c1, c2, c3, c4⟩ := HC5.out w14 HT14.out))))
    | fail)
  go_ret
  exact ⟨rfl, Below.later HB9.out HT14.out⟩
end Go.Proofs.YtlkgghbdgjomkaaDoor
namespace Go.Proofs.YtlkgghbdgjomkaaDoor
open Go.RowKit Go.Shelf
set_option maxRecDepth 10000 in
set_option maxHeartbeats 3200000 in
theorem reverse_two (aL aF aA aO : Option Addr) (cL cF cA cO : Nat) (Le Fo : List (List Int)) (Fi La : List Int) (em : Bool) (w : World) (hp : PosA w aL aF aA aO Le Fo Fi La) :
    Calls Tryd.prog 7 #[posV aL aF aA aO cL cF cA cO Le Fo Fi La em] w fun r w' => RevB w (revP Le Fo Fi La em) r w' := by
  unfold posV
  obtain ⟨wa, hwa⟩ : ∃ wa, wa = w.alloc (.cells #[.slice aL Le.length cL, .slice aF Fi.length cF, .slice aA La.length cA, .slice aO Fo.length cO, .bool em] 25) := ⟨_, rfl⟩
  obtain ⟨w0, hw0⟩ : ∃ w0, w0 = wa.alloc (.cells #[.slice none 0 0, .slice none 0 0, .slice none 0 0, .slice none 0 0, .bool false] 25) := ⟨_, rfl⟩
  have hsa : wa.heap.size = w.heap.size + 1 := by rw [hwa]; simp
  have hs0 : w0.heap.size = w.heap.size + 1 + 1 := by rw [hw0]; simp [hsa]
  have hBa : Below w.heap.size w wa := by rw [hwa]; exact (Below.refl _ _).alloc (Nat.le_refl _) _
  have hBb : Below wa.heap.size wa w0 := by rw [hw0]; exact (Below.refl _ _).alloc (Nat.le_refl _) _
  have hB0 : Below w.heap.size w w0 := Below.later hBa hBb
  have hXa : wa.heap[w.heap.size]? = some (.cells #[.slice aL Le.length cL, .slice aF Fi.length cF, .slice aA La.length cA, .slice aO Fo.length cO, .bool em] 25 (0, 0)) := by rw [hwa]; exact heap_alloc_new w _
  have hX0 : w0.heap[w.heap.size]? = some (.cells #[.slice aL Le.length cL, .slice aF Fi.length cF, .slice aA La.length cA, .slice aO Fo.length cO, .bool em] 25 (0, 0)) := (hBb.block _ (by omega)).trans hXa
  have hY0 : w0.heap[w.heap.size + 1]? = some (.cells #[.slice none 0 0, .slice none 0 0, .slice none 0 0, .slice none 0 0, .bool false] 25 (0, 0)) := by rw [hw0, ← hsa]; exact heap_alloc_new wa _
  have HB0 := hid0 hB0
  have HX0 := hid0 hX0
  have HY0 := hid0 hY0
  have HS0 := hid0 hs0
  have hp0 := hp.past hB0
  obtain ⟨x0, x1, x2, x3, x4⟩ := row5 hX0
  obtain ⟨y0, y1, y2, y3, y4⟩ := row5 hY0
  obtain ⟨f0, f1, f2, f3, f4⟩ := frz5 hY0
  have HXX : Hid (∀ V, Below w0.heap.size w0 V → V.cell? ⟨w.heap.size, 0, none⟩ = some (.slice aL Le.length cL) ∧ V.cell? ⟨w.heap.size, 1, none⟩ = some (.slice aF Fi.length cF) ∧ V.cell? ⟨w.heap.size, 2, none⟩ = some (.slice aA La.length cA) ∧ V.cell? ⟨w.heap.size, 3, none⟩ = some (.slice aO Fo.length cO) ∧ V.cell? ⟨w.heap.size, 4, none⟩ = some (.bool em)) := hid0 (fun V hV => row5 ((hV.block _ (by omega)).trans hX0))
  have HPR := hid0 (placesRise_any aL aF aA aO cL cF cA cO Le Fo Fi La em w0 hp0)
  unfold posV at HPR
  have H1 := hid0 (fun V (hV : Below w0.heap.size w0 V) => copied_any Le aL cL V (by have := hp.l1; omega) (fun r hr => by have := hp.r1 r hr; omega) (hp0.le.past hV))
  have H2 := hid0 (fun V (hV : Below w0.heap.size w0 V) => copyOf_any La aA cA V (by have := hp.l3; omega) (hp0.la.past hV))
  have H3 := hid0 (fun V (hV : Below w0.heap.size w0 V) => copyOf_any Fi aF cF V (by have := hp.l2; omega) (hp0.fi.past hV))
  have H4 := hid0 (fun V (hV : Below w0.heap.size w0 V) hin => turned_any Fo aO cO V hp.l4 hp.r4 hin (hp0.fo.past hV))
  have hfa := hwa.symm
  have hfold := hw0.symm
  clear hwa hw0 hp hp0 hB0 hBa hBb hXa hX0 hY0 hs0 hsa
  subst hfa
  by_cases h6 : (Fo.length : Int) = (Le.length : Int)
  case neg =>
    have h6n : ¬ Fo.length = Le.length := by omega
    have h6b : ((Fo.length : Int) != (Le.length : Int)) = true := by simp; omega
    have h6c : (Fo.length != Le.length) = true := by simp; omega
    have HV : Hid (revP Le Fo Fi La em = ⟨[], [], [], [], false⟩) := hid0 (by unfold revP; rw [decide_eq_false h6n]; rfl)
    have HRR : Hid (∀ V, V = set5 w0 (w.heap.size + 1) (.slice none 0 0) (.slice none 0 0) (.slice none 0 0) (.slice none 0 0) (.bool false) → RevB w (revP Le Fo Fi La em) (.returned (.agg #[.slice none 0 0, .slice none 0 0, .slice none 0 0, .slice none 0 0, .bool false])) V) := hid0 (fun V hV => by rw [HV.out, hV]; exact RevB.zero (set5_below HB0.out (by omega) _ _ _ _ _))
    obtain ⟨V5, hV5⟩ : ∃ V5, V5 = set5 w0 (w.heap.size + 1) (.slice none 0 0) (.slice none 0 0) (.slice none 0 0) (.slice none 0 0) (.bool false) := ⟨_, rfl⟩
    obtain ⟨k0, k1, k2, k3, k4⟩ := row5 (hV5 ▸ set5_row HY0.out (.slice none 0 0) (.slice none 0 0) (.slice none 0 0) (.slice none 0 0) (.bool false))
    have HR := hid0 (HRR.out V5 hV5)
    unfold set5 at hV5
    have hf5 := hV5.symm
    clear hV5 HRR
    go_enter Tryd.func7, Tryd.ntmps7
    go_wp2
    exact bodyPost_ret (v := .agg #[.slice none 0 0, .slice none 0 0, .slice none 0 0, .slice none 0 0, .bool false]) (by simp [results, Tryd.results7, go_sem, k0, k1, k2, k3, k4]) rfl HR.out
  cases g1 : plRise Le.length Fi La Fo with
  | false =>
    rw [g1] at HPR
    have HV : Hid (revP Le Fo Fi La em = ⟨[], [], [], [], false⟩) := hid0 (by unfold revP; rw [g1, Bool.and_false]; rfl)
    clear g1
    go_enter Tryd.func7, Tryd.ntmps7
    go_upto_region 2 with (go_at_call 25; refine HPR.out.mono ?_; rintro e w1 ⟨rfl, h⟩; have HB1 := hid0 h; clear h)
    have hY1 := (HB1.out.block (w.heap.size + 1) (by have := HS0.out; omega)).trans HY0.out
    clear y0 y1 y2 y3 y4 f0 f1 f2 f3 f4
    obtain ⟨y0, y1, y2, y3, y4⟩ := row5 hY1
    obtain ⟨f0, f1, f2, f3, f4⟩ := frz5 hY1
    obtain ⟨V5, hV5⟩ : ∃ V5, V5 = set5 w1 (w.heap.size + 1) (.slice none 0 0) (.slice none 0 0) (.slice none 0 0) (.slice none 0 0) (.bool false) := ⟨_, rfl⟩
    obtain ⟨k0, k1, k2, k3, k4⟩ := row5 (hV5 ▸ set5_row hY1 (.slice none 0 0) (.slice none 0 0) (.slice none 0 0) (.slice none 0 0) (.bool false))
    have HR : Hid (RevB w (revP Le Fo Fi La em) (.returned (.agg #[.slice none 0 0, .slice none 0 0, .slice none 0 0, .slice none 0 0, .bool false])) V5) := hid0 (by rw [HV.out, hV5]; exact RevB.zero (set5_below (Below.later HB0.out HB1.out) (by omega) _ _ _ _ _))
    unfold set5 at hV5
    have hf5 := hV5.symm
    clear hV5 hY1
    go_wp2
    exact bodyPost_ret (v := .agg #[.slice none 0 0, .slice none 0 0, .slice none 0 0, .slice none 0 0, .bool false]) (by simp [results, Tryd.results7, go_sem, k0, k1, k2, k3, k4]) rfl HR.out
  | true =>
    rw [g1] at HPR
    have HV : Hid (revP Le Fo Fi La em = ⟨Le, La, Fi, turnL Fo, em⟩) := hid0 (by unfold revP; rw [g1, decide_eq_true (by omega)]; rfl)
    have HIn : Hid (∀ r ∈ Fo, ∀ y ∈ r, 0 ≤ y ∧ y < (Fo.length : Int)) := hid0 (fun r hr y hy => by have := plRise_in g1 r hr y hy; omega)
    clear g1
    go_enter Tryd.func7, Tryd.ntmps7
    go_upto_region 3 with (go_at_call 25; refine HPR.out.mono ?_; rintro e w1 ⟨rfl, h⟩; have HB1 := hid0 h; clear h)
    clear x0 x1 x2 x3 x4 y0 y1 y2 y3 y4 f0 f1 f2 f3 f4
    have HD : Hid (Below w0.heap.size w0 w1.drew) := hid0 ⟨HB1.out.os, HB1.out.tape, HB1.out.output, HB1.out.size, HB1.out.block⟩
    refine wp_region_noPanic ?_
    refine wp_region_held_drew (S := (fun V => V.cell? ⟨w.heap.size, 0, none⟩ = some (.slice aL Le.length cL) ∧ V.cell? ⟨w.heap.size, 1, none⟩ = some (.slice aF Fi.length cF) ∧ V.cell? ⟨w.heap.size, 2, none⟩ = some (.slice aA La.length cA) ∧ V.cell? ⟨w.heap.size, 3, none⟩ = some (.slice aO Fo.length cO) ∧ V.cell? ⟨w.heap.size, 4, none⟩ = some (.bool em))) (by kernel_rfl) ?_ (fun hHeld => ?_)
    · exact HXX.out _ HD.out
    refine tkV (i := 0) (d := some 16) (v := ?_) rfl (by kernel_rfl) (by kernel_rfl) (by kernel_rfl) rfl (fun _ _ _ h => h) (by rfl) ?_ (by assumption) ?_
    rotate_left
    · (intro w hSw; (try dsimp only at hSw); (try simp only [List.getElem_toArray, List.getElem_cons_zero]); go_simp; try with_reducible rfl)
    try simp only [Act.put, List.setIfInBounds_toArray, List.set_cons_zero, List.set_cons_succ]
    refine tkV (i := 1) (d := some 17) (v := ?_) rfl (by kernel_rfl) (by kernel_rfl) (by kernel_rfl) rfl (fun _ _ _ h => h) (by rfl) ?_ (by assumption) ?_
    rotate_left
    · (intro w hSw; (try dsimp only at hSw); (try simp only [List.getElem_toArray, List.getElem_cons_zero, List.getElem_cons_succ]); go_simp; try with_reducible rfl)
    try simp only [Act.put, List.setIfInBounds_toArray, List.set_cons_zero, List.set_cons_succ]
    refine tkV (i := 3) (d := some 19) (v := ?_) rfl (by kernel_rfl) (by kernel_rfl) (by kernel_rfl) rfl (fun _ _ _ h => h) (by rfl) ?_ (by assumption) ?_
    rotate_left
    · (intro w hSw; (try dsimp only at hSw); (try simp only [List.getElem_toArray, List.getElem_cons_zero, List.getElem_cons_succ]); go_simp; try with_reducible rfl)
    try simp only [Act.put, List.setIfInBounds_toArray, List.set_cons_zero, List.set_cons_succ]
    refine tkV (i := 4) (d := some 20) (v := ?_) rfl (by kernel_rfl) (by kernel_rfl) (by kernel_rfl) rfl (fun _ _ _ h => h) (by rfl) ?_ (by assumption) ?_
    rotate_left
    · (intro w hSw; (try dsimp only at hSw); (try simp only [List.getElem_toArray, List.getElem_cons_zero, List.getElem_cons_succ]); go_simp; try with_reducible rfl)
    try simp only [Act.put, List.setIfInBounds_toArray, List.set_cons_zero, List.set_cons_succ]
    refine tkV (i := 6) (d := some 22) (v := ?_) rfl (by kernel_rfl) (by kernel_rfl) (by kernel_rfl) rfl (fun _ _ _ h => h) (by rfl) ?_ (by assumption) ?_
    rotate_left
    · (intro w hSw; (try dsimp only at hSw); (try simp only [List.getElem_toArray, List.getElem_cons_zero, List.getElem_cons_succ]); go_simp; try with_reducible rfl)
    try simp only [Act.put, List.setIfInBounds_toArray, List.set_cons_zero, List.set_cons_succ]
    refine tkV (i := 7) (d := some 23) (v := ?_) rfl (by kernel_rfl) (by kernel_rfl) (by kernel_rfl) rfl (fun _ _ _ h => h) (by rfl) ?_ (by assumption) ?_
    rotate_left
    · (intro w hSw; (try dsimp only at hSw); (try simp only [List.getElem_toArray, List.getElem_cons_zero, List.getElem_cons_succ]); go_simp; try with_reducible rfl)
    try simp only [Act.put, List.setIfInBounds_toArray, List.set_cons_zero, List.set_cons_succ]
    refine tkV (i := 9) (d := some 25) (v := ?_) rfl (by kernel_rfl) (by kernel_rfl) (by kernel_rfl) rfl (fun _ _ _ h => h) (by rfl) ?_ (by assumption) ?_
    rotate_left
    · (intro w hSw; (try dsimp only at hSw); (try simp only [List.getElem_toArray, List.getElem_cons_zero, List.getElem_cons_succ]); go_simp; try with_reducible rfl)
    try simp only [Act.put, List.setIfInBounds_toArray, List.set_cons_zero, List.set_cons_succ]
    refine tkV (i := 10) (d := some 26) (v := ?_) rfl (by kernel_rfl) (by kernel_rfl) (by kernel_rfl) rfl (fun _ _ _ h => h) (by rfl) ?_ (by assumption) ?_
    rotate_left
    · (intro w hSw; (try dsimp only at hSw); (try simp only [List.getElem_toArray, List.getElem_cons_zero, List.getElem_cons_succ]); go_simp; try with_reducible rfl)
    try simp only [Act.put, List.setIfInBounds_toArray, List.set_cons_zero, List.set_cons_succ]
    refine tkV (i := 12) (d := some 28) (v := ?_) rfl (by kernel_rfl) (by kernel_rfl) (by kernel_rfl) rfl (fun _ _ _ h => h) (by rfl) ?_ (by assumption) ?_
    rotate_left
    · (intro w hSw; (try dsimp only at hSw); (try simp only [List.getElem_toArray, List.getElem_cons_zero, List.getElem_cons_succ]); go_simp; try with_reducible rfl)
    try simp only [Act.put, List.setIfInBounds_toArray, List.set_cons_zero, List.set_cons_succ]
    refine tkV (i := 13) (d := some 29) (v := ?_) rfl (by kernel_rfl) (by kernel_rfl) (by kernel_rfl) rfl (fun _ _ _ h => h) (by rfl) ?_ (by assumption) ?_
    rotate_left
    · (intro w hSw; (try dsimp only at hSw); (try simp only [List.getElem_toArray, List.getElem_cons_zero, List.getElem_cons_succ]); go_simp; try with_reducible rfl)
    try simp only [Act.put, List.setIfInBounds_toArray, List.set_cons_zero, List.set_cons_succ]
    refine wpAnyH_ready (rs := [2]) (by kernel_rfl) (by simp) (AllReadyH.cons rfl (fun K hK => ?_) AllReadyH.nil)
    try simp only [List.getElem_toArray, List.getElem_cons_zero, List.getElem_cons_succ]
    go_simp
    refine (H1.out w1.drew HD.out).mono ?_
    rintro e v1 ⟨u1, rfl, ps1, hb1, hm1, hl1⟩
    have HS1 := hid0 hl1.size
    have HBv1 := hid0 (Below.later HD.out hl1)
    have HQ1 := hid0 (hb1.lower (lo := w0.heap.size) HD.out.size)
    have HM1 := hid0 hm1
    obtain ⟨bL, dL, rfl, _⟩ := hb1.rwq' hm1 (Nat.le_refl _)
    have hsv1 := HXX.out v1 HBv1.out
    clear hb1 hm1 hl1
    go_wp2_with fail
    refine hK.out _ _ ?_ (fun hHeld2 => ?_)
    · exact hsv1
    clear hK K
    (try simp only [Act.put]); (try simp only [List.setIfInBounds_toArray]); (try simp only [List.set_cons_succ]); (try simp only [List.set_cons_zero])
    refine wpAnyH_ready (rs := [5]) (by kernel_rfl) (by simp) (AllReadyH.cons rfl (fun K hK => ?_) AllReadyH.nil)
    try simp only [List.getElem_toArray, List.getElem_cons_zero, List.getElem_cons_succ]
    go_simp
    refine (H2.out v1 HBv1.out).mono ?_
    rintro e v2 ⟨u2, rfl, ho2, hl2⟩
    have HBv2 := hid0 (Below.later HBv1.out hl2)
    have HBs2 := hid0 hl2
    have HQ2 := hid0 (ho2.lower (lo := w0.heap.size) HBv1.out.size)
    obtain ⟨bF, dF, rfl, _⟩ := ho2.iq
    have hsv2 := HXX.out v2 HBv2.out
    clear ho2 hl2
    go_wp2_with fail
    refine hK.out _ _ ?_ (fun hHeld5 => ?_)
    · exact hsv2
    clear hK K
    (try simp only [Act.put]); (try simp only [List.setIfInBounds_toArray]); (try simp only [List.set_cons_succ]); (try simp only [List.set_cons_zero])
    refine wpAnyH_ready (rs := [8]) (by kernel_rfl) (by simp) (AllReadyH.cons rfl (fun K hK => ?_) AllReadyH.nil)
    try simp only [List.getElem_toArray, List.getElem_cons_zero, List.getElem_cons_succ]
    go_simp
    refine (H3.out v2 HBv2.out).mono ?_
    rintro e v3 ⟨u3, rfl, ho3, hl3⟩
    have HBv3 := hid0 (Below.later HBv2.out hl3)
    have HBs3 := hid0 hl3
    have HQ3 := hid0 (ho3.lower (lo := w0.heap.size) HBv2.out.size)
    obtain ⟨bA, dA, rfl, _⟩ := ho3.iq
    have hsv3 := HXX.out v3 HBv3.out
    clear ho3 hl3
    go_wp2_with fail
    refine hK.out _ _ ?_ (fun hHeld8 => ?_)
    · exact hsv3
    clear hK K
    (try simp only [Act.put]); (try simp only [List.setIfInBounds_toArray]); (try simp only [List.set_cons_succ]); (try simp only [List.set_cons_zero])
    refine wpAnyH_ready (rs := [11]) (by kernel_rfl) (by simp) (AllReadyH.cons rfl (fun K hK => ?_) AllReadyH.nil)
    try simp only [List.getElem_toArray, List.getElem_cons_zero, List.getElem_cons_succ]
    go_simp
    refine (H4.out v3 HBv3.out HIn.out).mono ?_
    rintro e v4 ⟨u4, rfl, ps4, hb4, hm4, hl4⟩
    have HBv4 := hid0 (Below.later HBv3.out hl4)
    have HBs4 := hid0 hl4
    have HQ4 := hid0 (hb4.lower (lo := w0.heap.size) HBv3.out.size)
    have HM4 := hid0 hm4
    obtain ⟨bO, dO, rfl, _⟩ := hb4.rwq' hm4 (Nat.le_refl _)
    have hsv4 := HXX.out v4 HBv4.out
    have hY4 := (HBv4.out.block (w.heap.size + 1) (by have := HS0.out; omega)).trans HY0.out
    obtain ⟨y0, y1, y2, y3, y4⟩ := row5 hY4
    obtain ⟨f0, f1, f2, f3, f4⟩ := frz5 hY4
    have HY4 := hid0 hY4
    clear hb4 hm4 hl4 hY4
    go_wp2_with fail
    refine hK.out _ _ ?_ (fun hHeld11 => ?_)
    · exact hsv4
    clear hK K
    (try simp only [Act.put]); (try simp only [List.setIfInBounds_toArray]); (try simp only [List.set_cons_succ]); (try simp only [List.set_cons_zero])
    refine tkV (i := 14) (d := some 30) (v := ?_) rfl (by kernel_rfl) (by kernel_rfl) (by kernel_rfl) rfl (fun _ _ _ h => h) (by rfl) ?_ (by assumption) ?_
    rotate_left
    · (intro w hSw; (try dsimp only at hSw); (try simp only [List.getElem_toArray, List.getElem_cons_zero, List.getElem_cons_succ]); go_simp; try with_reducible rfl)
    try simp only [Act.put, List.setIfInBounds_toArray, List.set_cons_zero, List.set_cons_succ]
    refine wpAnyH_ready (rs := [15]) (by kernel_rfl) (by simp) (AllReadyH.cons rfl (fun K hK => ?_) AllReadyH.nil)
    try simp only [List.getElem_toArray, List.getElem_cons_zero, List.getElem_cons_succ]
    go_simp
    refine hK.out _ _ ?_ (fun hHeld15 => ?_)
    · exact row5 ((set5_other (X := w.heap.size + 1) (k := w.heap.size) (by omega) (.slice bL Le.length dL) (.slice bF La.length dF) (.slice bA Fi.length dA) (.slice bO (turnL Fo).length dO) (.bool em)).trans ((HBv4.out.block w.heap.size (by have := HS0.out; omega)).trans HX0.out))
    clear hK K
    (try simp only [Act.put]); (try simp only [List.setIfInBounds_toArray]); (try simp only [List.set_cons_succ]); (try simp only [List.set_cons_zero])
    refine wpAnyH_done (by kernel_rfl) ?_ _
    refine NoPanic.normal ?_
    obtain ⟨V5, hV5⟩ : ∃ V5, V5 = set5 v4 (w.heap.size + 1) (.slice bL Le.length dL) (.slice bF La.length dF) (.slice bA Fi.length dA) (.slice bO (turnL Fo).length dO) (.bool em) := ⟨_, rfl⟩
    obtain ⟨k0, k1, k2, k3, k4⟩ := row5 (hV5 ▸ set5_row HY4.out (.slice bL Le.length dL) (.slice bF La.length dF) (.slice bA Fi.length dA) (.slice bO (turnL Fo).length dO) (.bool em))
    have HPQ : Hid (PosQ v4 w0.heap.size bL bF bA bO Le (turnL Fo) La Fi) := hid0 ⟨by obtain ⟨a', c', e', h'⟩ := (HQ1.out.later (Below.later (Below.later HBs2.out HBs3.out) HBs4.out)).rwq' HM1.out (Nat.le_refl _); cases e'; exact h', by obtain ⟨a', c', e', h'⟩ := (HQ2.out.past (Below.later HBs3.out HBs4.out)).iq; cases e'; exact h', by obtain ⟨a', c', e', h'⟩ := (HQ3.out.past HBs4.out).iq; cases e'; exact h', by obtain ⟨a', c', e', h'⟩ := HQ4.out.rwq' HM4.out (Nat.le_refl _); cases e'; exact h'⟩
    have HPK : Hid (RwK v4 w0.heap.size bO (turnL Fo)) := hid0 (HQ4.out.rwk HM4.out)
    have HPF : Hid (∀ q, bF = some q → q.block < v4.heap.size) := hid0 (HQ2.out.past (Below.later HBs3.out HBs4.out)).bd
    have HR : Hid (RevB w (revP Le Fo Fi La em) (.returned (.agg #[.slice bL Le.length dL, .slice bF La.length dF, .slice bA Fi.length dA, .slice bO (turnL Fo).length dO, .bool em])) V5) := hid0 (by
      rw [HV.out, hV5]
      exact ⟨bL, bF, bA, bO, dL, dF, dA, dO, rfl, (set5_keep HPQ.out (by have := HS0.out; omega) (.slice bL Le.length dL) (.slice bF La.length dF) (.slice bA Fi.length dA) (.slice bO (turnL Fo).length dO) (.bool em)).lower (by have := HS0.out; omega), (HPK.out.keep (by rw [set5_size]; exact Nat.le_refl _) (fun k hk _ => set5_other (by have := HS0.out; omega) (.slice bL Le.length dL) (.slice bF La.length dF) (.slice bA Fi.length dA) (.slice bO (turnL Fo).length dO) (.bool em))).lower (by have := HS0.out; omega), (by rw [set5_size]; exact HPF.out), set5_below (Below.later HB0.out HBv4.out) (by omega) (.slice bL Le.length dL) (.slice bF La.length dF) (.slice bA Fi.length dA) (.slice bO (turnL Fo).length dO) (.bool em)⟩)
    unfold set5 at hV5
    rw [← hV5]
    clear hV5
    go_wp2
    exact bodyPost_ret (v := .agg #[.slice bL Le.length dL, .slice bF La.length dF, .slice bA Fi.length dA, .slice bO (turnL Fo).length dO, .bool em]) (by simp [results, Tryd.results7, go_sem, k0, k1, k2, k3, k4]) rfl HR.out
end Go.Proofs.YtlkgghbdgjomkaaDoor
namespace Go.Proofs.YtlkgghbdgjomkaaDoor
open Go.RowKit Go.Shelf
theorem drew_more {w w' : World} {a b : Nat} (h : ∃ m, w' = (w.drewN (a + b)).drewN m) : ∃ n, w' = w.drewN (a + n) := by
  obtain ⟨m, hm⟩ := h
  exact ⟨b + m, by rw [hm, World.drewN_drewN, Nat.add_assoc]⟩
set_option maxRecDepth 10000 in
set_option maxHeartbeats 1600000 in
theorem sameRows (L : List (List Int)) (a b : Option Addr) (ca cb : Nat) (w : World) (hl : L.length ≤ 1000000000) (hr : ∀ r ∈ L, r.length ≤ 1000000000) (ha : RwA w a L) (hb : RwA w b L) :
    Calls Tryd.prog 29 #[.slice a L.length ca, .slice b L.length cb] w fun e w' => e = .returned (.bool true) ∧ ∃ n, w' = w.drewN n := by
  have HA := hid0 ha
  have HB := hid0 hb
  have HR := hid0 hr
  clear ha hb hr
  go_enter Tryd.func29, Tryd.ntmps29
  go_wp2
  go_loopw [5] (fun i wr => ∃ k : Nat, k ≤ L.length ∧ i = .int .i64 (k : Int) ∧ ∃ n, wr = w.drewN n) (fun i _ => L.length - (intOf i).toNat)
  case atStart => exact ⟨0, Nat.zero_le _, rfl, 0, rfl⟩
  case round =>
    obtain ⟨k, hk, rfl, nd, rfl⟩ := hrel
    by_cases hlt : k < L.length
    · obtain ⟨b1, o1, rfl, _, a1, c1, d1, i1⟩ := HA.out.at' k hlt
      obtain ⟨b2, o2, rfl, _, a2, c2, d2, i2⟩ := HB.out.at' k hlt
      have HS := hid0 (fun n => sameI L[k] a1 a2 c1 c2 (w.drewN n) (by have := HR.out _ (List.getElem_mem hlt); omega) ⟨i1.at'⟩ ⟨i2.at'⟩)
      clear i1 i2
      generalize L[k] = s at *
      have hkI : (k : Int) < (L.length : Int) := by omega
      have hkI0 : (0 : Int) ≤ (k : Int) := by omega
      go_wp2
      go_quiet ((go_at_call 15; exact (HS.out _).mono (fun _ _ h => ⟨h.1, drew_more h.2⟩)))
      go_wp2
      go_roundw
      case rel => exact ⟨k + 1, by omega, by go_num, _, rfl⟩
      case measure => simp [intOf]; omega
    · have hkI : ¬ (k : Int) < (L.length : Int) := by omega
      go_wp2
      go_ret
      exact ⟨rfl, nd, rfl⟩
set_option maxRecDepth 10000 in
set_option maxHeartbeats 1600000 in
theorem samePos (aL aF aA aO bL bF bA bO : Option Addr) (cL cF cA cO dL dF dA dO : Nat) (Le Fo : List (List Int)) (Fi La : List Int) (em : Bool) (w : World) (hp : PosA w aL aF aA aO Le Fo Fi La) (hq : PosA w bL bF bA bO Le Fo Fi La) :
    Calls Tryd.prog 8 #[posV aL aF aA aO cL cF cA cO Le Fo Fi La em, posV bL bF bA bO dL dF dA dO Le Fo Fi La em] w fun e w' => e = .returned (.bool true) ∧ Below w.heap.size w w' := by
  unfold posV
  obtain ⟨wa, hwa⟩ : ∃ wa, wa = w.alloc (.cells #[.slice aL Le.length cL, .slice aF Fi.length cF, .slice aA La.length cA, .slice aO Fo.length cO, .bool em] 25) := ⟨_, rfl⟩
  obtain ⟨w0, hw0⟩ : ∃ w0, w0 = wa.alloc (.cells #[.slice bL Le.length dL, .slice bF Fi.length dF, .slice bA La.length dA, .slice bO Fo.length dO, .bool em] 25) := ⟨_, rfl⟩
  have hsa : wa.heap.size = w.heap.size + 1 := by rw [hwa]; simp
  have hBa : Below w.heap.size w wa := by rw [hwa]; exact (Below.refl _ _).alloc (Nat.le_refl _) _
  have hBb : Below wa.heap.size wa w0 := by rw [hw0]; exact (Below.refl _ _).alloc (Nat.le_refl _) _
  have hB0 : Below w.heap.size w w0 := Below.later hBa hBb
  have hXa : wa.heap[w.heap.size]? = some (.cells #[.slice aL Le.length cL, .slice aF Fi.length cF, .slice aA La.length cA, .slice aO Fo.length cO, .bool em] 25 (0, 0)) := by rw [hwa]; exact heap_alloc_new w _
  have hX0 : w0.heap[w.heap.size]? = some (.cells #[.slice aL Le.length cL, .slice aF Fi.length cF, .slice aA La.length cA, .slice aO Fo.length cO, .bool em] 25 (0, 0)) := (hBb.block _ (by omega)).trans hXa
  have hY0 : w0.heap[w.heap.size + 1]? = some (.cells #[.slice bL Le.length dL, .slice bF Fi.length dF, .slice bA La.length dA, .slice bO Fo.length dO, .bool em] 25 (0, 0)) := by rw [hw0, ← hsa]; exact heap_alloc_new wa _
  have HB0 := hid0 hB0
  have hp0 := hp.past hB0
  have hq0 := hq.past hB0
  obtain ⟨x0, x1, x2, x3, x4⟩ := row5 hX0
  obtain ⟨y0, y1, y2, y3, y4⟩ := row5 hY0
  have H1 := hid0 (fun n => sameRows Le aL bL cL dL (w0.drewN n) (by have := hp.l1; omega) (fun r hr => by have := hp.r1 r hr; omega) (hp0.le.drewN n) (hq0.le.drewN n))
  have H2 := hid0 (fun n => sameI Fi aF bF cF dF (w0.drewN n) (by have := hp.l2; omega) ⟨hp0.fi.at'⟩ ⟨hq0.fi.at'⟩)
  have H3 := hid0 (fun n => sameI La aA bA cA dA (w0.drewN n) (by have := hp.l3; omega) ⟨hp0.la.at'⟩ ⟨hq0.la.at'⟩)
  have H4 := hid0 (fun n => sameRows Fo aO bO cO dO (w0.drewN n) (by have := hp.l4; omega) (fun r hr => by have := hp.r4 r hr; omega) (hp0.fo.drewN n) (hq0.fo.drewN n))
  have hfa := hwa.symm
  have hfold := hw0.symm
  clear hwa hw0 hp hq hp0 hq0 hB0 hBa hBb hXa hX0 hY0 hsa
  subst hfa
  have hself : (em == em) = true := by simp
  go_enter Tryd.func8, Tryd.ntmps8
  go_upto_region 2 with (go_at_call 29; refine (H1.out 0).mono ?_; rintro e w1 ⟨rfl, hw1⟩; obtain ⟨n1, rfl⟩ := drew_add hw1; clear hw1)
  go_upto_region 3 with (go_at_call 15; refine (H2.out _).mono ?_; rintro e w2 ⟨rfl, hw2⟩; obtain ⟨n2, rfl⟩ := drew_add hw2; clear hw2)
  go_upto_region 4 with (go_at_call 15; refine (H3.out _).mono ?_; rintro e w3 ⟨rfl, hw3⟩; obtain ⟨n3, rfl⟩ := drew_add hw3; clear hw3)
  go_upto_region 5 with (go_at_call 29; refine (H4.out _).mono ?_; rintro e w4 ⟨rfl, hw4⟩; obtain ⟨n4, rfl⟩ := drew_add hw4; clear hw4)
  go_wp2
  go_ret
  exact ⟨rfl, below_drew' HB0.out _⟩
end Go.Proofs.YtlkgghbdgjomkaaDoor
namespace Go.Proofs.YtlkgghbdgjomkaaDoor
open Go.RowKit Go.Shelf
theorem inI_small {z : Int} (h0 : 0 ≤ z) (h1 : z < 1000) : inI z := by simp [inI, Lit.wf, IntKind.min, IntKind.max, IntKind.bits, IntKind.signed]; omega
theorem Tdy.small {Le Fo : List (List Int)} {Fi La : List Int} (h : Tdy Le Fo Fi La) (em : Bool) : PosS ⟨Le, Fi, La, Fo, em⟩ := by
  have n := h.n
  have f := h.fo
  have r1 := row_small h.fi
  have r2 := row_small h.la
  exact ⟨by show Le.length ≤ _; omega, by show Fi.length ≤ _; omega, by show La.length ≤ _; omega, by show Fo.length ≤ _; omega, fun r hr => by have := row_small (h.le r hr); omega, fun r hr => by have := row_small (h.fol r hr); omega⟩
structure TT (TL TO TR : List (List Int)) (TF TA : List Int) (em : Bool) : Prop where
  s1 : PosS ⟨TL, TF, TA, TO, em⟩
  s2 : PosS ⟨TL, TA, TF, TR, em⟩
  c1 : chkP TL TO TF TA 4 = none
  c2 : chkP TL TR TA TF 4 = none
  r1 : revP TL TO TF TA em = ⟨TL, TA, TF, TR, em⟩
  r2 : revP TL TR TA TF em = ⟨TL, TF, TA, TO, em⟩
  m : ∀ l, matM TL TR TA TF em l.reverse = matM TL TO TF TA em l
  i : ∀ r ∈ TL, ∀ z ∈ r, inI z
theorem tt (Le Fo : List (List Int)) (Fi La : List Int) (em : Bool) {n : Nat} (hn : n ≤ 8) : TT (tdL Le n) (tdO Fo n n) (turnL (tdO Fo n n)) (someL Fi n) (someL La n) em := by
  have h := tdy Le Fo Fi La hn
  exact ⟨h.small em, h.rev.small em, h.chk, h.rev.chk, h.revP em, h.twice em, fun l => h.match em l, fun r hr z hz => by
    have := rise_in r 0 (Int.le_refl _) (h.le r hr) z hz
    exact inI_small this.1 (by omega)⟩
theorem zeroT (W : World) : (W.alloc (.cells #[.slice none 0 0, .slice none 0 0, .slice none 0 0, .slice none 0 0, .bool false] 25)).heap[W.heap.size]? = some (.cells #[.slice none 0 0, .slice none 0 0, .slice none 0 0, .slice none 0 0, .bool false] 25 (0, 0)) := heap_alloc_new W _
theorem rowT {W : World} {X : Nat} {t : TypeId} {a b c d e f g : Value} (h : W.heap[X]? = some (.cells #[a, b, c, d, e, f, g] t (0, 0))) : W.cell? ⟨X, 0, none⟩ = some a ∧ W.cell? ⟨X, 1, none⟩ = some b ∧ W.cell? ⟨X, 2, none⟩ = some c ∧ W.cell? ⟨X, 3, none⟩ = some d ∧ W.cell? ⟨X, 4, none⟩ = some e ∧ W.cell? ⟨X, 5, none⟩ = some f ∧ W.cell? ⟨X, 6, none⟩ = some g :=
  ⟨by rw [cell_of_row _ _ _ _ _ _ h]; rfl, by rw [cell_of_row _ _ _ _ _ _ h]; rfl, by rw [cell_of_row _ _ _ _ _ _ h]; rfl, by rw [cell_of_row _ _ _ _ _ _ h]; rfl, by rw [cell_of_row _ _ _ _ _ _ h]; rfl, by rw [cell_of_row _ _ _ _ _ _ h]; rfl, by rw [cell_of_row _ _ _ _ _ _ h]; rfl⟩
/-- The word that the law makes. -/
def wk (l : List Int) (k : Nat) : List Int := (l.take k).map fun x => (pickN x 4 : Int)
theorem wk_succ (l : List Int) (k : Nat) (h : k < l.length) : wk l (k + 1) = wk l k ++ [(pickN l[k] 4 : Int)] := by
  unfold wk
  rw [List.take_succ_eq_append_getElem h, List.map_append]
  rfl
theorem wk_len (l : List Int) (k : Nat) : (wk l k).length ≤ k := by
  unfold wk
  rw [List.length_map, List.length_take]
  omega
theorem wk_in (l : List Int) (k : Nat) : ∀ z ∈ wk l k, inI z := fun z hz => by
  obtain ⟨x, _, rfl⟩ := List.mem_map.1 hz
  have := pickN_lt x 4 (by omega)
  exact inI_small (by omega) (by omega)
end Go.Proofs.YtlkgghbdgjomkaaDoor
