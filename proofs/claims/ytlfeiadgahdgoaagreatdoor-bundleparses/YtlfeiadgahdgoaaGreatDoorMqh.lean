/-
  BwGW, BwHM, BwIW, BwJW, BxAW, BxBM, UFrM, BxCW, BxDW, BrYW, BrZW, BxEW.
-/
import Derived.Test.YtlfeiadgahdgoaaGreatDoorMqg
import Derived.Deep.RegionHeld
import Derived.Deep.DeepAppendRoom
import Derived.Deep.AppendLies
import Derived.Deep.RegionWith
import Derived.Test.YtlfeiadgahdgoaaGreatDoorMqf
import Derived.Defers
import Derived.Recover
import Derived.Laws.Pointers
namespace Go.Proofs.YtlfeiadgahdgoaaGreatDoor
open Go.RowKit Go.Shelf Go.Lib
theorem step_append_own_at {P : Program} {ops : Array Oper} {o : Oper} {a : Act} {w : World} {K : Act → World → Prop} {Q : Exit → Act → World → Prop} {E : Prop} (hg : o.guard = none) (s x : Operand) (t : TypeId)
    (ho : o.op = .call { callee := .builtin .append, args := #[s, x], argTypes := #[t, t] })
    (base : Nat) (e : TypeId) (i : TypeInfo) (z : Value) (size bytes : Nat) (ht : P.underlying t = some (.slice e)) (hi : P.info? e = some i) (hz : i.zero = some z)
    (hsize : i.size = size) (hby : i.bytes = bytes) (hzs : z.cells.size = size) (hsz : 0 < size)
    (v : Value) (n : Nat) (xs : List Value) (hs : a.eval s = v) (hown : w.ownsRow base e size v n xs)
    (ad : Addr) (m c : Nat) (news : List Value) (hx : a.eval x = .slice (some ad) m c) (hl : news.length = m * size) (hnews : ∀ j u, news[j]? = some u → w.cell? (ad.add j) = some u) (h1 : ∀ u ∈ news, u.oneCell' = true)
    (h63 : n + m ≤ maxLen) (hbytes : (n + m) * bytes ≤ 140737488355328) (hbase : base ≤ w.heap.size)
    (h : ∀ v' w', w'.ownsRow base e size v' (n + m) (xs ++ news) → w.grownBy w' v.ownBlock → (v'.ownBlock = v.ownBlock ∨ v'.ownBlock = some w.heap.size) → K (a.put o.dst v') w') :
    if Region.wanted o (yielded ops a.tmps) = true then Oper.wp P o a w K Q else E := by
  have hw : Region.wanted o (yielded ops a.tmps) = true := by simp [Region.wanted, hg]
  rw [if_pos hw]
  obtain ⟨v', w', hr, h2, h3, _, h5⟩ := run_append_own_at (P := P) w base t o.type e i z size bytes ht hi hz hsize hby hzs hsz v n xs hown ad m c news hl hnews h1 h63 hbytes hbase
  unfold Oper.wp execOp
  simp only [ho, resolve, invoke, builtin, Sem.run_bind, Sem.run_pure, Result.andThen_ok, List.map_toArray, List.map_cons, List.map_nil, hs, hx, hr]
  exact h v' w' h2 h3 h5
set_option maxRecDepth 10000 in
set_option maxHeartbeats 3200000 in
theorem with_edit (lo g cap : Nat) (P : List SecO) (x : SecO) (ad : Bool) (T : ByteArray) (w : World) (hl : P.length ≤ 500) (hel : x.s.ed.length ≤ 20000) (hlo : lo ≤ w.heap.size) (hX : WB w lo (.slice (some ⟨g, 0, none⟩) (P.length + 1) cap) (P ++ [x])) :
    Calls Tryz.prog 30 #[.agg #[.slice (some ⟨g, 0, none⟩) (P.length + 1) cap], .agg #[.int .i64 (if ad then 3 else 4), .string T]] w fun e w' => WthA w lo (secsO P ++ [⟨x.s.loc, x.s.par, x.s.ed ++ [(ad, T)]⟩]) e w' := by
  obtain ⟨w0, hw0, hB0, hs0, hr0, hr1, hr2⟩ := box3 w (.slice (some ⟨g, 0, none⟩) (P.length + 1) cap) (if ad then 3 else 4) T
  obtain ⟨x0, y0⟩ := row1 hr0
  obtain ⟨x1, x2, y1, y2⟩ := row2 hr1
  obtain ⟨x3, y3⟩ := row1 hr2
  have hX1 := hX.later hB0
  have hgl := (World.ownsRow.lt hX.sec g rfl)
  obtain ⟨ae, ce, hev, _⟩ := (hX.ed x (by simp)).ea
  have hlast : w0.cell? ⟨g, P.length * 3 + 2, none⟩ = some (.slice ae x.s.ed.length ce) ∧ w0.frozen? ⟨g, P.length * 3 + 2, none⟩ = false := by
    have h0 := hX1.sec
    have e : (P ++ [x]).length = P.length + 1 := by simp
    rw [e] at h0
    obtain ⟨c0, c1, c2⟩ := cellsO_at (P ++ [x]) P.length (by simp)
    rw [show (P ++ [x])[P.length]'(by simp) = x by simp, hev] at c2
    exact ⟨by rw [World.ownsRow.cellAt h0 _ (by omega)]; exact c2, World.ownsRow.frozenAt h0 _⟩
  obtain ⟨z0, z1⟩ := hlast
  have HX := hid0 hX1
  have HX0 := hid0 hX
  have HB0 := hid0 hB0
  have HR0 := hid0 hr0
  have HR2 := hid0 hr2
  have HR1 := hid0 hr1
  have HS0 := hid0 hs0
  have HEv := hid0 hev
  have hsz : w.heap.size ≤ w0.heap.size := by omega
  have hfold := hw0.symm
  have q0 : ((P.length + 1 : Nat) : Int) - 1 = (P.length : Int) := by omega
  have q1 : (0 : Int) ≤ (P.length : Int) := by omega
  have q2 : (P.length : Int) < (P.length : Int) + 1 := by omega
  have qw : IntKind.i64.wrap (P.length : Int) = (P.length : Int) := by simp [IntKind.wrap, IntKind.bits, IntKind.signed]; omega
  obtain ⟨j0, hj, hy0, hy1, hy2⟩ := info_parts infoEdit
  clear hw0 hB0 hr0 hr1 hr2 hX hX1 hs0 hev
  have hgw : ¬ w.heap.size = g := by omega
  have hgw1 : ¬ w.heap.size + 1 = g := by omega
  have hgw2 : ¬ w.heap.size + 2 = g := by omega
  cases ad
  · skip
    simp only [Bool.false_eq_true, if_false] at x1 hfold HR1 ⊢
    have HSa := hid0 (fun (W : World) (h : ∀ k, w.heap.size ≤ k → k < w.heap.size + 3 → W.heap[k]? = w0.heap[k]?) => And.intro ((row1 ((h _ (by omega) (by omega)).trans HR0.out)).1) (And.intro ((row2 ((h _ (by omega) (by omega)).trans HR1.out)).1) ((row2 ((h _ (by omega) (by omega)).trans HR1.out)).2.1)))
    have z2 : (w0.alloc (.cells #[.bool false, .string T] 40)).cell? ⟨g, P.length * 3 + 2, none⟩ = some (.slice ae x.s.ed.length ce) := (World.cell?_of_block (a := ⟨g, P.length * 3 + 2, none⟩) (Below.heap_alloc w0 _ g (by omega))).trans z0
    go_enter Tryz.func30, Tryz.ntmps30
    go_wp2
    refine wp_region_held_drew (S := (fun W => W.cell? ⟨w.heap.size, 0, none⟩ = some (.slice (some ⟨g, 0, none⟩) (P.length + 1) cap) ∧ W.cell? ⟨w.heap.size + 1, 0, none⟩ = some (.int .i64 4) ∧ W.cell? ⟨w.heap.size + 1, 1, none⟩ = some (.string T))) (by kernel_rfl) ?_ (fun hHeld => ?_)
    · exact HSa.out _ (fun _ _ _ => rfl)
    refine tkV (i := 0) (d := some 34) (v := ?_) rfl (by kernel_rfl) (by kernel_rfl) (by kernel_rfl) rfl (fun _ _ _ h => h) (by rfl) ?_ (by assumption) ?_
    rotate_left
    · (intro w hSw; (try dsimp only at hSw); (try simp only [List.getElem_toArray, List.getElem_cons_zero]); go_simp; try with_reducible rfl)
    simp only [Act.put, List.setIfInBounds_toArray, List.set_cons_zero, List.set_cons_succ]
    refine tkV (i := 1) (d := some 35) (v := ?_) rfl (by kernel_rfl) (by kernel_rfl) (by kernel_rfl) rfl (fun _ _ _ h => h) (by rfl) ?_ (by assumption) ?_
    rotate_left
    · (intro w hSw; (try dsimp only at hSw); (try simp only [List.getElem_toArray, List.getElem_cons_zero, List.getElem_cons_succ]); go_simp; try with_reducible rfl)
    simp only [Act.put, List.setIfInBounds_toArray, List.set_cons_zero, List.set_cons_succ]
    refine tkV (i := 2) (d := some 36) (v := ?_) rfl (by kernel_rfl) (by kernel_rfl) (by kernel_rfl) rfl (fun _ _ _ h => h) (by rfl) ?_ (by assumption) ?_
    rotate_left
    · (intro w hSw; (try dsimp only at hSw); (try simp only [List.getElem_toArray, List.getElem_cons_zero, List.getElem_cons_succ]); go_simp; try with_reducible rfl)
    simp only [Act.put, List.setIfInBounds_toArray, List.set_cons_zero, List.set_cons_succ]
    refine tkV (i := 3) (d := some 37) (v := ?_) rfl (by kernel_rfl) (by kernel_rfl) (by kernel_rfl) rfl (fun _ _ _ h => h) (by rfl) ?_ (by assumption) ?_
    rotate_left
    · (intro w hSw; (try dsimp only at hSw); (try simp only [List.getElem_toArray, List.getElem_cons_zero, List.getElem_cons_succ]); go_simp; try with_reducible rfl)
    simp only [Act.put, List.setIfInBounds_toArray, List.set_cons_zero, List.set_cons_succ]
    refine tkV (i := 4) (d := some 38) (v := ?_) rfl (by kernel_rfl) (by kernel_rfl) (by kernel_rfl) rfl (fun _ _ _ h => h) (by rfl) ?_ (by assumption) ?_
    rotate_left
    · (intro w hSw; (try dsimp only at hSw); (try simp only [List.getElem_toArray, List.getElem_cons_zero, List.getElem_cons_succ]); go_simp; try with_reducible rfl)
    simp only [Act.put, List.setIfInBounds_toArray, List.set_cons_zero, List.set_cons_succ]
    refine tkV (i := 5) (d := some 39) (v := ?_) rfl (by kernel_rfl) (by kernel_rfl) (by kernel_rfl) rfl (fun _ _ _ h => h) (by rfl) ?_ (by assumption) ?_
    rotate_left
    · (intro w hSw; (try dsimp only at hSw); (try simp only [List.getElem_toArray, List.getElem_cons_zero, List.getElem_cons_succ]); go_simp; try with_reducible rfl)
    simp only [Act.put, List.setIfInBounds_toArray, List.set_cons_zero, List.set_cons_succ]
    refine tkV (i := 6) (d := some 40) (v := ?_) rfl (by kernel_rfl) (by kernel_rfl) (by kernel_rfl) rfl (fun _ _ _ h => h) (by rfl) ?_ (by assumption) ?_
    rotate_left
    · (intro w hSw; (try dsimp only at hSw); (try simp only [List.getElem_toArray, List.getElem_cons_zero, List.getElem_cons_succ]); go_simp; try with_reducible rfl)
    simp only [Act.put, List.setIfInBounds_toArray, List.set_cons_zero, List.set_cons_succ]
    refine tkV (i := 7) (d := some 41) (v := ?_) rfl (by kernel_rfl) (by kernel_rfl) (by kernel_rfl) rfl (fun _ _ _ h => h) (by rfl) ?_ (by assumption) ?_
    rotate_left
    · (intro w hSw; (try dsimp only at hSw); (try simp only [List.getElem_toArray, List.getElem_cons_zero, List.getElem_cons_succ]); go_simp; try with_reducible rfl)
    simp only [Act.put, List.setIfInBounds_toArray, List.set_cons_zero, List.set_cons_succ]
    refine tkV (i := 8) (d := some 42) (v := ?_) rfl (by kernel_rfl) (by kernel_rfl) (by kernel_rfl) rfl (fun _ _ _ h => h) (by rfl) ?_ (by assumption) ?_
    rotate_left
    · (intro w hSw; (try dsimp only at hSw); (try simp only [List.getElem_toArray, List.getElem_cons_zero, List.getElem_cons_succ]); go_simp; try with_reducible rfl)
    simp only [Act.put, List.setIfInBounds_toArray, List.set_cons_zero, List.set_cons_succ]
    refine tkV (i := 9) (d := some 43) (v := ?_) rfl (by kernel_rfl) (by kernel_rfl) (by kernel_rfl) rfl (fun _ _ _ h => h) (by rfl) ?_ (by assumption) ?_
    rotate_left
    · (intro w hSw; (try dsimp only at hSw); (try simp only [List.getElem_toArray, List.getElem_cons_zero, List.getElem_cons_succ]); go_simp; try with_reducible rfl)
    simp only [Act.put, List.setIfInBounds_toArray, List.set_cons_zero, List.set_cons_succ]
    refine tkV (i := 11) (d := some 45) (v := ?_) rfl (by kernel_rfl) (by kernel_rfl) (by kernel_rfl) rfl (fun _ _ _ h => h) (by rfl) ?_ (by assumption) ?_
    rotate_left
    · (intro w hSw; (try dsimp only at hSw); (try simp only [List.getElem_toArray, List.getElem_cons_zero, List.getElem_cons_succ]); go_simp; try with_reducible rfl)
    simp only [Act.put, List.setIfInBounds_toArray, List.set_cons_zero, List.set_cons_succ]
    refine tkV (i := 12) (d := some 46) (v := ?_) rfl (by kernel_rfl) (by kernel_rfl) (by kernel_rfl) rfl (fun _ _ _ h => h) (by rfl) ?_ (by assumption) ?_
    rotate_left
    · (intro w hSw; (try dsimp only at hSw); (try simp only [List.getElem_toArray, List.getElem_cons_zero, List.getElem_cons_succ]); go_simp; try with_reducible rfl)
    simp only [Act.put, List.setIfInBounds_toArray, List.set_cons_zero, List.set_cons_succ]
    refine tkV (i := 13) (d := some 47) (v := ?_) rfl (by kernel_rfl) (by kernel_rfl) (by kernel_rfl) rfl (fun _ _ _ h => h) (by rfl) ?_ (by assumption) ?_
    rotate_left
    · (intro w hSw; (try dsimp only at hSw); (try simp only [List.getElem_toArray, List.getElem_cons_zero, List.getElem_cons_succ]); go_simp; try with_reducible rfl)
    simp only [Act.put, List.setIfInBounds_toArray, List.set_cons_zero, List.set_cons_succ]
    refine tkV (i := 14) (d := some 48) (v := ?_) rfl (by kernel_rfl) (by kernel_rfl) (by kernel_rfl) rfl (fun _ _ _ h => h) (by rfl) ?_ (by assumption) ?_
    rotate_left
    · (intro w hSw; (try dsimp only at hSw); (try simp only [List.getElem_toArray, List.getElem_cons_zero, List.getElem_cons_succ]); go_simp; try with_reducible rfl)
    simp only [Act.put, List.setIfInBounds_toArray, List.set_cons_zero, List.set_cons_succ]
    refine tkV (i := 15) (d := some 49) (v := ?_) rfl (by kernel_rfl) (by kernel_rfl) (by kernel_rfl) rfl (fun _ _ _ h => h) (by rfl) ?_ (by assumption) ?_
    rotate_left
    · (intro w hSw; (try dsimp only at hSw); (try simp only [List.getElem_toArray, List.getElem_cons_zero, List.getElem_cons_succ]); go_simp; try with_reducible rfl)
    simp only [Act.put, List.setIfInBounds_toArray, List.set_cons_zero, List.set_cons_succ]
    refine tkV (i := 16) (d := some 50) (v := ?_) rfl (by kernel_rfl) (by kernel_rfl) (by kernel_rfl) rfl (fun _ _ _ h => h) (by rfl) ?_ (by assumption) ?_
    rotate_left
    · (intro w hSw; (try dsimp only at hSw); (try simp only [List.getElem_toArray, List.getElem_cons_zero, List.getElem_cons_succ]); go_simp; try with_reducible rfl)
    simp only [Act.put, List.setIfInBounds_toArray, List.set_cons_zero, List.set_cons_succ]
    refine wpAnyH_ready (rs := [10, 17]) (by kernel_rfl) (by simp) (AllReadyH.cons rfl (fun K hK => ?_) (AllReadyH.cons rfl (fun K hK => ?_) AllReadyH.nil))
    · skip
      (try simp only [List.getElem_toArray, List.getElem_cons_zero, List.getElem_cons_succ])
      go_simp
      refine hK.out _ _ (by assumption) (fun hHeldB => ?_)
      clear hK K
      (try simp only [Act.put, List.setIfInBounds_toArray, List.set_cons_zero, List.set_cons_succ])
      refine wpAnyH_ready (rs := [17]) (by kernel_rfl) (by simp) (AllReadyH.cons rfl (fun K hK => ?_) AllReadyH.nil)
      (try simp only [List.getElem_toArray, List.getElem_cons_zero, List.getElem_cons_succ])
      go_simp
      refine hK.out _ _ (HSa.out _ (fun k _ h => by have := HS0.out; exact (Below.heap_alloc w0 _ k (by omega)).trans rfl)) (fun hHeldA => ?_)
      clear hK K
      (try simp only [Act.put, List.setIfInBounds_toArray, List.set_cons_zero, List.set_cons_succ])
      refine wpAnyH_ready (rs := [18]) (by kernel_rfl) (by simp) (AllReadyH.cons rfl (fun K hK => ?_) AllReadyH.nil)
      have ho := HX.out.ed x (by simp)
      rw [HEv.out] at ho
      refine step_append_own_at rfl _ _ 36 rfl lo 40 j0 (.agg #[.bool false, .string ⟨#[]⟩]) 2 24 Tryz.underlying36 hj hy0 hy1 hy2 rfl (by decide) (.slice ae x.s.ed.length ce) x.s.ed.length (cellsE x.s.ed) (by rfl) (own_blk ho (fun k hk => (Below.heap_alloc _ _ k (by have := (World.ownsRow.lt ho k hk).2; exact this)).trans rfl)) ⟨_, 0, none⟩ 1 1 [.bool false, .string T] (by rfl) (by rfl) (cell2_new _ _ _ _) (fun u hu => by simp only [List.mem_cons, List.not_mem_nil, or_false] at hu; rcases hu with rfl | rfl <;> rfl) (by unfold maxLen; omega) (by omega) (by first | omega | (simp; omega) | (show lo ≤ (w0.alloc _).heap.size; simp; omega)) ?_
      intro v8 w8 hown8 hgrow8 hat8
      obtain ⟨gq, cap8, rfl, hg8a, hg8b, hg8c⟩ := own_form hown8 (Nat.succ_pos _)
      have hs0 := HS0.out
      have hA : (∀ k, k < w0.heap.size → ((w0.alloc (.cells #[.bool false, .string T] 40)).drew).heap[k]? = w0.heap[k]?) := (fun k hk => Below.heap_alloc w0 _ k hk)
      have hAs : ((w0.alloc (.cells #[.bool false, .string T] 40)).drew).heap.size = w0.heap.size + 1 := (by show (w0.alloc _).heap.size = _; simp)
      have nb : (∀ q, w.heap.size ≤ q → some q ≠ (Value.slice ae x.s.ed.length ce).ownBlock) := (fun q hq e => by have := (HX0.out.lt (.inr ⟨x, by simp, by rw [HEv.out]; exact e.symm⟩)).2; omega)
      have hb8 : (∀ k, w.heap.size ≤ k → k < w.heap.size + 3 → w8.heap[k]? = w0.heap[k]?) := (fun k h1 h2 => (hgrow8.block k (by rw [hAs]; omega) (nb k h1)).trans (hA k (by omega)))
      have hb9 : (∀ k, w.heap.size ≤ k → k < w.heap.size + 3 → (w8.setCell ⟨g, P.length * 3 + 2, none⟩ (.slice (some ⟨gq, 0, none⟩) (x.s.ed.length + 1) cap8)).heap[k]? = w0.heap[k]?) := (fun k h1 h2 => (Below.heap_setCell _ _ _ k (by simp only; omega)).trans (hb8 k h1 h2))
      have HS8 := hid0 (And.intro (HSa.out w8 hb8) (HSa.out _ hb9))
      have hxg : some g ≠ (Value.slice ae x.s.ed.length ce).ownBlock := (fun e => HX.out.ne x (by simp) g (by rw [HEv.out]; exact e.symm) rfl)
      have g8 := (hgrow8.block g (by rw [hAs]; omega) hxg).trans (hA g (by omega))
      have k1 := (World.cell?_of_block (a := ⟨g, P.length * 3 + 2, none⟩) g8).trans z0
      have k2 := (World.frozen?_of_block (a := ⟨g, P.length * 3 + 2, none⟩) g8).trans z1
      have HR9 := hid0 ((hb9 _ (by omega) (by omega)).trans HR2.out)
      obtain ⟨c8, f8⟩ := row1 HR9.out
      have c9 := (HSa.out _ hb9).1
      rw [← HEv.out] at hgrow8 hat8
      have HF := hid0 (WB.edit HX.out (fun q hq => hA q hq) (by rw [hAs]; omega) hgrow8 hown8 hat8)
      have HFk := hid0 (WB.edit HX0.out (fun q hq => (hA q (by omega)).trans (HB0.out.block q hq)) (by rw [hAs]; omega) hgrow8 hown8 hat8).2
      have HL := hid0 (((((lowB HB0.out hlo).alloc (by omega) _).drew).grown hgrow8 (by rw [hAs]; omega) (fun q hq => (HX0.out.lt (.inr ⟨x, by simp, hq⟩)).1)).setCell (p := ⟨g, P.length * 3 + 2, none⟩) (by simp only; omega) (.slice (some ⟨gq, 0, none⟩) (x.s.ed.length + 1) cap8))
      clear hs0 hA hAs nb hb8 hb9 hxg g8 hown8 hgrow8 hat8 ho hg8a hg8b hg8c
      refine hK.out _ _ HS8.out.1 (fun hHeld8 => ?_)
      clear hK K hHeldA hHeldB hHeld
      (try simp only [Act.put, List.setIfInBounds_toArray])
      refine tkV (i := 19) (d := some 53) (v := ?_) rfl (by kernel_rfl) (by kernel_rfl) (by kernel_rfl) rfl (fun _ _ _ h => h) (by rfl) ?_ (by assumption) ?_
      rotate_left
      · (intro w hSw; (try dsimp only at hSw); (try simp only [List.getElem_toArray, List.getElem_cons_zero, List.getElem_cons_succ]); go_simp; try with_reducible rfl)
      simp only [Act.put]
      refine tkV (i := 20) (d := some 54) (v := ?_) rfl (by kernel_rfl) (by kernel_rfl) (by kernel_rfl) rfl (fun _ _ _ h => h) (by rfl) ?_ (by assumption) ?_
      rotate_left
      · (intro w hSw; (try dsimp only at hSw); (try simp only [List.getElem_toArray, List.getElem_cons_zero, List.getElem_cons_succ]); go_simp; try with_reducible rfl)
      simp only [Act.put]
      refine wpAnyH_ready (rs := [21]) (by kernel_rfl) (by simp) (AllReadyH.cons rfl (fun K hK => ?_) AllReadyH.nil)
      (try simp only [List.getElem_toArray, List.getElem_cons_zero, List.getElem_cons_succ])
      go_simp
      refine hK.out _ _ HS8.out.2 (fun hHeld9 => ?_)
      clear hK K hHeld8 hHeld9
      (try simp only [Act.put, List.setIfInBounds_toArray])
      refine wpAnyH_done (by kernel_rfl) ?_ _
      go_wp2
      (try simp only [Exit.inBlock, Exit.then])
      refine bodyPost_ret (results_cell_row rfl _ _ (w.heap.size + 2) 24 _ _ _ rfl (set_one _ HR9.out) Tryz.underlying24 rfl (by kernel_rfl)) rfl ?_
      refine ⟨_, _, rfl, HF.out.1.keep (fun k hk => ?_), by rw [secsO_snoc], HL.out.setCell (p := ⟨w.heap.size + 2, 0, none⟩) (by simp only; omega) _⟩
      have h9 := HFk.out k hk
      have hs0 := HS0.out
      simp at h9
      exact Below.heap_setCell _ _ _ k (by simp only; omega)
    · skip
      (try simp only [List.getElem_toArray, List.getElem_cons_zero, List.getElem_cons_succ])
      go_simp
      refine hK.out _ _ (HSa.out _ (fun k _ h => by have := HS0.out; exact (Below.heap_alloc w0 _ k (by omega)).trans rfl)) (fun hHeldA => ?_)
      clear hK K
      (try simp only [Act.put, List.setIfInBounds_toArray, List.set_cons_zero, List.set_cons_succ])
      refine wpAnyH_ready (rs := [10]) (by kernel_rfl) (by simp) (AllReadyH.cons rfl (fun K hK => ?_) AllReadyH.nil)
      (try simp only [List.getElem_toArray, List.getElem_cons_zero, List.getElem_cons_succ])
      go_simp
      refine hK.out _ _ (by assumption) (fun hHeldB => ?_)
      clear hK K
      (try simp only [Act.put, List.setIfInBounds_toArray, List.set_cons_zero, List.set_cons_succ])
      refine wpAnyH_ready (rs := [18]) (by kernel_rfl) (by simp) (AllReadyH.cons rfl (fun K hK => ?_) AllReadyH.nil)
      have ho := HX.out.ed x (by simp)
      rw [HEv.out] at ho
      refine step_append_own_at rfl _ _ 36 rfl lo 40 j0 (.agg #[.bool false, .string ⟨#[]⟩]) 2 24 Tryz.underlying36 hj hy0 hy1 hy2 rfl (by decide) (.slice ae x.s.ed.length ce) x.s.ed.length (cellsE x.s.ed) (by rfl) (own_blk ho (fun k hk => (Below.heap_alloc _ _ k (by have := (World.ownsRow.lt ho k hk).2; exact this)).trans rfl)) ⟨_, 0, none⟩ 1 1 [.bool false, .string T] (by rfl) (by rfl) (cell2_new _ _ _ _) (fun u hu => by simp only [List.mem_cons, List.not_mem_nil, or_false] at hu; rcases hu with rfl | rfl <;> rfl) (by unfold maxLen; omega) (by omega) (by first | omega | (simp; omega) | (show lo ≤ (w0.alloc _).heap.size; simp; omega)) ?_
      intro v8 w8 hown8 hgrow8 hat8
      obtain ⟨gq, cap8, rfl, hg8a, hg8b, hg8c⟩ := own_form hown8 (Nat.succ_pos _)
      have hs0 := HS0.out
      have hA : (∀ k, k < w0.heap.size → ((w0.alloc (.cells #[.bool false, .string T] 40)).drew).heap[k]? = w0.heap[k]?) := (fun k hk => Below.heap_alloc w0 _ k hk)
      have hAs : ((w0.alloc (.cells #[.bool false, .string T] 40)).drew).heap.size = w0.heap.size + 1 := (by show (w0.alloc _).heap.size = _; simp)
      have nb : (∀ q, w.heap.size ≤ q → some q ≠ (Value.slice ae x.s.ed.length ce).ownBlock) := (fun q hq e => by have := (HX0.out.lt (.inr ⟨x, by simp, by rw [HEv.out]; exact e.symm⟩)).2; omega)
      have hb8 : (∀ k, w.heap.size ≤ k → k < w.heap.size + 3 → w8.heap[k]? = w0.heap[k]?) := (fun k h1 h2 => (hgrow8.block k (by rw [hAs]; omega) (nb k h1)).trans (hA k (by omega)))
      have hb9 : (∀ k, w.heap.size ≤ k → k < w.heap.size + 3 → (w8.setCell ⟨g, P.length * 3 + 2, none⟩ (.slice (some ⟨gq, 0, none⟩) (x.s.ed.length + 1) cap8)).heap[k]? = w0.heap[k]?) := (fun k h1 h2 => (Below.heap_setCell _ _ _ k (by simp only; omega)).trans (hb8 k h1 h2))
      have HS8 := hid0 (And.intro (HSa.out w8 hb8) (HSa.out _ hb9))
      have hxg : some g ≠ (Value.slice ae x.s.ed.length ce).ownBlock := (fun e => HX.out.ne x (by simp) g (by rw [HEv.out]; exact e.symm) rfl)
      have g8 := (hgrow8.block g (by rw [hAs]; omega) hxg).trans (hA g (by omega))
      have k1 := (World.cell?_of_block (a := ⟨g, P.length * 3 + 2, none⟩) g8).trans z0
      have k2 := (World.frozen?_of_block (a := ⟨g, P.length * 3 + 2, none⟩) g8).trans z1
      have HR9 := hid0 ((hb9 _ (by omega) (by omega)).trans HR2.out)
      obtain ⟨c8, f8⟩ := row1 HR9.out
      have c9 := (HSa.out _ hb9).1
      rw [← HEv.out] at hgrow8 hat8
      have HF := hid0 (WB.edit HX.out (fun q hq => hA q hq) (by rw [hAs]; omega) hgrow8 hown8 hat8)
      have HFk := hid0 (WB.edit HX0.out (fun q hq => (hA q (by omega)).trans (HB0.out.block q hq)) (by rw [hAs]; omega) hgrow8 hown8 hat8).2
      have HL := hid0 (((((lowB HB0.out hlo).alloc (by omega) _).drew).grown hgrow8 (by rw [hAs]; omega) (fun q hq => (HX0.out.lt (.inr ⟨x, by simp, hq⟩)).1)).setCell (p := ⟨g, P.length * 3 + 2, none⟩) (by simp only; omega) (.slice (some ⟨gq, 0, none⟩) (x.s.ed.length + 1) cap8))
      clear hs0 hA hAs nb hb8 hb9 hxg g8 hown8 hgrow8 hat8 ho hg8a hg8b hg8c
      refine hK.out _ _ HS8.out.1 (fun hHeld8 => ?_)
      clear hK K hHeldA hHeldB hHeld
      (try simp only [Act.put, List.setIfInBounds_toArray])
      refine tkV (i := 19) (d := some 53) (v := ?_) rfl (by kernel_rfl) (by kernel_rfl) (by kernel_rfl) rfl (fun _ _ _ h => h) (by rfl) ?_ (by assumption) ?_
      rotate_left
      · (intro w hSw; (try dsimp only at hSw); (try simp only [List.getElem_toArray, List.getElem_cons_zero, List.getElem_cons_succ]); go_simp; try with_reducible rfl)
      simp only [Act.put]
      refine tkV (i := 20) (d := some 54) (v := ?_) rfl (by kernel_rfl) (by kernel_rfl) (by kernel_rfl) rfl (fun _ _ _ h => h) (by rfl) ?_ (by assumption) ?_
      rotate_left
      · (intro w hSw; (try dsimp only at hSw); (try simp only [List.getElem_toArray, List.getElem_cons_zero, List.getElem_cons_succ]); go_simp; try with_reducible rfl)
      simp only [Act.put]
      refine wpAnyH_ready (rs := [21]) (by kernel_rfl) (by simp) (AllReadyH.cons rfl (fun K hK => ?_) AllReadyH.nil)
      (try simp only [List.getElem_toArray, List.getElem_cons_zero, List.getElem_cons_succ])
      go_simp
      refine hK.out _ _ HS8.out.2 (fun hHeld9 => ?_)
      clear hK K hHeld8 hHeld9
      (try simp only [Act.put, List.setIfInBounds_toArray])
      refine wpAnyH_done (by kernel_rfl) ?_ _
      go_wp2
      (try simp only [Exit.inBlock, Exit.then])
      refine bodyPost_ret (results_cell_row rfl _ _ (w.heap.size + 2) 24 _ _ _ rfl (set_one _ HR9.out) Tryz.underlying24 rfl (by kernel_rfl)) rfl ?_
      refine ⟨_, _, rfl, HF.out.1.keep (fun k hk => ?_), by rw [secsO_snoc], HL.out.setCell (p := ⟨w.heap.size + 2, 0, none⟩) (by simp only; omega) _⟩
      have h9 := HFk.out k hk
      have hs0 := HS0.out
      simp at h9
      exact Below.heap_setCell _ _ _ k (by simp only; omega)
  · skip
    simp only [if_true] at x1 hfold HR1 ⊢
    have HSa := hid0 (fun (W : World) (h : ∀ k, w.heap.size ≤ k → k < w.heap.size + 3 → W.heap[k]? = w0.heap[k]?) => And.intro ((row1 ((h _ (by omega) (by omega)).trans HR0.out)).1) (And.intro ((row2 ((h _ (by omega) (by omega)).trans HR1.out)).1) ((row2 ((h _ (by omega) (by omega)).trans HR1.out)).2.1)))
    have z2 : (w0.alloc (.cells #[.bool true, .string T] 40)).cell? ⟨g, P.length * 3 + 2, none⟩ = some (.slice ae x.s.ed.length ce) := (World.cell?_of_block (a := ⟨g, P.length * 3 + 2, none⟩) (Below.heap_alloc w0 _ g (by omega))).trans z0
    go_enter Tryz.func30, Tryz.ntmps30
    go_wp2
    refine wp_region_held_drew (S := (fun W => W.cell? ⟨w.heap.size, 0, none⟩ = some (.slice (some ⟨g, 0, none⟩) (P.length + 1) cap) ∧ W.cell? ⟨w.heap.size + 1, 0, none⟩ = some (.int .i64 3) ∧ W.cell? ⟨w.heap.size + 1, 1, none⟩ = some (.string T))) (by kernel_rfl) ?_ (fun hHeld => ?_)
    · exact HSa.out _ (fun _ _ _ => rfl)
    refine tkV (i := 0) (d := some 34) (v := ?_) rfl (by kernel_rfl) (by kernel_rfl) (by kernel_rfl) rfl (fun _ _ _ h => h) (by rfl) ?_ (by assumption) ?_
    rotate_left
    · (intro w hSw; (try dsimp only at hSw); (try simp only [List.getElem_toArray, List.getElem_cons_zero]); go_simp; try with_reducible rfl)
    simp only [Act.put, List.setIfInBounds_toArray, List.set_cons_zero, List.set_cons_succ]
    refine tkV (i := 1) (d := some 35) (v := ?_) rfl (by kernel_rfl) (by kernel_rfl) (by kernel_rfl) rfl (fun _ _ _ h => h) (by rfl) ?_ (by assumption) ?_
    rotate_left
    · (intro w hSw; (try dsimp only at hSw); (try simp only [List.getElem_toArray, List.getElem_cons_zero, List.getElem_cons_succ]); go_simp; try with_reducible rfl)
    simp only [Act.put, List.setIfInBounds_toArray, List.set_cons_zero, List.set_cons_succ]
    refine tkV (i := 2) (d := some 36) (v := ?_) rfl (by kernel_rfl) (by kernel_rfl) (by kernel_rfl) rfl (fun _ _ _ h => h) (by rfl) ?_ (by assumption) ?_
    rotate_left
    · (intro w hSw; (try dsimp only at hSw); (try simp only [List.getElem_toArray, List.getElem_cons_zero, List.getElem_cons_succ]); go_simp; try with_reducible rfl)
    simp only [Act.put, List.setIfInBounds_toArray, List.set_cons_zero, List.set_cons_succ]
    refine tkV (i := 3) (d := some 37) (v := ?_) rfl (by kernel_rfl) (by kernel_rfl) (by kernel_rfl) rfl (fun _ _ _ h => h) (by rfl) ?_ (by assumption) ?_
    rotate_left
    · (intro w hSw; (try dsimp only at hSw); (try simp only [List.getElem_toArray, List.getElem_cons_zero, List.getElem_cons_succ]); go_simp; try with_reducible rfl)
    simp only [Act.put, List.setIfInBounds_toArray, List.set_cons_zero, List.set_cons_succ]
    refine tkV (i := 4) (d := some 38) (v := ?_) rfl (by kernel_rfl) (by kernel_rfl) (by kernel_rfl) rfl (fun _ _ _ h => h) (by rfl) ?_ (by assumption) ?_
    rotate_left
    · (intro w hSw; (try dsimp only at hSw); (try simp only [List.getElem_toArray, List.getElem_cons_zero, List.getElem_cons_succ]); go_simp; try with_reducible rfl)
    simp only [Act.put, List.setIfInBounds_toArray, List.set_cons_zero, List.set_cons_succ]
    refine tkV (i := 5) (d := some 39) (v := ?_) rfl (by kernel_rfl) (by kernel_rfl) (by kernel_rfl) rfl (fun _ _ _ h => h) (by rfl) ?_ (by assumption) ?_
    rotate_left
    · (intro w hSw; (try dsimp only at hSw); (try simp only [List.getElem_toArray, List.getElem_cons_zero, List.getElem_cons_succ]); go_simp; try with_reducible rfl)
    simp only [Act.put, List.setIfInBounds_toArray, List.set_cons_zero, List.set_cons_succ]
    refine tkV (i := 6) (d := some 40) (v := ?_) rfl (by kernel_rfl) (by kernel_rfl) (by kernel_rfl) rfl (fun _ _ _ h => h) (by rfl) ?_ (by assumption) ?_
    rotate_left
    · (intro w hSw; (try dsimp only at hSw); (try simp only [List.getElem_toArray, List.getElem_cons_zero, List.getElem_cons_succ]); go_simp; try with_reducible rfl)
    simp only [Act.put, List.setIfInBounds_toArray, List.set_cons_zero, List.set_cons_succ]
    refine tkV (i := 7) (d := some 41) (v := ?_) rfl (by kernel_rfl) (by kernel_rfl) (by kernel_rfl) rfl (fun _ _ _ h => h) (by rfl) ?_ (by assumption) ?_
    rotate_left
    · (intro w hSw; (try dsimp only at hSw); (try simp only [List.getElem_toArray, List.getElem_cons_zero, List.getElem_cons_succ]); go_simp; try with_reducible rfl)
    simp only [Act.put, List.setIfInBounds_toArray, List.set_cons_zero, List.set_cons_succ]
    refine tkV (i := 8) (d := some 42) (v := ?_) rfl (by kernel_rfl) (by kernel_rfl) (by kernel_rfl) rfl (fun _ _ _ h => h) (by rfl) ?_ (by assumption) ?_
    rotate_left
    · (intro w hSw; (try dsimp only at hSw); (try simp only [List.getElem_toArray, List.getElem_cons_zero, List.getElem_cons_succ]); go_simp; try with_reducible rfl)
    simp only [Act.put, List.setIfInBounds_toArray, List.set_cons_zero, List.set_cons_succ]
    refine tkV (i := 9) (d := some 43) (v := ?_) rfl (by kernel_rfl) (by kernel_rfl) (by kernel_rfl) rfl (fun _ _ _ h => h) (by rfl) ?_ (by assumption) ?_
    rotate_left
    · (intro w hSw; (try dsimp only at hSw); (try simp only [List.getElem_toArray, List.getElem_cons_zero, List.getElem_cons_succ]); go_simp; try with_reducible rfl)
    simp only [Act.put, List.setIfInBounds_toArray, List.set_cons_zero, List.set_cons_succ]
    refine tkV (i := 11) (d := some 45) (v := ?_) rfl (by kernel_rfl) (by kernel_rfl) (by kernel_rfl) rfl (fun _ _ _ h => h) (by rfl) ?_ (by assumption) ?_
    rotate_left
    · (intro w hSw; (try dsimp only at hSw); (try simp only [List.getElem_toArray, List.getElem_cons_zero, List.getElem_cons_succ]); go_simp; try with_reducible rfl)
    simp only [Act.put, List.setIfInBounds_toArray, List.set_cons_zero, List.set_cons_succ]
    refine tkV (i := 12) (d := some 46) (v := ?_) rfl (by kernel_rfl) (by kernel_rfl) (by kernel_rfl) rfl (fun _ _ _ h => h) (by rfl) ?_ (by assumption) ?_
    rotate_left
    · (intro w hSw; (try dsimp only at hSw); (try simp only [List.getElem_toArray, List.getElem_cons_zero, List.getElem_cons_succ]); go_simp; try with_reducible rfl)
    simp only [Act.put, List.setIfInBounds_toArray, List.set_cons_zero, List.set_cons_succ]
    refine tkV (i := 13) (d := some 47) (v := ?_) rfl (by kernel_rfl) (by kernel_rfl) (by kernel_rfl) rfl (fun _ _ _ h => h) (by rfl) ?_ (by assumption) ?_
    rotate_left
    · (intro w hSw; (try dsimp only at hSw); (try simp only [List.getElem_toArray, List.getElem_cons_zero, List.getElem_cons_succ]); go_simp; try with_reducible rfl)
    simp only [Act.put, List.setIfInBounds_toArray, List.set_cons_zero, List.set_cons_succ]
    refine tkV (i := 14) (d := some 48) (v := ?_) rfl (by kernel_rfl) (by kernel_rfl) (by kernel_rfl) rfl (fun _ _ _ h => h) (by rfl) ?_ (by assumption) ?_
    rotate_left
    · (intro w hSw; (try dsimp only at hSw); (try simp only [List.getElem_toArray, List.getElem_cons_zero, List.getElem_cons_succ]); go_simp; try with_reducible rfl)
    simp only [Act.put, List.setIfInBounds_toArray, List.set_cons_zero, List.set_cons_succ]
    refine tkV (i := 15) (d := some 49) (v := ?_) rfl (by kernel_rfl) (by kernel_rfl) (by kernel_rfl) rfl (fun _ _ _ h => h) (by rfl) ?_ (by assumption) ?_
    rotate_left
    · (intro w hSw; (try dsimp only at hSw); (try simp only [List.getElem_toArray, List.getElem_cons_zero, List.getElem_cons_succ]); go_simp; try with_reducible rfl)
    simp only [Act.put, List.setIfInBounds_toArray, List.set_cons_zero, List.set_cons_succ]
    refine tkV (i := 16) (d := some 50) (v := ?_) rfl (by kernel_rfl) (by kernel_rfl) (by kernel_rfl) rfl (fun _ _ _ h => h) (by rfl) ?_ (by assumption) ?_
    rotate_left
    · (intro w hSw; (try dsimp only at hSw); (try simp only [List.getElem_toArray, List.getElem_cons_zero, List.getElem_cons_succ]); go_simp; try with_reducible rfl)
    simp only [Act.put, List.setIfInBounds_toArray, List.set_cons_zero, List.set_cons_succ]
    refine wpAnyH_ready (rs := [10, 17]) (by kernel_rfl) (by simp) (AllReadyH.cons rfl (fun K hK => ?_) (AllReadyH.cons rfl (fun K hK => ?_) AllReadyH.nil))
    · skip
      (try simp only [List.getElem_toArray, List.getElem_cons_zero, List.getElem_cons_succ])
      go_simp
      refine hK.out _ _ (by assumption) (fun hHeldB => ?_)
      clear hK K
      (try simp only [Act.put, List.setIfInBounds_toArray, List.set_cons_zero, List.set_cons_succ])
      refine wpAnyH_ready (rs := [17]) (by kernel_rfl) (by simp) (AllReadyH.cons rfl (fun K hK => ?_) AllReadyH.nil)
      (try simp only [List.getElem_toArray, List.getElem_cons_zero, List.getElem_cons_succ])
      go_simp
      refine hK.out _ _ (HSa.out _ (fun k _ h => by have := HS0.out; exact (Below.heap_alloc w0 _ k (by omega)).trans rfl)) (fun hHeldA => ?_)
      clear hK K
      (try simp only [Act.put, List.setIfInBounds_toArray, List.set_cons_zero, List.set_cons_succ])
      refine wpAnyH_ready (rs := [18]) (by kernel_rfl) (by simp) (AllReadyH.cons rfl (fun K hK => ?_) AllReadyH.nil)
      have ho := HX.out.ed x (by simp)
      rw [HEv.out] at ho
      refine step_append_own_at rfl _ _ 36 rfl lo 40 j0 (.agg #[.bool false, .string ⟨#[]⟩]) 2 24 Tryz.underlying36 hj hy0 hy1 hy2 rfl (by decide) (.slice ae x.s.ed.length ce) x.s.ed.length (cellsE x.s.ed) (by rfl) (own_blk ho (fun k hk => (Below.heap_alloc _ _ k (by have := (World.ownsRow.lt ho k hk).2; exact this)).trans rfl)) ⟨_, 0, none⟩ 1 1 [.bool true, .string T] (by rfl) (by rfl) (cell2_new _ _ _ _) (fun u hu => by simp only [List.mem_cons, List.not_mem_nil, or_false] at hu; rcases hu with rfl | rfl <;> rfl) (by unfold maxLen; omega) (by omega) (by first | omega | (simp; omega) | (show lo ≤ (w0.alloc _).heap.size; simp; omega)) ?_
      intro v8 w8 hown8 hgrow8 hat8
      obtain ⟨gq, cap8, rfl, hg8a, hg8b, hg8c⟩ := own_form hown8 (Nat.succ_pos _)
      have hs0 := HS0.out
      have hA : (∀ k, k < w0.heap.size → ((w0.alloc (.cells #[.bool true, .string T] 40)).drew).heap[k]? = w0.heap[k]?) := (fun k hk => Below.heap_alloc w0 _ k hk)
      have hAs : ((w0.alloc (.cells #[.bool true, .string T] 40)).drew).heap.size = w0.heap.size + 1 := (by show (w0.alloc _).heap.size = _; simp)
      have nb : (∀ q, w.heap.size ≤ q → some q ≠ (Value.slice ae x.s.ed.length ce).ownBlock) := (fun q hq e => by have := (HX0.out.lt (.inr ⟨x, by simp, by rw [HEv.out]; exact e.symm⟩)).2; omega)
      have hb8 : (∀ k, w.heap.size ≤ k → k < w.heap.size + 3 → w8.heap[k]? = w0.heap[k]?) := (fun k h1 h2 => (hgrow8.block k (by rw [hAs]; omega) (nb k h1)).trans (hA k (by omega)))
      have hb9 : (∀ k, w.heap.size ≤ k → k < w.heap.size + 3 → (w8.setCell ⟨g, P.length * 3 + 2, none⟩ (.slice (some ⟨gq, 0, none⟩) (x.s.ed.length + 1) cap8)).heap[k]? = w0.heap[k]?) := (fun k h1 h2 => (Below.heap_setCell _ _ _ k (by simp only; omega)).trans (hb8 k h1 h2))
      have HS8 := hid0 (And.intro (HSa.out w8 hb8) (HSa.out _ hb9))
      have hxg : some g ≠ (Value.slice ae x.s.ed.length ce).ownBlock := (fun e => HX.out.ne x (by simp) g (by rw [HEv.out]; exact e.symm) rfl)
      have g8 := (hgrow8.block g (by rw [hAs]; omega) hxg).trans (hA g (by omega))
      have k1 := (World.cell?_of_block (a := ⟨g, P.length * 3 + 2, none⟩) g8).trans z0
      have k2 := (World.frozen?_of_block (a := ⟨g, P.length * 3 + 2, none⟩) g8).trans z1
      have HR9 := hid0 ((hb9 _ (by omega) (by omega)).trans HR2.out)
      obtain ⟨c8, f8⟩ := row1 HR9.out
      have c9 := (HSa.out _ hb9).1
      rw [← HEv.out] at hgrow8 hat8
      have HF := hid0 (WB.edit HX.out (fun q hq => hA q hq) (by rw [hAs]; omega) hgrow8 hown8 hat8)
      have HFk := hid0 (WB.edit HX0.out (fun q hq => (hA q (by omega)).trans (HB0.out.block q hq)) (by rw [hAs]; omega) hgrow8 hown8 hat8).2
      have HL := hid0 (((((lowB HB0.out hlo).alloc (by omega) _).drew).grown hgrow8 (by rw [hAs]; omega) (fun q hq => (HX0.out.lt (.inr ⟨x, by simp, hq⟩)).1)).setCell (p := ⟨g, P.length * 3 + 2, none⟩) (by simp only; omega) (.slice (some ⟨gq, 0, none⟩) (x.s.ed.length + 1) cap8))
      clear hs0 hA hAs nb hb8 hb9 hxg g8 hown8 hgrow8 hat8 ho hg8a hg8b hg8c
      refine hK.out _ _ HS8.out.1 (fun hHeld8 => ?_)
      clear hK K hHeldA hHeldB hHeld
      (try simp only [Act.put, List.setIfInBounds_toArray])
      refine tkV (i := 19) (d := some 53) (v := ?_) rfl (by kernel_rfl) (by kernel_rfl) (by kernel_rfl) rfl (fun _ _ _ h => h) (by rfl) ?_ (by assumption) ?_
      rotate_left
      · (intro w hSw; (try dsimp only at hSw); (try simp only [List.getElem_toArray, List.getElem_cons_zero, List.getElem_cons_succ]); go_simp; try with_reducible rfl)
      simp only [Act.put]
      refine tkV (i := 20) (d := some 54) (v := ?_) rfl (by kernel_rfl) (by kernel_rfl) (by kernel_rfl) rfl (fun _ _ _ h => h) (by rfl) ?_ (by assumption) ?_
      rotate_left
      · (intro w hSw; (try dsimp only at hSw); (try simp only [List.getElem_toArray, List.getElem_cons_zero, List.getElem_cons_succ]); go_simp; try with_reducible rfl)
      simp only [Act.put]
      refine wpAnyH_ready (rs := [21]) (by kernel_rfl) (by simp) (AllReadyH.cons rfl (fun K hK => ?_) AllReadyH.nil)
      (try simp only [List.getElem_toArray, List.getElem_cons_zero, List.getElem_cons_succ])
      go_simp
      refine hK.out _ _ HS8.out.2 (fun hHeld9 => ?_)
      clear hK K hHeld8 hHeld9
      (try simp only [Act.put, List.setIfInBounds_toArray])
      refine wpAnyH_done (by kernel_rfl) ?_ _
      go_wp2
      (try simp only [Exit.inBlock, Exit.then])
      refine bodyPost_ret (results_cell_row rfl _ _ (w.heap.size + 2) 24 _ _ _ rfl (set_one _ HR9.out) Tryz.underlying24 rfl (by kernel_rfl)) rfl ?_
      refine ⟨_, _, rfl, HF.out.1.keep (fun k hk => ?_), by rw [secsO_snoc], HL.out.setCell (p := ⟨w.heap.size + 2, 0, none⟩) (by simp only; omega) _⟩
      have h9 := HFk.out k hk
      have hs0 := HS0.out
      simp at h9
      exact Below.heap_setCell _ _ _ k (by simp only; omega)
    · skip
      (try simp only [List.getElem_toArray, List.getElem_cons_zero, List.getElem_cons_succ])
      go_simp
      refine hK.out _ _ (HSa.out _ (fun k _ h => by have := HS0.out; exact (Below.heap_alloc w0 _ k (by omega)).trans rfl)) (fun hHeldA => ?_)
      clear hK K
      (try simp only [Act.put, List.setIfInBounds_toArray, List.set_cons_zero, List.set_cons_succ])
      refine wpAnyH_ready (rs := [10]) (by kernel_rfl) (by simp) (AllReadyH.cons rfl (fun K hK => ?_) AllReadyH.nil)
      (try simp only [List.getElem_toArray, List.getElem_cons_zero, List.getElem_cons_succ])
      go_simp
      refine hK.out _ _ (by assumption) (fun hHeldB => ?_)
      clear hK K
      (try simp only [Act.put, List.setIfInBounds_toArray, List.set_cons_zero, List.set_cons_succ])
      refine wpAnyH_ready (rs := [18]) (by kernel_rfl) (by simp) (AllReadyH.cons rfl (fun K hK => ?_) AllReadyH.nil)
      have ho := HX.out.ed x (by simp)
      rw [HEv.out] at ho
      refine step_append_own_at rfl _ _ 36 rfl lo 40 j0 (.agg #[.bool false, .string ⟨#[]⟩]) 2 24 Tryz.underlying36 hj hy0 hy1 hy2 rfl (by decide) (.slice ae x.s.ed.length ce) x.s.ed.length (cellsE x.s.ed) (by rfl) (own_blk ho (fun k hk => (Below.heap_alloc _ _ k (by have := (World.ownsRow.lt ho k hk).2; exact this)).trans rfl)) ⟨_, 0, none⟩ 1 1 [.bool true, .string T] (by rfl) (by rfl) (cell2_new _ _ _ _) (fun u hu => by simp only [List.mem_cons, List.not_mem_nil, or_false] at hu; rcases hu with rfl | rfl <;> rfl) (by unfold maxLen; omega) (by omega) (by first | omega | (simp; omega) | (show lo ≤ (w0.alloc _).heap.size; simp; omega)) ?_
      intro v8 w8 hown8 hgrow8 hat8
      obtain ⟨gq, cap8, rfl, hg8a, hg8b, hg8c⟩ := own_form hown8 (Nat.succ_pos _)
      have hs0 := HS0.out
      have hA : (∀ k, k < w0.heap.size → ((w0.alloc (.cells #[.bool true, .string T] 40)).drew).heap[k]? = w0.heap[k]?) := (fun k hk => Below.heap_alloc w0 _ k hk)
      have hAs : ((w0.alloc (.cells #[.bool true, .string T] 40)).drew).heap.size = w0.heap.size + 1 := (by show (w0.alloc _).heap.size = _; simp)
      have nb : (∀ q, w.heap.size ≤ q → some q ≠ (Value.slice ae x.s.ed.length ce).ownBlock) := (fun q hq e => by have := (HX0.out.lt (.inr ⟨x, by simp, by rw [HEv.out]; exact e.symm⟩)).2; omega)
      have hb8 : (∀ k, w.heap.size ≤ k → k < w.heap.size + 3 → w8.heap[k]? = w0.heap[k]?) := (fun k h1 h2 => (hgrow8.block k (by rw [hAs]; omega) (nb k h1)).trans (hA k (by omega)))
      have hb9 : (∀ k, w.heap.size ≤ k → k < w.heap.size + 3 → (w8.setCell ⟨g, P.length * 3 + 2, none⟩ (.slice (some ⟨gq, 0, none⟩) (x.s.ed.length + 1) cap8)).heap[k]? = w0.heap[k]?) := (fun k h1 h2 => (Below.heap_setCell _ _ _ k (by simp only; omega)).trans (hb8 k h1 h2))
      have HS8 := hid0 (And.intro (HSa.out w8 hb8) (HSa.out _ hb9))
      have hxg : some g ≠ (Value.slice ae x.s.ed.length ce).ownBlock := (fun e => HX.out.ne x (by simp) g (by rw [HEv.out]; exact e.symm) rfl)
      have g8 := (hgrow8.block g (by rw [hAs]; omega) hxg).trans (hA g (by omega))
      have k1 := (World.cell?_of_block (a := ⟨g, P.length * 3 + 2, none⟩) g8).trans z0
      have k2 := (World.frozen?_of_block (a := ⟨g, P.length * 3 + 2, none⟩) g8).trans z1
      have HR9 := hid0 ((hb9 _ (by omega) (by omega)).trans HR2.out)
      obtain ⟨c8, f8⟩ := row1 HR9.out
      have c9 := (HSa.out _ hb9).1
      rw [← HEv.out] at hgrow8 hat8
      have HF := hid0 (WB.edit HX.out (fun q hq => hA q hq) (by rw [hAs]; omega) hgrow8 hown8 hat8)
      have HFk := hid0 (WB.edit HX0.out (fun q hq => (hA q (by omega)).trans (HB0.out.block q hq)) (by rw [hAs]; omega) hgrow8 hown8 hat8).2
      have HL := hid0 (((((lowB HB0.out hlo).alloc (by omega) _).drew).grown hgrow8 (by rw [hAs]; omega) (fun q hq => (HX0.out.lt (.inr ⟨x, by simp, hq⟩)).1)).setCell (p := ⟨g, P.length * 3 + 2, none⟩) (by simp only; omega) (.slice (some ⟨gq, 0, none⟩) (x.s.ed.length + 1) cap8))
      clear hs0 hA hAs nb hb8 hb9 hxg g8 hown8 hgrow8 hat8 ho hg8a hg8b hg8c
      refine hK.out _ _ HS8.out.1 (fun hHeld8 => ?_)
      clear hK K hHeldA hHeldB hHeld
      (try simp only [Act.put, List.setIfInBounds_toArray])
      refine tkV (i := 19) (d := some 53) (v := ?_) rfl (by kernel_rfl) (by kernel_rfl) (by kernel_rfl) rfl (fun _ _ _ h => h) (by rfl) ?_ (by assumption) ?_
      rotate_left
      · (intro w hSw; (try dsimp only at hSw); (try simp only [List.getElem_toArray, List.getElem_cons_zero, List.getElem_cons_succ]); go_simp; try with_reducible rfl)
      simp only [Act.put]
      refine tkV (i := 20) (d := some 54) (v := ?_) rfl (by kernel_rfl) (by kernel_rfl) (by kernel_rfl) rfl (fun _ _ _ h => h) (by rfl) ?_ (by assumption) ?_
      rotate_left
      · (intro w hSw; (try dsimp only at hSw); (try simp only [List.getElem_toArray, List.getElem_cons_zero, List.getElem_cons_succ]); go_simp; try with_reducible rfl)
      simp only [Act.put]
      refine wpAnyH_ready (rs := [21]) (by kernel_rfl) (by simp) (AllReadyH.cons rfl (fun K hK => ?_) AllReadyH.nil)
      (try simp only [List.getElem_toArray, List.getElem_cons_zero, List.getElem_cons_succ])
      go_simp
      refine hK.out _ _ HS8.out.2 (fun hHeld9 => ?_)
      clear hK K hHeld8 hHeld9
      (try simp only [Act.put, List.setIfInBounds_toArray])
      refine wpAnyH_done (by kernel_rfl) ?_ _
      go_wp2
      (try simp only [Exit.inBlock, Exit.then])
      refine bodyPost_ret (results_cell_row rfl _ _ (w.heap.size + 2) 24 _ _ _ rfl (set_one _ HR9.out) Tryz.underlying24 rfl (by kernel_rfl)) rfl ?_
      refine ⟨_, _, rfl, HF.out.1.keep (fun k hk => ?_), by rw [secsO_snoc], HL.out.setCell (p := ⟨w.heap.size + 2, 0, none⟩) (by simp only; omega) _⟩
      have h9 := HFk.out k hk
      have hs0 := HS0.out
      simp at h9
      exact Below.heap_setCell _ _ _ k (by simp only; omega)
end Go.Proofs.YtlfeiadgahdgoaaGreatDoor
namespace Go.Proofs.YtlfeiadgahdgoaaGreatDoor
open Go.RowKit Go.Shelf Go.Lib
theorem linesD_le : ∀ (l cur t : List UInt8), t ∈ linesD cur l → t.length ≤ cur.length + l.length
  | [], cur, t, h => by
    rw [linesD] at h
    split at h
    · cases h
    · rw [List.mem_singleton] at h; subst h; simp
  | c :: r, cur, t, h => by
    rw [linesD] at h
    split at h
    · rcases List.mem_cons.1 h with h | h
      · subst h
        unfold chopR
        split
        · simp; omega
        · simp
      · have := linesD_le r [] t h
        simp at this ⊢
        omega
    · have := linesD_le r (cur ++ [c]) t h
      simp at this ⊢
      omega
theorem tagK_le (k : Nat) (x : List UInt8) (hk : k ≤ 5) : (tagK k x).1 ≤ 5 ∧ (tagK k x).2.length ≤ 64 := by
  unfold tagK
  cases h : tagF x with
  | none => simp
  | some c => exact ⟨hk, (tagF_le h).1⟩
theorem entK_le (k : Nat) (x : List UInt8) (hk : k ≤ 5) : (entK k x).1 ≤ 5 ∧ (entK k x).2.length ≤ 4 * x.length := by
  unfold entK
  cases h : readR (Lib.trimS x [32, 9]) with
  | none => simp
  | some s =>
    simp only
    split
    · simp
    · refine ⟨hk, ?_⟩
      unfold readR contR at h
      cases hp : pntsOf (Lib.trimS x [32, 9]) with
      | none => rw [hp] at h; cases h
      | some ps =>
        rw [hp] at h
        simp only at h
        split at h
        · injection h with h
          rw [← h]
          have h1 := encAll_len (toI ([] ++ ps))
          have h2 := pnts_len (Lib.trimS x [32, 9]).length _ ps (Nat.le_refl _) hp
          have h3 := trimS_le x [32, 9]
          have h4 : (toI ([] ++ ps)).length = ps.length := by simp [toI]
          simp only
          omega
        · cases h
theorem whatF_le (t : List UInt8) : (whatF t).1 ≤ 5 ∧ (whatF t).2.length ≤ 64 + 4 * t.length := by
  cases t with
  | nil => exact ⟨by decide, by simp [whatF]⟩
  | cons a r =>
    rw [whatF]
    split
    · have := tagK_le 1 (Lib.trimS r.dropLast [32, 9]) (by omega)
      exact ⟨this.1, by omega⟩
    · split
      · have := entK_le 3 r (by omega)
        exact ⟨this.1, by simp; omega⟩
      · split
        · have := entK_le 4 r (by omega)
          exact ⟨this.1, by simp; omega⟩
        · split
          · have := tagK_le 2 (Lib.trimS ((a :: r).drop 6) [32, 9]) (by omega)
            exact ⟨this.1, by omega⟩
          · exact ⟨Nat.le_refl _, by simp⟩
theorem lineB_le (l : List UInt8) : (lineB l).length ≤ l.length := by
  unfold lineB
  have h1 := trimS_le (noC l) [32, 9]
  have h2 := noC_le l
  omega
/-- What a line without a fault leaves stays within the bounds. -/
theorem with_in {S : List Sec} {x : Nat × List UInt8} (hf : lfF S x = 0) (hl : S.length ≤ 500) (hn : nEd S ≤ 20000) : (withF S x).length ≤ 500 ∧ nEd (withF S x) ≤ 20000 := by
  obtain ⟨k, t⟩ := x
  by_cases h1 : k = 1
  · subst h1
    rw [lf1] at hf
    rw [with1]
    have h5 : ¬ 500 ≤ S.length := fun h => by rw [if_pos h] at hf; omega
    refine ⟨by simp; omega, ?_⟩
    rw [nEd_snoc]
    simpa using hn
  · cases hS : S.getLast? with
    | none =>
      have := last_nil hS
      subst this
      have : withF [] (k, t) = [] := by
        unfold withF
        simp [h1]
      rw [this]
      exact ⟨by simp, by simp [nEd]⟩
    | some s =>
      obtain ⟨P, rfl⟩ : ∃ P, S = P ++ [s] := by
        have hne : S ≠ [] := fun e => by rw [e] at hS; cases hS
        rw [List.getLast?_eq_some_getLast hne] at hS
        injection hS with hS
        exact ⟨S.dropLast, by rw [← hS, List.dropLast_concat_getLast]⟩
      by_cases h2 : k = 2
      · subst h2
        rw [with2 t hS, List.dropLast_concat]
        refine ⟨by simpa using hl, ?_⟩
        rw [nEd_snoc] at hn ⊢
        exact hn
      · by_cases h34 : k = 3 ∨ k = 4
        · obtain ⟨ad, rfl⟩ : ∃ ad : Bool, k = if ad then 3 else 4 := by
            rcases h34 with rfl | rfl
            · exact ⟨true, rfl⟩
            · exact ⟨false, rfl⟩
          rw [lf34 ad t hS] at hf
          rw [with34 ad t hS, List.dropLast_concat]
          have h5 : ¬ (32 < (unitsOf t).length ∨ 20000 ≤ nEd (P ++ [s])) := fun h => by rw [if_pos h] at hf; omega
          refine ⟨by simpa using hl, ?_⟩
          rw [nEd_snoc] at h5 ⊢
          simp
          omega
        · have : withF (P ++ [s]) (k, t) = P ++ [s] := by
            unfold withF
            simp only
            rw [if_neg h1, if_neg h2, if_neg h34]
          rw [this]
          exact ⟨hl, hn⟩
end Go.Proofs.YtlfeiadgahdgoaaGreatDoor
namespace Go.Proofs.YtlfeiadgahdgoaaGreatDoor
open Go.RowKit Go.Shelf Go.Lib
theorem with_any (lo : Nat) (a : Option Addr) (c : Nat) (S : List SecO) (x : Nat × List UInt8) (w : World) (hl : S.length ≤ 500) (hne : nEd (secsO S) ≤ 20000) (hlo : lo ≤ w.heap.size) (hx : x.1 ≤ 5) (hf : lfF (secsO S) x = 0) (hX : WB w lo (.slice a S.length c) S) :
    Calls Tryz.prog 30 #[.agg #[.slice a S.length c], lnV x] w fun e w' => WthA w lo (withF (secsO S) x) e w' := by
  obtain ⟨k, t⟩ := x
  simp only at hx
  unfold lnV
  simp only
  have hk5 : k ≠ 5 := fun e => by subst e; rw [lf5] at hf; cases hf
  by_cases h0 : k = 0
  · subst h0
    have e : withF (secsO S) (0, t) = secsO S := by simp [withF]
    rw [e]
    exact with_none lo a c S (strOf t) w hlo hX
  by_cases h1 : k = 1
  · subst h1
    rw [with1]
    exact with_head lo a c S (strOf t) w hl hlo hX
  have hne0 : S ≠ [] := fun e => by
    subst e
    have : lfF (secsO []) (k, t) = 2 := by
      unfold lfF
      rw [if_pos (.inr ⟨rfl, by simp only; omega⟩)]
    rw [this] at hf
    cases hf
  obtain ⟨P, x, rfl⟩ := snocO hne0
  obtain ⟨q1, q2⟩ := last_secs P x
  have hlen : (P ++ [x]).length = P.length + 1 := by simp
  obtain ⟨g, cap, hv, _, _, _⟩ := own_form hX.sec (by omega)
  rw [hv] at hX ⊢
  rw [hlen] at hX hl ⊢
  by_cases h2 : k = 2
  · subst h2
    rw [with2 t q1, q2]
    exact with_par lo g cap P x (strOf t) w (by omega) hlo hX
  · obtain ⟨ad, rfl⟩ : ∃ ad : Bool, k = if ad then 3 else 4 := by
      have : k = 3 ∨ k = 4 := by omega
      rcases this with rfl | rfl
      · exact ⟨true, rfl⟩
      · exact ⟨false, rfl⟩
    rw [with34 ad t q1, q2]
    have he : x.s.ed.length ≤ 20000 := by
      have h := nEd_snoc (secsO P) x.s
      rw [secsO_snoc] at hne
      omega
    have e : ((if ad then 3 else 4 : Nat) : Int) = (if ad then 3 else 4 : Int) := by cases ad <;> rfl
    rw [e]
    exact with_edit lo g cap P x ad (strOf t) w (by omega) he hlo hX
end Go.Proofs.YtlfeiadgahdgoaaGreatDoor
namespace Go.Proofs.YtlfeiadgahdgoaaGreatDoor
open Go.RowKit Go.Shelf Go.Lib
/-- What the document's Parse answers. -/
def RefPar (w w' : World) (o : PRes) (e : Ending) : Prop := match o with
  | .stop n i => e = .returned (.tuple #[.agg #[.slice none 0 0], .int .i64 (n : Int), .int .i64 (i : Int)])
  | .ok S => ∃ v T, secsO T = S ∧ WB w' w.heap.size v T ∧ e = .returned (.tuple #[.agg #[v], .int .i64 0, .int .i64 0])
theorem ownsRow_lower {w : World} {lo lo' : Nat} {t : TypeId} {sz : Nat} {v : Value} {n : Nat} {xs : List Value} (h : w.ownsRow lo t sz v n xs) (hl : lo' ≤ lo) : w.ownsRow lo' t sz v n xs := by
  refine ⟨h.1, ?_⟩
  rcases h.2 with h2 | ⟨g, cap, cur, h1, h2, h3⟩
  · exact .inl h2
  · exact .inr ⟨g, cap, cur, h1, Nat.le_trans hl h2, h3⟩
theorem WB.lower {w : World} {lo lo' : Nat} {v : Value} {S : List SecO} (h : WB w lo v S) (hl : lo' ≤ lo) : WB w lo' v S := ⟨ownsRow_lower h.sec hl, fun x hx => ownsRow_lower (h.ed x hx) hl, h.ne, h.pw⟩
/-- Where a reading stands: k lines are read. -/
structure PI (w w2 wr : World) (a : Option Addr) (c : Nat) (S : List SecO) (Ls : List (List UInt8)) (R : PRes) (k : Nat) : Prop where
  wb : WB wr w2.heap.size (.slice a S.length c) S
  c2 : wr.heap[w.heap.size]? = some (.cells #[.slice none 0 0] 24 (0, 0))
  c5 : wr.heap[w.heap.size + 1]? = some (.cells #[.slice a S.length c] 24 (0, 0))
  bel : Below w.heap.size w wr
  sz : w2.heap.size ≤ wr.heap.size
  kp : ∀ k, k < w2.heap.size → k ≠ w.heap.size + 1 → wr.heap[k]? = w2.heap[k]?
  eq : R = docP (secsO S) k (Ls.drop k)
theorem PI.later {w w2 wr wz : World} {a : Option Addr} {c : Nat} {S : List SecO} {Ls : List (List UInt8)} {R : PRes} {k : Nat} (h : PI w w2 wr a c S Ls R k) (hb : Below wr.heap.size wr wz) : PI w w2 wz a c S Ls R k where
  wb := h.wb.later hb
  c2 := (hb.block _ (Array.getElem?_eq_some_iff.1 h.c2).1).trans h.c2
  c5 := (hb.block _ (Array.getElem?_eq_some_iff.1 h.c5).1).trans h.c5
  bel := Below.later h.bel hb
  sz := Nat.le_trans h.sz hb.size
  kp := fun k h1 h2 => (hb.block k (Nat.lt_of_lt_of_le h1 h.sz)).trans (h.kp k h1 h2)
  eq := h.eq
theorem results_par {P : Program} {fn : Func} {p u x : Tmp} {ty : TypeId} (h : fn.results = #[.cell p ty, .tmp u, .tmp x]) (tmps : Array Value) (w : World) (g : Nat) (t : TypeId) (cs : Array Value) (d : TypeDesc)
    (hp : tmps.getD p undef = .pointer (some ⟨g, 0, none⟩)) (hg : w.heap[g]? = some (.cells cs t (0, 0))) (hu : P.underlying ty = some d) (hd : (match d with | .struct _ | .array _ _ => true | _ => false) = true) (hi : (P.info? ty).map (·.size) = some cs.size) :
    (results fn tmps).run P w = .ok (.tuple #[.agg cs, tmps.getD u undef, tmps.getD x undef]) w := by
  have hp' : tmps[p]?.getD undef = .pointer (some ⟨g, 0, none⟩) := by simpa using hp
  simp [results, h, hp', asAddr, run_loadVar_row w g t ty cs (0, 0) d hg hu hd hi]
set_option maxRecDepth 10000 in
set_option maxHeartbeats 800000 in
theorem refParse_long (B : ByteArray) (hB : 1048576 < B.size) (w : World) : Calls Tryz.prog 13 #[.string B] w fun e w' => RefPar w w' (.stop 0 3) e ∧ Below w.heap.size w w' := by
  have q0 : (1048576 : Int) < (B.size : Int) := by omega
  go_enter Tryz.func13, Tryz.ntmps13
  go_wp2
  (try simp only [Exit.inBlock, Exit.then])
  refine bodyPost_ret (results_par rfl _ _ w.heap.size 24 _ _ rfl (heap_alloc_new w _) Tryz.underlying24 rfl (by kernel_rfl)) rfl ?_
  exact ⟨rfl, (Below.refl _ _).alloc (Nat.le_refl _) _⟩
set_option maxRecDepth 10000 in
set_option maxHeartbeats 3200000 in
theorem refParse_any (B : ByteArray) (hB : B.size ≤ 1048576) (w : World) : Calls Tryz.prog 13 #[.string B] w fun e w' => RefPar w w' (prsN (prsL B.data.toList)) e ∧ Below w.heap.size w w' := by
  have hbz := bsize B
  have q0 : ¬ (1048576 : Int) < (B.size : Int) := by omega
  obtain ⟨R, hR⟩ : ∃ R, R = prsN (prsL B.data.toList) := ⟨_, rfl⟩
  rw [← hR]
  have hR2 : R = docP [] 0 (linesD [] B.data.toList) := by rw [hR]; exact doc_same B.data.toList.length [] 0 B.data.toList (Nat.le_refl _)
  have HR := hid0 hR2
  clear hR hR2
  have hll := linesD_le B.data.toList []
  have HLl : Hid (∀ t ∈ linesD [] B.data.toList, t.length ≤ 1048576) := hid0 (fun t ht => by have := hll t ht; simp at this; omega)
  clear hll
  obtain ⟨w0, hw0⟩ : ∃ w0, w0 = (w.alloc (.cells #[.slice none 0 0] 24)).alloc (.cells #[.slice none 0 0] 24) := ⟨_, rfl⟩
  have hs0 : w0.heap.size = w.heap.size + 2 := by rw [hw0]; simp
  have HB0 : Hid (Below w.heap.size w w0) := hid0 (by rw [hw0]; exact ((Below.refl _ _).alloc (Nat.le_refl _) _).alloc (by simp) _)
  have HR0 : Hid (w0.heap[w.heap.size]? = some (.cells #[.slice none 0 0] 24 (0, 0))) := hid0 (by rw [hw0]; exact (Below.heap_alloc _ _ _ (by simp)).trans (heap_alloc_new w _))
  have HR1 : Hid (w0.heap[w.heap.size + 1]? = some (.cells #[.slice none 0 0] 24 (0, 0))) := hid0 (by
    rw [hw0]
    have h := heap_alloc_new (w.alloc (.cells #[.slice none 0 0] 24)) (.cells #[.slice none 0 0] 24)
    rw [show (w.alloc (.cells #[.slice none 0 0] 24)).heap.size = w.heap.size + 1 by simp] at h
    exact h)
  have HLn := hid0 (refLines6_any B (by omega) w0 w0.heap.size (Nat.le_refl _))
  have HS0 := hid0 hs0
  have hfold := hw0.symm
  clear hw0 hs0
  go_enter Tryz.func13, Tryz.ntmps13
  go_wp2_with (go_at_call 27; refine HLn.out.mono ?_; rintro e w2 ⟨v, L, rfl, ho, hm, hl, hb⟩; have hox := ho; obtain ⟨al, cl, rfl, _, _⟩ := ho.sa; have HOw := hid0 hox; have HM := hid0 hm; have HB2 := hid0 hb; clear ho hox hm hb)
  have hsz2 := HB2.out.size
  have hlen : L.length ≤ 4194401 := hl
  have HSA : Hid (∀ W, (∀ k, k < w2.heap.size → k ≠ w.heap.size + 1 → W.heap[k]? = w2.heap[k]?) → SA W al L) := hid0 (fun W hW => by
    have h1 : OwnS W w0.heap.size (.slice al L.length cl) L := own_blk HOw.out (fun k hk => hW k (World.ownsRow.lt HOw.out k hk).2 (by have := (World.ownsRow.lt HOw.out k hk).1; have := HS0.out; omega))
    obtain ⟨a2, c2, e, h2, _⟩ := h1.sa
    injection e with e
    rw [e]
    exact h2)
  have HPI : Hid (PI w w2 w2 none 0 [] (L.map (fun t => t.data.toList)) R 0) := hid0 (by
    refine ⟨WB.nil _ _, ?_, ?_, Below.later HB0.out HB2.out, Nat.le_refl _, fun _ _ _ => rfl, ?_⟩
    · exact (HB2.out.block _ (by have := HS0.out; omega)).trans HR0.out
    · exact (HB2.out.block _ (by have := HS0.out; omega)).trans HR1.out
    · rw [HR.out, HM.out]; rfl)
  clear hfold HOw HB2 HB0 HR0 HR1 HLn
  go_loopw [7] (fun i wr => ∃ (k : Nat) (a : Option Addr) (c : Nat) (S : List SecO), k ≤ L.length ∧ i = .int .i64 (k : Int) ∧ S.length ≤ 500 ∧ Hid (nEd (secsO S) ≤ 20000) ∧ Hid (PI w w2 wr a c S (L.map (fun t => t.data.toList)) R k)) (fun i _ => L.length - (intOf i).toNat)
  case atStart => exact ⟨0, none, 0, [], Nat.zero_le _, rfl, by simp, hid0 (by simp [nEd, secsO]), HPI⟩
  case round =>
    obtain ⟨k, a, c, S, hk, rfl, hS, HN, HP⟩ := hrel
    by_cases hlt : k < L.length
    · have q1 : (k : Int) < (L.length : Int) := by omega
      have q2 : (0 : Int) ≤ (k : Int) := by omega
      obtain ⟨b, off, rfl, hb, hcl⟩ := (HSA.out wr HP.out.kp).at' k hlt
      have hlk : L[k].size ≤ 1048576 := by
        have h := HLl.out L[k].data.toList (by rw [← HM.out]; exact List.mem_map.2 ⟨L[k], List.getElem_mem hlt, rfl⟩)
        rw [bsize] at h
        exact h
      obtain ⟨x, hx⟩ : ∃ x, x = whatF (lineB L[k].data.toList) := ⟨_, rfl⟩
      have HWh := hid0 (fun W => what_any L[k] (by omega) W)
      rw [← hx] at HWh
      obtain ⟨hx1, hx2⟩ := whatF_le (lineB L[k].data.toList)
      have hx3 := lineB_le L[k].data.toList
      rw [← hx] at hx1 hx2
      have hx4 := bsize L[k]
      have HLf : Hid (∀ W, XA W a (secsO S) → Calls Tryz.prog 29 #[.agg #[.slice a S.length c], lnV x] W fun e w' => e = .returned (.int .i64 ((lfF (secsO S) x : Nat) : Int)) ∧ Below W.heap.size W w') := hid0 (fun W hW => by
        have h := lineFault_any (secsO S) a c x W (by rw [secsO_length]; exact hS) HN.out hx1 (by omega) hW
        rw [secsO_length] at h
        exact h)
      have HWi : Hid (lfF (secsO S) x = 0 → ∀ W, WB W w2.heap.size (.slice a S.length c) S → w2.heap.size ≤ W.heap.size → Calls Tryz.prog 30 #[.agg #[.slice a S.length c], lnV x] W fun e w' => WthA W w2.heap.size (withF (secsO S) x) e w') := hid0 (fun hf W hW hsz => with_any w2.heap.size a c S x W hS HN.out hsz hx1 hf hW)
      have HStep : Hid (R = match lineD (secsO S) x with | .stop i => PRes.stop (k + 1) i | .go S' => docP S' (k + 1) ((L.map (fun t => t.data.toList)).drop (k + 1))) := hid0 (by
        rw [HP.out.eq, List.drop_eq_getElem_cons (by simp; exact hlt), docP, hx]
        simp only [List.getElem_map]
        cases lineD (secsO S) (whatF (lineB L[k].data.toList)) <;> rfl)
      have hin := fun hf => with_in (S := secsO S) (x := x) hf (by rw [secsO_length]; exact hS) HN.out
      have HIn := hid0 hin
      clear hin hx hx2 hx3 hx4 HN
      unfold lnV at HWh HLf HWi
      generalize L[k] = LK at *
      by_cases hf : lfF (secsO S) x = 0
      · have HWi2 := hid0 (HWi.out hf)
        rw [hf] at HLf
        have HNx : Hid (R = docP (withF (secsO S) x) (k + 1) ((L.map (fun t => t.data.toList)).drop (k + 1))) := hid0 (by
          have h := HStep.out
          unfold lineD at h
          rw [if_pos hf] at h
          exact h)
        have HIn2 := hid0 (HIn.out hf)
        clear HWi HStep HIn hf
        generalize withF (secsO S) x = S' at *
        generalize (x.1 : Int) = X1 at *
        generalize strOf x.2 = X2 at *
        go_wp2_with (first
          | (go_at_call 28; refine (HWh.out _).mono ?_; rintro e w3 ⟨rfl, hb3⟩; have HP3 := hid0 (HP.out.later hb3); have u5 := (row1 HP3.out.c5).1; have HP4 := hid0 (HP3.out.later ((Below.refl _ _).alloc (Nat.le_refl _) (.cells #[.int .i64 X1, .string X2] 71))); have u6 := (row1 HP4.out.c5).1; clear hb3)
          | (go_at_call 29; refine (HLf.out _ HP4.out.wb.xa).mono ?_; rintro e w5 ⟨rfl, hb5⟩; have HP5 := hid0 (HP4.out.later hb5); have u7 := (row1 HP5.out.c5).1; have HB5 := hid0 hb5; have hrow := (hb5.block w3.heap.size (by simp)).trans (heap_alloc_new w3 _); obtain ⟨u8, u9, _, _⟩ := row2 hrow; clear hb5 hrow)
          | (go_at_call 30; refine (HWi2.out _ HP5.out.wb HP5.out.sz).mono ?_; rintro e w6 ⟨v6, S6, rfl, hw6, he6, hb6⟩; have HW6 := hid0 hw6; have HE6 := hid0 he6; have HB6 := hid0 hb6; obtain ⟨a6, c6, rfl, _⟩ := hw6.form; have hsz6 := hsz2; have HC6 := hid0 ((hb6.block (w.heap.size + 1) (by have := HS0.out; omega)).trans HP5.out.c5); obtain ⟨u10, u11⟩ := row1 HC6.out; clear hw6 he6 hb6)
          | fail)
        go_roundw
        case rel =>
          refine ⟨k + 1, a6, c6, S6, hlt, by go_num, ?_, hid0 ?_, hid0 ⟨?_, ?_, ?_, ?_, ?_, ?_, ?_⟩⟩
          · have := HIn2.out.1
            rw [← HE6.out, secsO_length] at this
            exact this
          · have := HIn2.out.2
            rw [← HE6.out] at this
            exact this
          · exact HW6.out.keep (fun q hq => Below.heap_setCell _ _ _ q (by have := (HW6.out.lt hq).1; have := HS0.out; simp only; omega))
          · exact (Below.heap_setCell _ _ _ _ (by simp only; omega)).trans ((HB6.out.block _ (by have := HS0.out; omega)).trans HP5.out.c2)
          · exact set_one _ HC6.out
          · exact (HP5.out.bel.trans (lowB HB6.out (by have := HS0.out; omega))).setCell (p := ⟨w.heap.size + 1, 0, none⟩) (by simp only; omega) _
          · have := HB6.out.size
            have := HP5.out.sz
            simp
            omega
          · exact fun q h1 h2 => (Below.heap_setCell _ _ _ q h2).trans ((HB6.out.block q h1).trans (HP5.out.kp q h1 h2))
          · rw [HNx.out, HE6.out]
        case measure => simp [intOf]; omega
      · have hfI : (((lfF (secsO S) x : Nat) : Int) == 0) = false := beq_eq_false_iff_ne.2 (by omega)
        have HNx : Hid (R = .stop (k + 1) (lfF (secsO S) x)) := hid0 (by
          have h := HStep.out
          unfold lineD at h
          rw [if_neg hf] at h
          exact h)
        clear HWi HStep HIn hf
        generalize lfF (secsO S) x = F at *
        generalize (x.1 : Int) = X1 at *
        generalize strOf x.2 = X2 at *
        go_wp2_with (first
          | (go_at_call 28; refine (HWh.out _).mono ?_; rintro e w3 ⟨rfl, hb3⟩; have HP3 := hid0 (HP.out.later hb3); have u5 := (row1 HP3.out.c5).1; have HP4 := hid0 (HP3.out.later ((Below.refl _ _).alloc (Nat.le_refl _) (.cells #[.int .i64 X1, .string X2] 71))); have u6 := (row1 HP4.out.c5).1; clear hb3)
          | (go_at_call 29; refine (HLf.out _ HP4.out.wb.xa).mono ?_; rintro e w5 ⟨rfl, hb5⟩; have HP5 := hid0 (HP4.out.later hb5); obtain ⟨u7, u8⟩ := row1 HP5.out.c2; clear hb5)
          | fail)
        (try simp only [Exit.inBlock, Exit.then])
        refine bodyPost_ret (results_par rfl _ _ w.heap.size 24 _ _ rfl (set_one _ HP5.out.c2) Tryz.underlying24 rfl (by kernel_rfl)) rfl ?_
        rw [HNx.out]
        exact ⟨by unfold RefPar; simp only; rfl, HP5.out.bel.setCell (p := ⟨w.heap.size, 0, none⟩) (Nat.le_refl _) _⟩
    · have q1 : ¬ (k : Int) < (L.length : Int) := by omega
      have HNx : Hid (R = .ok (secsO S)) := hid0 (by rw [HP.out.eq, List.drop_eq_nil_of_le (by simp; omega)]; rfl)
      obtain ⟨u5, _⟩ := row1 HP.out.c5
      obtain ⟨u6, u7⟩ := row1 HP.out.c2
      go_wp2
      (try simp only [Exit.inBlock, Exit.then])
      refine bodyPost_ret (results_par rfl _ _ w.heap.size 24 _ _ rfl (set_one _ HP.out.c2) Tryz.underlying24 rfl (by kernel_rfl)) rfl ?_
      rw [HNx.out]
      refine ⟨⟨_, S, rfl, (HP.out.wb.keep (fun q hq => Below.heap_setCell _ _ _ q ?_)).lower (by have := HS0.out; omega), rfl⟩, HP.out.bel.setCell (p := ⟨w.heap.size, 0, none⟩) (Nat.le_refl _) _⟩
      have := (HP.out.wb.lt hq).1
      have := HS0.out
      simp only
      omega
end Go.Proofs.YtlfeiadgahdgoaaGreatDoor
namespace Go.Proofs.YtlfeiadgahdgoaaGreatDoor
open Go.RowKit Go.Shelf Go.Lib
/-- The mark of the i-th list. -/
def mkS (i : Nat) : List UInt8 := [109, UInt8.ofNat i, UInt8.ofNat (i / 256), UInt8.ofNat (i / 65536)]
set_option maxRecDepth 10000 in
set_option maxHeartbeats 800000 in
theorem mark6_any (i : Nat) (hi : i ≤ 100000) (w : World) : Calls Tryz.prog 33 #[.int .i64 (i : Int)] w fun e w' => e = .returned (.string (strOf (mkS i))) ∧ Below w.heap.size w w' := by
  have hcv : (convert 48 9 (.slice (some ⟨w.heap.size, 0, none⟩) 4 4)).run Tryz.prog (w.alloc (.cells #[.int .u8 109, .int .u8 ((i : Int) % 256), .int .u8 ((i : Int) / 256 % 256), .int .u8 ((i : Int) / 65536)] 5)) = .ok (.string (strOf (mkS i))) (w.alloc (.cells #[.int .u8 109, .int .u8 ((i : Int) % 256), .int .u8 ((i : Int) / 256 % 256), .int .u8 ((i : Int) / 65536)] 5)) := by
    refine run_convert_bytes_back (P := Tryz.prog) _ 48 9 5 ⟨w.heap.size, 0, none⟩ 4 (mkS i) Tryz.underlying48 Tryz.underlying5 Tryz.underlying9 (fun j hj => ?_)
    rw [Addr.add_lit, cell_of_row _ _ _ _ _ _ (heap_alloc_new w _)]
    have hj4 : j < 4 := hj
    obtain rfl | rfl | rfl | rfl : j = 0 ∨ j = 1 ∨ j = 2 ∨ j = 3 := by omega
    · rfl
    · simp [mkS, UInt8.toNat_ofNat']
    · simp [mkS, UInt8.toNat_ofNat']
    · simp [mkS, UInt8.toNat_ofNat']
      omega
  go_enter Tryz.func33, Tryz.ntmps33
  go_wp2
  go_ret
  exact ⟨by rfl, (Below.refl _ _).alloc (Nat.le_refl _) _⟩
end Go.Proofs.YtlfeiadgahdgoaaGreatDoor
namespace Go.Proofs.YtlfeiadgahdgoaaGreatDoor
open Go.RowKit Go.Shelf Go.Lib
/-- The first n records have the mark of the j-th list. -/
def MkR (s off j n : Nat) (xs : List Value) : Prop := ∀ k, k < n → xs[k * s + off]? = some (.string (strOf (mkS j)))
def Aprt (vs : List (Value × Nat)) : Prop := ∀ j j' (h : j < vs.length) (h' : j' < vs.length), j ≠ j' → ∀ g, vs[j].1.ownBlock = some g → vs[j'].1.ownBlock ≠ some g
/-- All memory but that of the lists is as it was. -/
structure Kp (w0 wr : World) (lo : Nat) (vs : List (Value × Nat)) : Prop where
  sz : w0.heap.size ≤ wr.heap.size
  kp : ∀ k, k < w0.heap.size → (∀ j (h : j < vs.length), vs[j].1.ownBlock ≠ some k) → wr.heap[k]? = w0.heap[k]?
  bel : Below lo w0 wr
theorem Kp.refl (w : World) (lo : Nat) (vs : List (Value × Nat)) : Kp w w lo vs := ⟨Nat.le_refl _, fun _ _ _ => rfl, Below.refl _ _⟩
theorem Kp.later {w0 wr wz : World} {lo : Nat} {vs : List (Value × Nat)} (h : Kp w0 wr lo vs) (hb : Below wr.heap.size wr wz) (hl : lo ≤ w0.heap.size) : Kp w0 wz lo vs :=
  ⟨Nat.le_trans h.sz hb.size, fun k h1 h2 => (hb.block k (Nat.lt_of_lt_of_le h1 h.sz)).trans (h.kp k h1 h2), h.bel.trans (lowB hb (Nat.le_trans hl h.sz))⟩
/-- Full up to the i-th, of that one the first kk. -/
structure Fl (w0 wr : World) (lo t s off : Nat) (vs : List (Value × Nat)) (i kk : Nat) : Prop where
  own : ∀ j (h : j < vs.length), ∃ xs, wr.ownsRow lo t s vs[j].1 vs[j].2 xs ∧ (j < i → MkR s off j vs[j].2 xs) ∧ (j = i → MkR s off j kk xs)
  kp : Kp w0 wr lo vs
theorem Fl.later {w0 wr wz : World} {lo t s off : Nat} {vs : List (Value × Nat)} {i kk : Nat} (h : Fl w0 wr lo t s off vs i kk) (hb : Below wr.heap.size wr wz) (hl : lo ≤ w0.heap.size) : Fl w0 wz lo t s off vs i kk :=
  ⟨fun j hj => by
    obtain ⟨xs, h1, h2, h3⟩ := h.own j hj
    exact ⟨xs, own_blk h1 (fun k hk => hb.block k (World.ownsRow.lt h1 k hk).2), h2, h3⟩, h.kp.later hb hl⟩
theorem Fl.at {w0 wr : World} {lo t s off : Nat} {vs : List (Value × Nat)} {i kk : Nat} (h : Fl w0 wr lo t s off vs i kk) (hi : i < vs.length) (hk : 0 < vs[i].2) :
    ∃ g cap, vs[i].1 = .slice (some ⟨g, 0, none⟩) vs[i].2 cap ∧ lo ≤ g ∧ g < wr.heap.size ∧ ∀ p, p < vs[i].2 * s → (∃ u, wr.cell? ⟨g, p, none⟩ = some u) ∧ wr.frozen? ⟨g, p, none⟩ = false := by
  obtain ⟨xs, h1, _, _⟩ := h.own i hi
  obtain ⟨g, cap, e, h2, h3, _⟩ := own_form h1 hk
  rw [e] at h1
  refine ⟨g, cap, e, h2, h3, fun p hp => ⟨⟨xs[p]'(by rw [h1.1]; exact hp), ?_⟩, World.ownsRow.frozenAt h1 p⟩⟩
  rw [World.ownsRow.cellAt h1 p hp, List.getElem?_eq_getElem]
/-- One cell of the i-th is written. -/
theorem Fl.set {w0 wr : World} {lo t s off : Nat} {vs : List (Value × Nat)} {i kk kk' : Nat} (h : Fl w0 wr lo t s off vs i kk) (ha : Aprt vs) (hi : i < vs.length) {g cap : Nat} (hv : vs[i].1 = .slice (some ⟨g, 0, none⟩) vs[i].2 cap) (p : Nat) (u : Value)
    (hm : ∀ xs, xs.length = vs[i].2 * s → MkR s off i kk xs → MkR s off i kk' (xs.set p u)) : Fl w0 (wr.setCell ⟨g, p, none⟩ u) lo t s off vs i kk' := by
  have hgi : vs[i].1.ownBlock = some g := by rw [hv]; rfl
  have hlo : lo ≤ g := by
    obtain ⟨xs, h1, _, _⟩ := h.own i hi
    exact (World.ownsRow.lt h1 g hgi).1
  refine ⟨fun j hj => ?_, ⟨?_, fun k h1 h2 => ?_, h.kp.bel.setCell (p := ⟨g, p, none⟩) hlo u⟩⟩
  · obtain ⟨xs, h1, h2, h3⟩ := h.own j hj
    by_cases e : j = i
    · subst e
      have h1' := h1
      rw [hv] at h1'
      have h4 := (World.ownsRow.stored h1' p u).1
      rw [← hv] at h4
      exact ⟨xs.set p u, h4, fun hlt => absurd hlt (Nat.lt_irrefl _), fun _ => hm xs h1.1 (h3 rfl)⟩
    · exact ⟨xs, own_blk h1 (fun k hk => Below.heap_setCell _ _ _ k (fun e2 => ha j i hj hi e k hk (by simp only at e2; rw [e2]; exact hgi))), h2, fun e2 => absurd e2 e⟩
  · have := h.kp.sz
    simp
    omega
  · exact (Below.heap_setCell _ _ _ k (fun e => h2 i hi (by simp only at e; rw [e]; exact hgi))).trans (h.kp.kp k h1 h2)
theorem Fl.poke {w0 wr : World} {lo t s off : Nat} {vs : List (Value × Nat)} {i kk : Nat} (h : Fl w0 wr lo t s off vs i kk) (ha : Aprt vs) (hi : i < vs.length) {g cap : Nat} (hv : vs[i].1 = .slice (some ⟨g, 0, none⟩) vs[i].2 cap) (p : Nat) (u : Value)
    (hp : ∀ k, k < kk → p ≠ k * s + off) : Fl w0 (wr.setCell ⟨g, p, none⟩ u) lo t s off vs i kk :=
  h.set ha hi hv p u (fun xs _ hm k hk => by rw [List.getElem?_set_ne (hp k hk)]; exact hm k hk)
theorem Fl.mark {w0 wr : World} {lo t s off : Nat} {vs : List (Value × Nat)} {i kk : Nat} (h : Fl w0 wr lo t s off vs i kk) (ha : Aprt vs) (hi : i < vs.length) {g cap : Nat} (hv : vs[i].1 = .slice (some ⟨g, 0, none⟩) vs[i].2 cap) (hk : kk < vs[i].2) (ho : off < s) :
    Fl w0 (wr.setCell ⟨g, kk * s + off, none⟩ (.string (strOf (mkS i)))) lo t s off vs i (kk + 1) :=
  h.set ha hi hv _ _ (fun xs hl hm k hkk => by
    have hlt : kk * s + off < xs.length := by
      rw [hl]
      have : (kk + 1) * s ≤ vs[i].2 * s := Nat.mul_le_mul_right s hk
      rw [Nat.add_mul, Nat.one_mul] at this
      omega
    by_cases e : k = kk
    · subst e
      rw [List.getElem?_set_self hlt]
    · rw [List.getElem?_set_ne]
      · exact hm k (by omega)
      · intro e2
        have h1 : kk * s = k * s := by omega
        exact e (Nat.eq_of_mul_eq_mul_right (by omega) h1.symm))
theorem Fl.next {w0 wr : World} {lo t s off : Nat} {vs : List (Value × Nat)} {i kk : Nat} (h : Fl w0 wr lo t s off vs i kk) (hk : ∀ (hi : i < vs.length), vs[i].2 ≤ kk) : Fl w0 wr lo t s off vs (i + 1) 0 :=
  ⟨fun j hj => by
    obtain ⟨xs, h1, h2, h3⟩ := h.own j hj
    refine ⟨xs, h1, fun hlt => ?_, fun _ k hk => absurd hk (Nat.not_lt_zero _)⟩
    by_cases e : j = i
    · subst e
      exact fun k hkk => h3 rfl k (Nat.lt_of_lt_of_le hkk (hk hj))
    · exact h2 (by omega), h.kp⟩
/-- All read as they were marked; those from i on are still their own. -/
structure Gz (w0 wr : World) (lo t s off : Nat) (vs : List (Value × Nat)) (i : Nat) : Prop where
  own : ∀ j (h : j < vs.length), i ≤ j → ∃ xs, wr.ownsRow lo t s vs[j].1 vs[j].2 xs
  rd : ∀ j (h : j < vs.length), ∀ k, k < vs[j].2 → ∃ g cap, vs[j].1 = .slice (some ⟨g, 0, none⟩) vs[j].2 cap ∧ wr.cell? ⟨g, k * s + off, none⟩ = some (.string (strOf (mkS j)))
  kp : Kp w0 wr lo vs
theorem Fl.gz {w0 wr : World} {lo t s off : Nat} {vs : List (Value × Nat)} {kk : Nat} (h : Fl w0 wr lo t s off vs vs.length kk) (ho : off < s) : Gz w0 wr lo t s off vs 0 :=
  ⟨fun j hj _ => by
    obtain ⟨xs, h1, _, _⟩ := h.own j hj
    exact ⟨xs, h1⟩, fun j hj k hk => by
    obtain ⟨xs, h1, h2, _⟩ := h.own j hj
    obtain ⟨g, cap, e, _⟩ := own_form h1 (by omega)
    refine ⟨g, cap, e, ?_⟩
    rw [e] at h1
    have hlt : k * s + off < vs[j].2 * s := by
      have : (k + 1) * s ≤ vs[j].2 * s := Nat.mul_le_mul_right s hk
      rw [Nat.add_mul, Nat.one_mul] at this
      omega
    rw [World.ownsRow.cellAt h1 _ hlt]
    exact h2 hj k hk, h.kp⟩
/-- The i-th while it grows. -/
structure Gx (w0 wr : World) (lo t s off : Nat) (vs : List (Value × Nat)) (i n m : Nat) (lv : Value) : Prop where
  gz : Gz w0 wr lo t s off vs (i + 1)
  own : ∃ xs, wr.ownsRow lo t s lv (n + m) xs
  aw : ∀ j (h : j < vs.length), j ≠ i → ∀ g, lv.ownBlock = some g → vs[j].1.ownBlock ≠ some g
  nw : ∀ g, lv.ownBlock = some g → (∃ h : i < vs.length, vs[i].1.ownBlock = some g) ∨ w0.heap.size ≤ g
  nn : ∀ h : i < vs.length, vs[i].2 = n
theorem Gz.start {w0 wr : World} {lo t s off : Nat} {vs : List (Value × Nat)} {i : Nat} (h : Gz w0 wr lo t s off vs i) (ha : Aprt vs) (hi : i < vs.length) : Gx w0 wr lo t s off vs i vs[i].2 0 vs[i].1 :=
  ⟨⟨fun j hj hl => h.own j hj (by omega), h.rd, h.kp⟩, h.own i hi (Nat.le_refl _), fun j hj hne g hg => ha i j hi hj (fun e => hne e.symm) g hg, fun g hg => .inl ⟨hi, hg⟩, fun _ => rfl⟩
theorem Gx.step {w0 wr w1 : World} {lo t s off : Nat} {vs : List (Value × Nat)} {i n m : Nat} {lv lv' : Value} {o : Obj} {xs' : List Value} (h : Gx w0 wr lo t s off vs i n m lv) (ho : off < s) (hl : lo ≤ w0.heap.size) (hv0 : ∀ j (h : j < vs.length) g, vs[j].1.ownBlock = some g → g < w0.heap.size)
    (hown : w1.ownsRow lo t s lv' (n + m + 1) xs') (hg : (wr.alloc o).grownBy w1 lv.ownBlock) (hat : lv'.ownBlock = lv.ownBlock ∨ lv'.ownBlock = some (wr.alloc o).heap.size)
    (hfr : ∀ g j u, lv.ownBlock = some g → j < (n + m) * s → (wr.alloc o).cell? ⟨g, j, none⟩ = some u → w1.cell? ⟨g, j, none⟩ = some u) : Gx w0 w1 lo t s off vs i n (m + 1) lv' := by
  have hsz : (wr.alloc o).heap.size = wr.heap.size + 1 := by simp
  have hs0 := h.gz.kp.sz
  have hlow : ∀ g, lv.ownBlock = some g → lo ≤ g := fun g hg => by
    obtain ⟨xs, h1⟩ := h.own
    exact (World.ownsRow.lt h1 g hg).1
  have hb : ∀ k, k < wr.heap.size → lv.ownBlock ≠ some k → w1.heap[k]? = wr.heap[k]? := fun k h1 h2 => (hg.block k (by omega) (fun e => h2 e.symm)).trans (Below.heap_alloc wr o k h1)
  refine ⟨⟨fun j hj hji => ?_, fun j hj k hk => ?_, ⟨?_, fun k h1 h2 => ?_, ?_⟩⟩, ⟨xs', hown⟩, fun j hj hne g hgg => ?_, fun g hgg => ?_, h.nn⟩
  · obtain ⟨xs, h1⟩ := h.gz.own j hj hji
    exact ⟨xs, own_blk h1 (fun k hk => hb k (World.ownsRow.lt h1 k hk).2 (fun e => h.aw j hj (by omega) k e hk))⟩
  · obtain ⟨g, cap, e, hc⟩ := h.gz.rd j hj k hk
    refine ⟨g, cap, e, ?_⟩
    have hgl : g < wr.heap.size := World.block_lt_of_cell? wr _ hc
    have hc2 : (wr.alloc o).cell? ⟨g, k * s + off, none⟩ = some (.string (strOf (mkS j))) := (World.cell?_of_block (a := ⟨g, k * s + off, none⟩) (Below.heap_alloc wr o g hgl)).trans hc
    by_cases hlg : lv.ownBlock = some g
    · have hji : j = i := by
        by_cases e2 : j = i
        · exact e2
        · exact absurd (by rw [e]; rfl) (h.aw j hj e2 g hlg)
      subst hji
      have hn := h.nn hj
      refine hfr g _ _ hlg ?_ hc2
      have h1 : (k + 1) * s ≤ (n + m) * s := Nat.mul_le_mul_right s (by omega)
      rw [Nat.add_mul, Nat.one_mul] at h1
      omega
    · exact (World.cell?_of_block (a := ⟨g, k * s + off, none⟩) (hb g hgl hlg)).trans hc
  · have := hg.size
    omega
  · refine (hb k (by omega) (fun e => ?_)).trans (h.gz.kp.kp k h1 h2)
    rcases h.nw k e with ⟨hi, h3⟩ | h3
    · exact h2 i hi h3
    · omega
  · exact (h.gz.kp.bel.alloc (by omega) o).grown hg (by omega) (fun k hk => hlow k hk)
  · rcases hat with e | e
    · rw [e] at hgg; exact h.aw j hj hne g hgg
    · rw [e, hsz] at hgg
      injection hgg with hgg
      intro e2
      have := hv0 j hj g e2
      omega
  · rcases hat with e | e
    · rw [e] at hgg; exact h.nw g hgg
    · rw [e, hsz] at hgg
      injection hgg with hgg
      exact .inr (by omega)
end Go.Proofs.YtlfeiadgahdgoaaGreatDoor
namespace Go.Proofs.YtlfeiadgahdgoaaGreatDoor
open Go.RowKit Go.Shelf Go.Lib
section
variable {P : Program} (w : World)
theorem run_append_own_front (base : Nat) (t ty e : TypeId) (i : TypeInfo) (z : Value) (size bytes : Nat) (ht : P.underlying t = some (.slice e)) (hi : P.info? e = some i) (hz : i.zero = some z)
    (hsize : i.size = size) (hby : i.bytes = bytes) (hzs : z.cells.size = size) (hsz : 0 < size)
    (v : Value) (n : Nat) (xs : List Value) (hown : w.ownsRow base e size v n xs)
    (a : Addr) (m c : Nat) (news : List Value) (hl : news.length = m * size) (hnews : ∀ j u, news[j]? = some u → w.cell? (a.add j) = some u) (h1 : ∀ u ∈ news, u.oneCell' = true)
    (h63 : n + m ≤ maxLen) (hbytes : (n + m) * bytes ≤ 140737488355328) (hbase : base ≤ w.heap.size) :
    ∃ v' w', (Builtin.append_ #[t, t] ty #[v, .slice (some a) m c]).run P w = .ok v' w' ∧ w'.ownsRow base e size v' (n + m) (xs ++ news) ∧ w.grownBy w' v.ownBlock ∧
      (v'.ownBlock = v.ownBlock ∨ v'.ownBlock = some w.heap.size) ∧ (∀ g j u, v.ownBlock = some g → j < n * size → w.cell? ⟨g, j, none⟩ = some u → w'.cell? ⟨g, j, none⟩ = some u) := by
  obtain ⟨v', w', hr, h2, h3, _, h5⟩ := run_append_own_at (P := P) w base t ty e i z size bytes ht hi hz hsize hby hzs hsz v n xs hown a m c news hl hnews h1 h63 hbytes hbase
  refine ⟨v', w', hr, h2, h3, h5, ?_⟩
  intro g j u hg hj hc
  have hjx : j < xs.length := by rw [hown.1]; exact hj
  have hxu : xs[j]? = some u := by
    have e1 := hown.cells hg j xs[j] (List.getElem?_eq_getElem hjx)
    rw [Addr.add_lit, Nat.zero_add, hc] at e1
    rw [List.getElem?_eq_getElem hjx, ← Option.some.inj e1]
  rcases h5 with h5 | h5
  · have e2 := h2.cells (h5.trans hg) j u (by rw [List.getElem?_append_left hjx]; exact hxu)
    rw [Addr.add_lit, Nat.zero_add] at e2
    exact e2
  · have hglt := (hown.lt g hg).2
    rcases hown.2 with ⟨rfl, _⟩ | ⟨g', cap, cur, rfl, hbg, hgg, hnc, hcm, hcs, htake⟩
    · simp [Value.ownBlock] at hg
    · have hge : g' = g := by simpa [Value.ownBlock] using hg
      subst hge
      by_cases hroom : n + m ≤ cap
      · obtain ⟨w2, hr2, _⟩ := run_append_own_spare (P := P) w base t ty e i size ht hi hsize g' n cap xs hown a m c news hl hnews h1 hroom
        rw [hr] at hr2
        cases hr2
        simp [Value.ownBlock] at h5
        omega
      · subst hsize hby
        have holds : ∀ j u, xs[j]? = some u → w.cell? ((⟨g', 0, none⟩ : Addr).add j) = some u := hown.cells (g := g') rfl
        have hr2 := run_append_grow (P := P) w t ty e i z ht hi hz ⟨g', 0, none⟩ n cap xs hown.1 holds a m c news hl hnews (by omega) (by simp only [maxLen] at h63; omega) (growslice_fits (by omega) hbytes)
        rw [hr] at hr2
        cases hr2
        exact (World.cell?_of_block (w := w) (a := ⟨g', j, none⟩) (heap_alloc_old w.drew _ (r := g') hglt)).trans hc
theorem wpList_append_own_front {ops : Array Oper} {rest : List Oper} {o : Oper} {a : Act} {Q : Exit → Act → World → Prop} (hgd : o.guard = none) (s x : Operand) (t : TypeId)
    (ho : o.op = .call { callee := .builtin .append, args := #[s, x], argTypes := #[t, t] })
    (base : Nat) (e : TypeId) (i : TypeInfo) (z : Value) (size bytes : Nat) (ht : P.underlying t = some (.slice e)) (hi : P.info? e = some i) (hz : i.zero = some z)
    (hsize : i.size = size) (hby : i.bytes = bytes) (hzs : z.cells.size = size) (hsz : 0 < size)
    (v : Value) (n : Nat) (xs : List Value) (hs : a.eval s = v) (hown : w.ownsRow base e size v n xs)
    (ad : Addr) (m c : Nat) (news : List Value) (hx : a.eval x = .slice (some ad) m c) (hl : news.length = m * size) (hnews : ∀ j u, news[j]? = some u → w.cell? (ad.add j) = some u) (h1 : ∀ u ∈ news, u.oneCell' = true)
    (h63 : n + m ≤ maxLen) (hbytes : (n + m) * bytes ≤ 140737488355328) (hbase : base ≤ w.heap.size)
    (h : ∀ v' w', w'.ownsRow base e size v' (n + m) (xs ++ news) → w.grownBy w' v.ownBlock → (v'.ownBlock = v.ownBlock ∨ v'.ownBlock = some w.heap.size) → (∀ g j u, v.ownBlock = some g → j < n * size → w.cell? ⟨g, j, none⟩ = some u → w'.cell? ⟨g, j, none⟩ = some u) → wpList P ops Q rest (a.put o.dst v') w') :
    wpList P ops Q (o :: rest) a w := by
  refine wpList_plain hgd fun K hK => ?_
  obtain ⟨v', w', hr, h2, h3, h4, h5⟩ := run_append_own_front (P := P) w base t o.type e i z size bytes ht hi hz hsize hby hzs hsz v n xs hown ad m c news hl hnews h1 h63 hbytes hbase
  unfold Oper.wp execOp
  simp only [ho, resolve, invoke, builtin, Sem.run_bind, Sem.run_pure, Result.andThen_ok, List.map_toArray, List.map_cons, List.map_nil, hs, hx, hr]
  exact hK _ _ (h v' w' h2 h3 h4 h5)
end
end Go.Proofs.YtlfeiadgahdgoaaGreatDoor
namespace Go.Proofs.YtlfeiadgahdgoaaGreatDoor
open Go.RowKit Go.Shelf Go.Lib
theorem infoEds : (Tryz.prog.info? 36).map (fun i => (i.zero, i.size, i.bytes)) = some (some (.slice none 0 0), 1, 24) := by kernel_rfl
/-- A slice of slices while it grows. -/
structure In (w0 wr : World) (lo : Nat) (va vk : Value) (us : List Value) : Prop where
  own : wr.ownsRow lo 36 1 vk us.length us
  nb : ∀ g, vk.ownBlock = some g → va.ownBlock = some g ∨ w0.heap.size ≤ g
  kp : ∀ k, k < w0.heap.size → va.ownBlock ≠ some k → wr.heap[k]? = w0.heap[k]?
  sz : w0.heap.size ≤ wr.heap.size
  bel : Below lo w0 wr
theorem In.step {w0 wr w1 : World} {lo : Nat} {va vk v' : Value} {us : List Value} {x : Value} {o : Obj} (h : In w0 wr lo va vk us) (hl : lo ≤ w0.heap.size)
    (hown : w1.ownsRow lo 36 1 v' (us.length + 1) (us ++ [x])) (hg : (wr.alloc o).grownBy w1 vk.ownBlock) (hat : v'.ownBlock = vk.ownBlock ∨ v'.ownBlock = some (wr.alloc o).heap.size) : In w0 w1 lo va v' (us ++ [x]) := by
  have hsz : (wr.alloc o).heap.size = wr.heap.size + 1 := by simp
  have hs := h.sz
  refine ⟨by rw [List.length_append, List.length_singleton]; exact hown, fun g hgg => ?_, fun k h1 h2 => ?_, ?_, ?_⟩
  · rcases hat with e | e
    · rw [e] at hgg; exact h.nb g hgg
    · rw [e, hsz] at hgg
      injection hgg with hgg
      exact .inr (by omega)
  · refine (hg.block k (by omega) (fun e => ?_)).trans ((Below.heap_alloc wr o k (by omega)).trans (h.kp k h1 h2))
    rcases h.nb k e.symm with e2 | e2
    · exact h2 e2
    · omega
  · have := hg.size
    omega
  · exact (h.bel.alloc (by omega) o).grown hg (by omega) (fun k hk => (World.ownsRow.lt h.own k hk).1)
/-- The slices of the edits of sections, where they lie. -/
def EvA (w : World) (a : Option Addr) (es : List Value) : Prop := ∀ k (h : k < es.length), ∃ b off, a = some ⟨b, off, none⟩ ∧ b < w.heap.size ∧ w.cell? ⟨b, off + k * 3 + 2, none⟩ = some es[k]
set_option maxRecDepth 10000 in
set_option maxHeartbeats 1600000 in
theorem inner_any (lo : Nat) (va : Value) (us es : List Value) (a : Option Addr) (c : Nat) (w : World) (hlo : lo ≤ w.heap.size) (hu : us.length ≤ 10000) (he : es.length ≤ 500) (ho : w.ownsRow lo 36 1 va us.length us) (hE : EvA w a es) (hs : ∀ x ∈ es, ∃ b n q, x = .slice b n q)
    (hb : ∀ b off, a = some ⟨b, off, none⟩ → va.ownBlock ≠ some b) :
    Calls Tryz.prog 32 #[va, .agg #[.slice a es.length c]] w fun e w' => ∃ v', e = .returned v' ∧ In w w' lo va v' (us ++ es) := by
  obtain ⟨j0, hj, hy0, hy1, hy2⟩ := info_parts infoEds
  obtain ⟨w0, hw0⟩ : ∃ w0, w0 = w.alloc (.cells #[.slice a es.length c] 24) := ⟨_, rfl⟩
  have hs0 : w0.heap.size = w.heap.size + 1 := by rw [hw0]; simp
  have hB0 : Below w.heap.size w w0 := by rw [hw0]; exact (Below.refl _ _).alloc (Nat.le_refl _) _
  have hr0 : w0.heap[w.heap.size]? = some (.cells #[.slice a es.length c] 24 (0, 0)) := by rw [hw0]; exact heap_alloc_new w _
  have HI : Hid (In w0 w0 lo va va us) := hid0 ⟨own_blk ho (fun k hk => hB0.block k (World.ownsRow.lt ho k hk).2), fun g hg => .inl hg, fun _ _ _ => rfl, Nat.le_refl _, Below.refl _ _⟩
  have HBx : Hid (∀ W : World, (∀ k, k < w0.heap.size → va.ownBlock ≠ some k → W.heap[k]? = w0.heap[k]?) → W.cell? ⟨w.heap.size, 0, none⟩ = some (.slice a es.length c)) := hid0 (fun W hW => (row1 ((hW _ (by omega) (fun e => by have := (World.ownsRow.lt ho _ e).2; omega)).trans hr0)).1)
  have HEv : Hid (∀ W : World, (∀ k, k < w0.heap.size → va.ownBlock ≠ some k → W.heap[k]? = w0.heap[k]?) → ∀ k (h : k < es.length), ∃ b off, a = some ⟨b, off, none⟩ ∧ W.cell? ⟨b, off + k * 3 + 2, none⟩ = some es[k]) := hid0 (fun W hW k hk => by
    obtain ⟨b, off, e, h1, h2⟩ := hE k hk
    exact ⟨b, off, e, (World.cell?_of_block (a := ⟨b, off + k * 3 + 2, none⟩) ((hW b (by omega) (hb b off e)).trans (hB0.block b h1))).trans h2⟩)
  have HFi : Hid (∀ w' v', In w0 w' lo va v' (us ++ es) → In w w' lo va v' (us ++ es)) := hid0 (fun w' v' h => ⟨h.own, fun g hg => by
    rcases h.nb g hg with h1 | h1
    · exact .inl h1
    · exact .inr (by omega), fun k h1 h2 => (h.kp k (by omega) h2).trans (hB0.block k h1), by have := h.sz; omega, (lowB hB0 hlo).trans h.bel⟩)
  obtain ⟨av, nv, cv, hva⟩ : ∃ av nv cv, va = .slice av nv cv := by
    rcases ho.2 with ⟨h1, _⟩ | ⟨g, cap, cur, h1, _⟩
    · exact ⟨_, _, _, h1⟩
    · exact ⟨_, _, _, h1⟩
  have HS := hid0 hs
  have hfold := hw0.symm
  have hsz : lo ≤ w0.heap.size := by omega
  clear hw0 hs0 hB0 hr0 ho hE hs hb hva
  go_enter Tryz.func32, Tryz.ntmps32
  go_wp2
  clear hfold
  go_loopw [0, 5] (fun v i wr => ∃ k : Nat, k ≤ es.length ∧ i = .int .i64 (k : Int) ∧ Hid (In w0 wr lo va v (us ++ es.take k))) (fun _ i _ => es.length - (intOf i).toNat)
  case atStart => exact ⟨0, Nat.zero_le _, rfl, by rw [List.take_zero, List.append_nil]; exact HI⟩
  case round =>
    obtain ⟨k, hk, rfl, HK⟩ := hrel
    rename_i vk _ _
    have y0 := HBx.out wr HK.out.kp
    by_cases hlt : k < es.length
    · have q1 : (k : Int) < (es.length : Int) := by omega
      have q2 : (0 : Int) ≤ (k : Int) := by omega
      obtain ⟨b, off, rfl, c2⟩ := HEv.out wr HK.out.kp k hlt
      obtain ⟨b1, n1, q3, hx⟩ := HS.out es[k] (List.getElem_mem hlt)
      have hln : (us ++ es.take k).length = us.length + k := by simp; omega
      have HT : Hid (us ++ es.take (k + 1) = us ++ es.take k ++ [es[k]]) := hid0 (by rw [List.take_succ_eq_append_getElem hlt, List.append_assoc])
      have hwl := HK.out.sz
      rw [hx] at c2 HT
      go_wp2_with (at_builtin; go_loud ((
        refine wpList_append_own_at _ (by rfl) _ _ 75 (by rfl) lo 36 j0 (.slice none 0 0) 1 24 Tryz.underlying75 hj hy0 hy1 hy2 rfl (by decide) _ (us ++ es.take k).length (us ++ es.take k) (by rfl) (World.ownsRow.alloc HK.out.own _) ⟨_, 0, none⟩ 1 1 [.slice b1 n1 q3] (by rfl) (by rfl) (cell_one_new _ _ _) (by simp [Value.oneCell']) (by rw [hln]; unfold maxLen; omega) (by rw [hln]; omega) (by simp; omega) ?_
        intro v8 w8 hown8 hgrow8 _ hat8
        have HN := hid0 (HK.out.step hsz hown8 hgrow8 hat8)
        clear hown8 hgrow8 hat8)))
      go_roundw
      case rel => exact ⟨k + 1, hlt, by go_num, by rw [HT.out]; exact HN⟩
      case measure => simp [intOf]; omega
    · have q1 : ¬ (k : Int) < (es.length : Int) := by omega
      have HT : Hid (us ++ es.take k = us ++ es) := hid0 (by rw [List.take_of_length_le (by omega)])
      go_wp2
      go_ret
      exact ⟨_, rfl, HFi.out _ _ (by rw [← HT.out]; exact HK.out)⟩
end Go.Proofs.YtlfeiadgahdgoaaGreatDoor
namespace Go.Proofs.YtlfeiadgahdgoaaGreatDoor
open Go.RowKit Go.Shelf Go.Lib
theorem own_slice6 {w : World} {lo t s : Nat} {v : Value} {n : Nat} {xs : List Value} (h : w.ownsRow lo t s v n xs) : ∃ a c, v = .slice a n c := by
  rcases h.2 with ⟨h1, h2⟩ | ⟨g, cap, cur, h1, _⟩
  · exact ⟨none, 0, by rw [h1, h2]⟩
  · exact ⟨_, _, h1⟩
theorem Gz.later {w0 wr wz : World} {lo t s off : Nat} {vs : List (Value × Nat)} {i : Nat} (h : Gz w0 wr lo t s off vs i) (hb : Below wr.heap.size wr wz) (hl : lo ≤ w0.heap.size) : Gz w0 wz lo t s off vs i :=
  ⟨fun j hj hij => by
    obtain ⟨xs, h1⟩ := h.own j hj hij
    exact ⟨xs, own_blk h1 (fun k hk => hb.block k (World.ownsRow.lt h1 k hk).2)⟩, fun j hj k hk => by
    obtain ⟨g, cap, e, hc⟩ := h.rd j hj k hk
    exact ⟨g, cap, e, (World.cell?_of_block (a := ⟨g, k * s + off, none⟩) (hb.block g (World.block_lt_of_cell? wr _ hc))).trans hc⟩, h.kp.later hb hl⟩
set_option maxRecDepth 10000 in
set_option maxHeartbeats 6400000 in
theorem outer_any (lo gl cl : Nat) (vs : List (Value × Nat)) (w : World) (h4 : vs.length = 4) (hlo : lo ≤ w.heap.size) (hgl : gl < w.heap.size) (hga : ∀ j (h : j < vs.length), vs[j].1.ownBlock ≠ some gl) (hrow : ∀ j (h : j < vs.length), w.cell? ⟨gl, j, none⟩ = some vs[j].1)
    (hown : ∀ j (h : j < vs.length), ∃ xs, w.ownsRow lo 38 3 vs[j].1 vs[j].2 xs) (ha : Aprt vs) (hn : ∀ j (h : j < vs.length), vs[j].2 ≤ 500) :
    Calls Tryz.prog 34 #[.slice (some ⟨gl, 0, none⟩) 4 cl] w fun e w' => e = .returned (.bool true) ∧ Kp w w' lo vs := by
  have HRow : Hid (∀ W : World, Kp w W lo vs → ∀ j (h : j < vs.length), W.cell? ⟨gl, j, none⟩ = some vs[j].1) := hid0 (fun W hW j hj => (World.cell?_of_block (a := ⟨gl, j, none⟩) (hW.kp gl hgl hga)).trans (hrow j hj))
  have HSl : Hid (∀ j (h : j < vs.length), ∃ a c, vs[j].1 = .slice a vs[j].2 c) := hid0 (fun j hj => by obtain ⟨xs, h⟩ := hown j hj; exact own_slice6 h)
  have HV0 : Hid (∀ j (h : j < vs.length) g, vs[j].1.ownBlock = some g → g < w.heap.size) := hid0 (fun j hj g hg => by obtain ⟨xs, h⟩ := hown j hj; exact (World.ownsRow.lt h g hg).2)
  have HF0 : Hid (Fl w w lo 38 3 0 vs 0 0) := hid0 ⟨fun j hj => by
    obtain ⟨xs, h⟩ := hown j hj
    exact ⟨xs, h, fun hh => absurd hh (Nat.not_lt_zero _), fun _ k hk => absurd hk (Nat.not_lt_zero _)⟩, Kp.refl _ _ _⟩
  have HA := hid0 ha
  have HNn := hid0 hn
  have HMk := hid0 (fun i (hi : i < 4) W => mark6_any i (by omega) W)
  obtain ⟨j0, hj, hy0, hy1, hy2⟩ := info_parts infoSec
  clear hrow hown ha hn hga hgl
  go_enter Tryz.func34, Tryz.ntmps34
  go_wp2
  go_loopw [3] (fun i wr => ∃ k : Nat, k ≤ 4 ∧ i = .int .i64 (k : Int) ∧ Hid (Fl w wr lo 38 3 0 vs k 0)) (fun i _ => 4 - (intOf i).toNat)
  case atStart => exact ⟨0, by omega, rfl, HF0⟩
  case round =>
    clear HF0
    obtain ⟨i, hi, rfl, HF⟩ := hrel
    by_cases hlt : i < 4
    · have hiz : (i : Int) < 4 := by omega
      have hi0 : (0 : Int) ≤ (i : Int) := by omega
      have hil : i < vs.length := by omega
      have hni := HNn.out i hil
      obtain ⟨a, c, hvi⟩ := HSl.out i hil
      have HVi := hid0 hvi
      have HMi := hid0 (HMk.out i hlt)
      clear hvi
      go_wp2
      go_loopw [4] (fun j wr => ∃ k : Nat, k ≤ vs[i].2 ∧ j = .int .i64 (k : Int) ∧ Hid (Fl w wr lo 38 3 0 vs i k)) (fun j _ => vs[i].2 - (intOf j).toNat)
      case atStart => exact ⟨0, Nat.zero_le _, rfl, HF⟩
      case round =>
        clear HF
        obtain ⟨k, hk, rfl, HF⟩ := hrel
        have hr0 := HRow.out wr HF.out.kp i hil
        rw [HVi.out] at hr0
        by_cases hkl : k < vs[i].2
        · have hkz : (k : Int) < (vs[i].2 : Int) := by omega
          have hk0 : (0 : Int) ≤ (k : Int) := by omega
          obtain ⟨g, cap, hv, hg1, hg2, hcs⟩ := HF.out.at hil (by omega)
          have hv2 := hv
          rw [HVi.out] at hv2
          injection hv2 with e1 e2 e3
          subst e1 e3
          clear hv e2
          have HCs : Hid (∀ W : World, Fl w W lo 38 3 0 vs i k → W.cell? ⟨gl, i, none⟩ = some (.slice (some ⟨g, 0, none⟩) vs[i].2 c) ∧ ((∃ u, W.cell? ⟨g, k * 3, none⟩ = some u) ∧ W.frozen? ⟨g, k * 3, none⟩ = false) ∧ ((∃ u, W.cell? ⟨g, k * 3 + 1, none⟩ = some u) ∧ W.frozen? ⟨g, k * 3 + 1, none⟩ = false) ∧ ((∃ u, W.cell? ⟨g, k * 3 + 2, none⟩ = some u) ∧ W.frozen? ⟨g, k * 3 + 2, none⟩ = false)) := hid0 (fun W hW => by
            obtain ⟨g2, cap2, h1, _, _, h2⟩ := hW.at hil (by omega)
            rw [HVi.out] at h1
            injection h1 with h1
            injection h1 with h1
            injection h1 with h1
            subst h1
            refine ⟨by rw [HRow.out W hW.kp i hil, HVi.out], h2 _ (by omega), h2 _ (by omega), h2 _ (by omega)⟩)
          have HSt : Hid (∀ W : World, Fl w W lo 38 3 0 vs i k → Fl w (((W.setCell ⟨g, k * 3, none⟩ (.string (strOf (mkS i)))).setCell ⟨g, k * 3 + 1, none⟩ (.string ⟨#[]⟩)).setCell ⟨g, k * 3 + 2, none⟩ (.slice none 0 0)) lo 38 3 0 vs i (k + 1)) := hid0 (fun W hW => ((hW.mark HA.out hil HVi.out hkl (by omega)).poke HA.out hil HVi.out (k * 3 + 1) _ (fun q _ => by omega)).poke HA.out hil HVi.out (k * 3 + 2) _ (fun q _ => by omega))
          obtain ⟨_, ⟨⟨u0, c0⟩, f0⟩, ⟨⟨u1, c1⟩, f1⟩, ⟨⟨u2, c2⟩, f2⟩⟩ := HCs.out wr HF.out
          clear hcs
          generalize vs[i].2 = n at *
          go_wp2
          go_region_with (go_at_call 33; refine (HMi.out _).mono ?_; rintro e w1 ⟨rfl, hb1⟩; have HF1 := hid0 (HF.out.later (((Below.refl _ wr).drew).trans hb1) hlo); obtain ⟨x0, ⟨⟨v0, d0⟩, g0⟩, ⟨⟨v1, d1⟩, g1⟩, ⟨⟨v2, d2⟩, g2⟩⟩ := HCs.out w1 HF1.out; clear hb1)
          all_goals
            go_wp2
            go_roundw
            case rel => exact ⟨k + 1, by omega, by go_num, hid0 (HSt.out _ HF1.out)⟩
            case measure => simp [intOf]; omega
        · have hkz : ¬ (k : Int) < (vs[i].2 : Int) := by omega
          have HN2 := hid0 (HF.out.next (fun _ => by omega))
          generalize vs[i].2 = n at *
          go_wp2
          go_roundw
          case rel => exact ⟨i + 1, by omega, by go_num, HN2⟩
          case measure => simp [intOf]; omega
    · have hiI : (i : Int) = 4 := by omega
      have hi4 : i = vs.length := by omega
      rw [hi4] at HF
      have HG := hid0 (HF.out.gz (by omega))
      rw [hiI]
      clear HF hlt hi hi4 hiI
      go_wp2
      go_loopw [5, 6] (fun t i wr => ∃ (k G : Nat), k ≤ 4 ∧ i = .int .i64 (k : Int) ∧ t = .int .i64 (G : Int) ∧ 64 * k ≤ G ∧ G ≤ 564 * k ∧ Hid (Gz w wr lo 38 3 0 vs k)) (fun _ i _ => 4 - (intOf i).toNat)
      case atStart => exact ⟨0, 0, by omega, rfl, rfl, by omega, by omega, HG⟩
      case round =>
        clear HG
        obtain ⟨i, G, hi, rfl, rfl, hG1, hG2, HG⟩ := hrel
        by_cases hlt : i < 4
        · have hiz : (i : Int) < 4 := by omega
          have hi0 : (0 : Int) ≤ (i : Int) := by omega
          have hil : i < vs.length := by omega
          have hni := HNn.out i hil
          obtain ⟨a, c, hvi⟩ := HSl.out i hil
          have hr0 := HRow.out wr HG.out.kp i hil
          have hx0 := HG.out.start HA.out hil
          rw [hvi] at hr0 hx0
          have HX0 := hid0 hx0
          clear hx0 hvi HG
          generalize vs[i].2 = n at *
          go_wp2
          go_loopw [7, 8] (fun l j wr => ∃ (m : Nat) (lv : Value), m ≤ 64 ∧ j = .int .i64 (m : Int) ∧ lv = l ∧ Hid (Gx w wr lo 38 3 0 vs i n m lv)) (fun _ j _ => 64 - (intOf j).toNat)
          case atStart => exact ⟨0, _, by omega, rfl, rfl, HX0⟩
          case round =>
            clear HX0 hr0
            obtain ⟨m, lv, hm, rfl, rfl, HX⟩ := hrel
            have hsW := HX.out.gz.kp.sz
            by_cases hml : m < 64
            · have hmz : (m : Int) < 64 := by omega
              obtain ⟨xs, hxs⟩ := HX.out.own
              have HXs := hid0 hxs
              clear hxs
              go_wp2_with (at_builtin; go_loud ((
                refine wpList_append_own_front _ (by rfl) _ _ 22 (by rfl) lo 38 j0 (.agg #[.string ⟨#[]⟩, .string ⟨#[]⟩, .slice none 0 0]) 3 56 Tryz.underlying22 hj hy0 hy1 hy2 rfl (by decide) _ (n + m) xs (by rfl) (World.ownsRow.alloc HXs.out _) ⟨_, 0, none⟩ 1 1 [.string ⟨#[98, 101, 104, 105, 110, 100]⟩, .string ⟨#[]⟩, .slice none 0 0] (by rfl) (by rfl) (cell3_new _ _ _ _ _) (fun u hu => by simp only [List.mem_cons, List.not_mem_nil, or_false] at hu; rcases hu with rfl | rfl | rfl <;> rfl) (by unfold maxLen; omega) (by omega) (by simp; omega) ?_
                intro v8 w8 hown8 hgrow8 hat8 hfr8
                have HX1 := hid0 (HX.out.step (by omega) hlo HV0.out hown8 hgrow8 hat8 hfr8)
                clear hown8 hgrow8 hat8 hfr8)))
              go_roundw
              case rel => exact ⟨m + 1, _, by omega, by go_num, rfl, HX1⟩
              case measure => simp [intOf]; omega
            · have hmz : ¬ (m : Int) < 64 := by omega
              have hm64 : m = 64 := by omega
              subst hm64
              obtain ⟨xs, hxs⟩ := HX.out.own
              obtain ⟨al, cl2, rfl⟩ := own_slice6 hxs
              have HG1 := hid0 HX.out.gz
              clear hxs
              go_wp2
              go_roundw
              case rel => exact ⟨i + 1, G + (n + 64), by omega, by go_num, by go_num, by omega, by omega, HG1⟩
              case measure => simp [intOf]; omega
        · have hi4 : i = 4 := by omega
          have hiI : (i : Int) = 4 := by omega
          rw [hi4] at HG
          have hGI : (256 : Int) ≤ (G : Int) := by omega
          have HBl := hid0 HG.out.kp.bel
          rw [hiI]
          clear hlt hi hi4 hiI hG1 hG2
          go_wp2
          go_loopw [9] (fun i w2 => ∃ k : Nat, k ≤ 4 ∧ i = .int .i64 (k : Int) ∧ Hid (Gz w w2 lo 38 3 0 vs 4)) (fun i _ => 4 - (intOf i).toNat)
          case atStart => exact ⟨0, by omega, rfl, HG⟩
          case round =>
            clear HG HBl
            obtain ⟨i, hi, rfl, HG⟩ := hrel
            by_cases hlt : i < 4
            · have hiz : (i : Int) < 4 := by omega
              have hi0 : (0 : Int) ≤ (i : Int) := by omega
              have hil : i < vs.length := by omega
              have hni := HNn.out i hil
              obtain ⟨a, c, hvi⟩ := HSl.out i hil
              have HVi := hid0 hvi
              have HMi := hid0 (HMk.out i hlt)
              clear hvi
              go_wp2
              go_loopw [10] (fun j w2 => ∃ m : Nat, m ≤ vs[i].2 ∧ j = .int .i64 (m : Int) ∧ Hid (Gz w w2 lo 38 3 0 vs 4)) (fun j _ => vs[i].2 - (intOf j).toNat)
              case atStart => exact ⟨0, Nat.zero_le _, rfl, HG⟩
              case round =>
                clear HG
                obtain ⟨k, hk, rfl, HG⟩ := hrel
                have hr0 := HRow.out wr HG.out.kp i hil
                rw [HVi.out] at hr0
                by_cases hkl : k < vs[i].2
                · have hkz : (k : Int) < (vs[i].2 : Int) := by omega
                  have hk0 : (0 : Int) ≤ (k : Int) := by omega
                  obtain ⟨g, cap, hv, hcs⟩ := HG.out.rd i hil k hkl
                  rw [HVi.out] at hv
                  injection hv with e1 e2 e3
                  subst e1 e3
                  clear e2
                  have HCs : Hid (∀ W : World, Gz w W lo 38 3 0 vs 4 → W.cell? ⟨gl, i, none⟩ = some (.slice (some ⟨g, 0, none⟩) vs[i].2 c) ∧ W.cell? ⟨g, k * 3, none⟩ = some (.string (strOf (mkS i)))) := hid0 (fun W hW => by
                    obtain ⟨g2, cap2, h1, h2⟩ := hW.rd i hil k hkl
                    rw [HVi.out] at h1
                    injection h1 with h1
                    injection h1 with h1
                    injection h1 with h1
                    subst h1
                    exact ⟨by rw [HRow.out W hW.kp i hil, HVi.out], h2⟩)
                  have hself : ((strOf (mkS i)).toList == (strOf (mkS i)).toList) = true := by simp
                  obtain ⟨_, c0⟩ := HCs.out wr HG.out
                  clear hcs
                  generalize vs[i].2 = n at *
                  generalize strOf (mkS i) = MK at *
                  go_wp2
                  go_region_with (go_at_call 33; refine (HMi.out _).mono ?_; rintro e w1 ⟨rfl, hb1⟩; have HG1 := hid0 (HG.out.later (((Below.refl _ wr).drew).trans hb1) hlo); obtain ⟨x0, d0⟩ := HCs.out w1 HG1.out; clear hb1)
                  all_goals
                    go_wp2
                    go_roundw
                    case rel => exact ⟨k + 1, by omega, by go_num, HG1⟩
                    case measure => simp [intOf]; omega
                · have hkz : ¬ (k : Int) < (vs[i].2 : Int) := by omega
                  generalize vs[i].2 = n at *
                  go_wp2
                  go_roundw
                  case rel => exact ⟨i + 1, by omega, by go_num, HG⟩
                  case measure => simp [intOf]; omega
            · have hiz : ¬ (i : Int) < 4 := by omega
              go_wp2
              go_ret
              exact ⟨by simp, HG.out.kp⟩
end Go.Proofs.YtlfeiadgahdgoaaGreatDoor
namespace Go.Proofs.YtlfeiadgahdgoaaGreatDoor
open Go.RowKit Go.Shelf Go.Lib
set_option maxRecDepth 10000 in
theorem faultOf_any (x : Value) (ty : TypeId) (y : Value) (hx : x = .iface ty y) (w : World) : Calls Tryz.prog 22 #[faultV x] w fun e w' => e = .returned (.agg #[x]) ∧ Below w.heap.size w w' := by
  subst hx
  have hta : ∀ w, (Instr.typeAssert (.iface 59 (.agg #[.iface ty y])) 20 59 true).run Tryz.prog w = .ok (.tuple #[.agg #[.iface ty y], .bool true]) w := fun _ => by kernel_rfl
  unfold faultV
  go_enter Tryz.func22, Tryz.ntmps22
  go_wp2
  have h0 : ((w.alloc (.cells #[.iface ty y] 59)).alloc (.cells #[.iface ty y] 59)).cell? ⟨w.heap.size, 0, none⟩ = some (.iface ty y) := by
    rw [World.cell?_of_block (Below.heap_alloc _ _ w.heap.size (by simp))]
    exact cell_one_new _ _ _ 0 _ rfl
  refine bodyPost_ret (v := .agg #[.iface ty y]) (by simp [results, Tryz.results22, go_sem, h0]) rfl ⟨rfl, ?_⟩
  exact ((Below.refl _ _).alloc (Nat.le_refl _) _).alloc (by simp) _
set_option maxRecDepth 10000 in
theorem catch_idle (p q r s : Addr) (w : World) :
    CallsD Tryz.prog 21 #[.pointer (some p), .pointer (some q), .pointer (some r), .pointer (some s)] .returning w fun e u' w' => e = .returned (.tuple #[]) ∧ u' = .returning ∧ w' = w := by
  refine callsD_of_wpS Tryz.func21 rfl fun c₀ cs hu => ?_
  apply wpS_seq
  apply wpS_region
  simp [wpOpsS, go_sem, recoverD, hu, Tryz.ntmps21, Exit.thenS]
  refine wpS_of_wp ?_
  go_wp2
  cases c₀
  simp_all [bodyPostS, results, Tryz.results21]
/-- The named results and the reading, and that nothing below them has turned. -/
structure Nm (w W : World) (B : Nat) (vb vl ve : Value) (n : Int) (v m : Value) : Prop where
  b : W.heap[B]? = some (.cells #[vb] 24 (0, 0))
  l : W.heap[B + 1]? = some (.cells #[vl] 3 (0, 0))
  e : W.heap[B + 2]? = some (.cells #[ve] 27 (0, 0))
  r : W.heap[B + 3]? = some (.cells #[.int .i64 n, v, m] 57 (0, 0))
  bel : Below B w W
theorem Nm.later {w W W' : World} {B : Nat} {vb vl ve : Value} {n : Int} {v m : Value} (h : Nm w W B vb vl ve n v m) (hb : Below W.heap.size W W') : Nm w W' B vb vl ve n v m :=
  have k : ∀ {q o}, W.heap[q]? = some o → W'.heap[q]? = some o := fun {q} {_} h => (hb.block q (Array.getElem?_eq_some_iff.1 h).1).trans h
  ⟨k h.b, k h.l, k h.e, k h.r, h.bel.trans (lowB hb (by have := (Array.getElem?_eq_some_iff.1 h.b).1; omega))⟩
theorem Nm.cells {w W : World} {B : Nat} {vb vl ve : Value} {n : Int} {v m : Value} (h : Nm w W B vb vl ve n v m) : W.cell? ⟨B, 0, none⟩ = some vb ∧ W.cell? ⟨B + 1, 0, none⟩ = some vl ∧ W.cell? ⟨B + 2, 0, none⟩ = some ve ∧ W.cell? ⟨B + 3, 0, none⟩ = some (.int .i64 n) ∧ W.cell? ⟨B + 3, 1, none⟩ = some v ∧ W.frozen? ⟨B, 0, none⟩ = false ∧ W.frozen? ⟨B + 1, 0, none⟩ = false ∧ W.frozen? ⟨B + 2, 0, none⟩ = false :=
  ⟨by rw [cell_of_row _ _ _ _ _ _ h.b]; rfl, by rw [cell_of_row _ _ _ _ _ _ h.l]; rfl, by rw [cell_of_row _ _ _ _ _ _ h.e]; rfl, by rw [cell_of_row _ _ _ _ _ _ h.r]; rfl, by rw [cell_of_row _ _ _ _ _ _ h.r]; rfl, frozen_of_row _ _ _ _ _ h.b, frozen_of_row _ _ _ _ _ h.l, frozen_of_row _ _ _ _ _ h.e⟩
theorem Nm.setB {w W : World} {B : Nat} {vb vl ve : Value} {n : Int} {v m : Value} (h : Nm w W B vb vl ve n v m) (x : Value) : Nm w (W.setCell ⟨B, 0, none⟩ x) B x vl ve n v m :=
  ⟨heap_setCell_same _ B 0 _ _ _ h.b, (Below.heap_setCell _ _ _ (B + 1) (by simp)).trans h.l, (Below.heap_setCell _ _ _ (B + 2) (by simp)).trans h.e, (Below.heap_setCell _ _ _ (B + 3) (by simp)).trans h.r, h.bel.setCell (p := ⟨B, 0, none⟩) (Nat.le_refl _) _⟩
theorem Nm.setL {w W : World} {B : Nat} {vb vl ve : Value} {n : Int} {v m : Value} (h : Nm w W B vb vl ve n v m) (x : Value) : Nm w (W.setCell ⟨B + 1, 0, none⟩ x) B vb x ve n v m :=
  ⟨(Below.heap_setCell _ _ _ B (by simp)).trans h.b, heap_setCell_same _ (B + 1) 0 _ _ _ h.l, (Below.heap_setCell _ _ _ (B + 2) (by simp)).trans h.e, (Below.heap_setCell _ _ _ (B + 3) (by simp)).trans h.r, h.bel.setCell (p := ⟨B + 1, 0, none⟩) (by simp) _⟩
theorem Nm.setE {w W : World} {B : Nat} {vb vl ve : Value} {n : Int} {v m : Value} (h : Nm w W B vb vl ve n v m) (x : Value) : Nm w (W.setCell ⟨B + 2, 0, none⟩ x) B vb vl x n v m :=
  ⟨(Below.heap_setCell _ _ _ B (by simp)).trans h.b, (Below.heap_setCell _ _ _ (B + 1) (by simp)).trans h.l, heap_setCell_same _ (B + 2) 0 _ _ _ h.e, (Below.heap_setCell _ _ _ (B + 3) (by simp)).trans h.r, h.bel.setCell (p := ⟨B + 2, 0, none⟩) (by simp) _⟩
set_option maxRecDepth 10000 in
set_option maxHeartbeats 1600000 in
theorem catch_gave (w0 : World) (B : Nat) (n : Int) (vb vl ve : Value) (v m : Value) (ty : TypeId) (y : Value) (w : World) (hn : Nm w0 w B vb vl ve n v m) :
    CallsD Tryz.prog 21 #[.pointer (some ⟨B + 3, 0, none⟩), .pointer (some ⟨B, 0, none⟩), .pointer (some ⟨B + 1, 0, none⟩), .pointer (some ⟨B + 2, 0, none⟩)] (.panicking [{ v := faultV (.iface ty y), recovered := false }]) w fun e u' w' => e = .returned (.tuple #[]) ∧ u' = .panicking [{ v := faultV (.iface ty y), recovered := true }] ∧ Nm w0 w' B (.slice none 0 0) (.int .i64 n) (.iface ty y) n v m := by
  have HFa := hid0 (fun W => faultOf_any (.iface ty y) ty y rfl W)
  have hfd : ∀ W, (Instr.field 59 (.agg #[.iface ty y]) 0).run Tryz.prog W = .ok (.iface ty y) W := fun _ => by kernel_rfl
  have HN := hid0 (hn.later ((Below.refl w.heap.size w).drew))
  unfold faultV at *
  clear hn
  refine callsD_of_wpS Tryz.func21 rfl fun c₀ cs hu => ?_
  apply wpS_seq
  apply wpS_region
  simp [wpOpsS, go_sem, recoverD, hu, Tryz.ntmps21, Exit.thenS]
  refine wpS_of_wp ?_
  go_wp2
  simp only [Array.replicate_succ, Array.replicate_zero, List.push_toArray, List.setIfInBounds_toArray, List.set_cons_zero, List.set_cons_succ, List.append_toArray, List.cons_append, List.nil_append]
  refine wp_region_held_drew (S := (fun W => W.cell? ⟨B + 3, 0, none⟩ = some (.int .i64 n))) (by kernel_rfl) ?_ (fun hHeld => ?_)
  · exact HN.out.cells.2.2.2.1
  refine tkV (i := 0) (d := some 8) (v := ?_) rfl (by kernel_rfl) (by kernel_rfl) (by kernel_rfl) rfl (fun _ _ _ h => h) (by rfl) ?_ (by assumption) ?_
  rotate_left
  · (intro w hSw; (try dsimp only at hSw); (try simp only [List.getElem_toArray, List.getElem_cons_zero]); go_simp; try with_reducible rfl)
  simp only [Act.put, List.setIfInBounds_toArray, List.set_cons_zero, List.set_cons_succ]
  refine tkV (i := 1) (d := some 9) (v := ?_) rfl (by kernel_rfl) (by kernel_rfl) (by kernel_rfl) rfl (fun _ _ _ h => h) (by rfl) ?_ (by assumption) ?_
  rotate_left
  · (intro w hSw; (try dsimp only at hSw); (try simp only [List.getElem_toArray, List.getElem_cons_zero, List.getElem_cons_succ]); go_simp; try with_reducible rfl)
  simp only [Act.put, List.setIfInBounds_toArray, List.set_cons_zero, List.set_cons_succ]
  refine tkV (i := 2) (d := some 10) (v := ?_) rfl (by kernel_rfl) (by kernel_rfl) (by kernel_rfl) rfl (fun _ _ _ h => h) (by rfl) ?_ (by assumption) ?_
  rotate_left
  · (intro w hSw; (try dsimp only at hSw); (try simp only [List.getElem_toArray, List.getElem_cons_zero, List.getElem_cons_succ]); go_simp; try with_reducible rfl)
  simp only [Act.put, List.setIfInBounds_toArray, List.set_cons_zero, List.set_cons_succ]
  refine tkV (i := 3) (d := some 11) (v := ?_) rfl (by kernel_rfl) (by kernel_rfl) (by kernel_rfl) rfl (fun _ _ _ h => h) (by rfl) ?_ (by assumption) ?_
  rotate_left
  · (intro w hSw; (try dsimp only at hSw); (try simp only [List.getElem_toArray, List.getElem_cons_zero, List.getElem_cons_succ]); go_simp; try with_reducible rfl)
  simp only [Act.put, List.setIfInBounds_toArray, List.set_cons_zero, List.set_cons_succ]
  refine wpAnyH_ready (rs := [4]) (by kernel_rfl) (by simp) (AllReadyH.cons rfl (fun K hK => ?_) AllReadyH.nil)
  try simp only [List.getElem_toArray, List.getElem_cons_zero, List.getElem_cons_succ]
  go_simp
  go_split_ands
  refine (HFa.out _).mono ?_
  rintro e w5 ⟨rfl, hb5⟩
  have HN5 := hid0 (HN.out.later hb5)
  clear hb5 HN
  go_wp2_with fail
  refine hK.out _ _ ?_ (fun hHeld5 => ?_)
  · exact HN5.out.cells.2.2.2.1
  clear hK K hHeld
  try simp only [Act.put, List.setIfInBounds_toArray, List.set_cons_zero, List.set_cons_succ]
  refine tkV (i := 5) (d := some 13) (v := ?_) rfl (by kernel_rfl) (by kernel_rfl) (by kernel_rfl) rfl (fun _ _ _ h => h) (by rfl) ?_ (by assumption) ?_
  rotate_left
  · (intro w hSw; (try dsimp only at hSw); (try simp only [List.getElem_toArray, List.getElem_cons_zero, List.getElem_cons_succ]); go_simp; try with_reducible rfl)
  simp only [Act.put, List.setIfInBounds_toArray, List.set_cons_zero, List.set_cons_succ]
  obtain ⟨c0, c1, c2, c3, _, f0, f1, f2⟩ := HN5.out.cells
  refine wpAnyH_ready (rs := [6]) (by kernel_rfl) (by simp) (AllReadyH.cons rfl (fun K hK => ?_) AllReadyH.nil)
  try simp only [List.getElem_toArray, List.getElem_cons_zero, List.getElem_cons_succ]
  go_simp
  have HN6 := hid0 (HN5.out.setB (.slice none 0 0))
  refine hK.out _ _ ?_ (fun hHeld6 => ?_)
  · exact HN6.out.cells.2.2.2.1
  clear hK K hHeld5 c0 c1 c2 c3 f0 f1 f2
  try simp only [Act.put, List.setIfInBounds_toArray, List.set_cons_zero, List.set_cons_succ]
  generalize World.setCell _ _ _ = w6 at *
  obtain ⟨c0, c1, c2, c3, _, f0, f1, f2⟩ := HN6.out.cells
  refine wpAnyH_ready (rs := [7]) (by kernel_rfl) (by simp) (AllReadyH.cons rfl (fun K hK => ?_) AllReadyH.nil)
  try simp only [List.getElem_toArray, List.getElem_cons_zero, List.getElem_cons_succ]
  go_simp
  have HN7 := hid0 (HN6.out.setL (.int .i64 n))
  refine hK.out _ _ ?_ (fun hHeld7 => ?_)
  · exact HN7.out.cells.2.2.2.1
  clear hK K hHeld6 c0 c1 c2 c3 f0 f1 f2
  try simp only [Act.put, List.setIfInBounds_toArray, List.set_cons_zero, List.set_cons_succ]
  generalize World.setCell _ _ _ = w7 at *
  obtain ⟨c0, c1, c2, c3, _, f0, f1, f2⟩ := HN7.out.cells
  refine wpAnyH_ready (rs := [8]) (by kernel_rfl) (by simp) (AllReadyH.cons rfl (fun K hK => ?_) AllReadyH.nil)
  try simp only [List.getElem_toArray, List.getElem_cons_zero, List.getElem_cons_succ]
  go_simp
  have HN8 := hid0 (HN7.out.setE (.iface ty y))
  refine hK.out _ _ ?_ (fun hHeld8 => ?_)
  · exact HN8.out.cells.2.2.2.1
  clear hK K hHeld7 c0 c1 c2 c3 f0 f1 f2
  try simp only [Act.put, List.setIfInBounds_toArray, List.set_cons_zero, List.set_cons_succ]
  generalize World.setCell _ _ _ = w8 at *
  refine wpAnyH_done (by kernel_rfl) ?_ _
  have h8 := HN8.out
  change bodyPostS _ _ _ _ _ _ _ _ _
  cases c₀
  simp_all [bodyPostS, results, Tryz.results21]
end Go.Proofs.YtlfeiadgahdgoaaGreatDoor
namespace Go.Proofs.YtlfeiadgahdgoaaGreatDoor
open Go.RowKit Go.Shelf Go.Lib
/-- Sections of one's own, each list of edits in a row of its own. -/
structure SB (w : World) (lo : Nat) (v : Value) (S : List SecO) : Prop where
  sec : w.ownsRow lo 38 3 v S.length (cellsO S)
  ed : ∀ x ∈ S, OwnE w lo x.ev x.s.ed.length x.s.ed
  ne : ∀ x ∈ S, ∀ g, x.ev.ownBlock = some g → v.ownBlock ≠ some g
  pw : S.Pairwise fun x y => ∀ g, x.ev.ownBlock = some g → y.ev.ownBlock ≠ some g
theorem RB.sb {w : World} {lo R ln : Nat} {v : Value} {S : List SecO} (h : RB w lo R v S ln) : SB w lo v S := ⟨h.sec, h.ed, h.ne, h.pw⟩
theorem SB.keep {w w' : World} {lo : Nat} {v : Value} {S : List SecO} (h : SB w lo v S) (hb : ∀ k, lo ≤ k → k < w.heap.size → w'.heap[k]? = w.heap[k]?) : SB w' lo v S where
  sec := own_blk h.sec (fun k hk => hb k (World.ownsRow.lt h.sec k hk).1 (World.ownsRow.lt h.sec k hk).2)
  ed := fun x hx => own_blk (h.ed x hx) (fun k hk => hb k (World.ownsRow.lt (h.ed x hx) k hk).1 (World.ownsRow.lt (h.ed x hx) k hk).2)
  ne := h.ne
  pw := h.pw
theorem SB.lower {w : World} {lo lo' : Nat} {v : Value} {S : List SecO} (h : SB w lo v S) (hl : lo' ≤ lo) : SB w lo' v S := ⟨owns_lower h.sec hl, fun x hx => owns_lower (h.ed x hx) hl, h.ne, h.pw⟩
/-- What Parse answers. -/
def GoPar (A : Nat → Addr) (w w' : World) (o : PRes) (e : Ending) : Prop := match o with
  | .stop n i => e = .returned (.tuple #[.agg #[.slice none 0 0], .int .i64 (n : Int), .iface 216 (.pointer (some (A i)))])
  | .ok S => ∃ v T, secsO T = S ∧ SB w' w.heap.size v T ∧ e = .returned (.tuple #[.agg #[v], .int .i64 0, .nilIface])
theorem four_new (w : World) (o0 o1 o2 o3 : Obj) : ∀ W, W = (((w.alloc o0).alloc o1).alloc o2).alloc o3 → W.heap[w.heap.size]? = some o0 ∧ W.heap[w.heap.size + 1]? = some o1 ∧ W.heap[w.heap.size + 2]? = some o2 ∧ W.heap[w.heap.size + 3]? = some o3 ∧ W.heap.size = w.heap.size + 4 ∧ Below w.heap.size w W := by
  rintro W rfl
  have n0 := heap_alloc_new w o0
  have n1 := heap_alloc_new (w.alloc o0) o1
  have n2 := heap_alloc_new ((w.alloc o0).alloc o1) o2
  have n3 := heap_alloc_new (((w.alloc o0).alloc o1).alloc o2) o3
  simp only [World.size_alloc] at n1 n2 n3
  refine ⟨?_, ?_, ?_, n3, by simp only [World.size_alloc], ?_⟩
  · rw [Below.heap_alloc _ _ _ (by simp only [World.size_alloc]; omega), Below.heap_alloc _ _ _ (by simp only [World.size_alloc]; omega), Below.heap_alloc _ _ _ (by simp only [World.size_alloc]; omega)]; exact n0
  · rw [Below.heap_alloc _ _ _ (by simp only [World.size_alloc]; omega), Below.heap_alloc _ _ _ (by simp only [World.size_alloc]; omega)]; exact n1
  · rw [Below.heap_alloc _ _ _ (by simp only [World.size_alloc]; omega)]; exact n2
  · exact ((((Below.refl _ w).alloc (Nat.le_refl _) _).alloc (by simp only [World.size_alloc]; omega) _).alloc (by simp only [World.size_alloc]; omega) _).alloc (by simp only [World.size_alloc]; omega) _
set_option maxRecDepth 10000 in
set_option maxHeartbeats 1600000 in
theorem parse_any (A : Nat → Addr) (l : List UInt8) (hl : l.length ≤ 1048576) (w : World) (hm : Mx w) (hs : Syn w) (hQ : SeqAt w) (he : Sents w A) :
    Calls Tryz.prog 9 #[.string (strOf l)] w fun e w' => GoPar A w w' (prsL l) e ∧ Below w.heap.size w w' := by
  have hmf : ∀ (fn : Fn) (first cap : Array Value) (w : World), (Instr.makeFunc fn first cap).run Tryz.prog w = .ok (.func fn first cap) w := fun _ _ _ _ => rfl
  have hsI : ¬ (1048576 : Int) < ((strOf l).size : Int) := by rw [strOf_size]; omega
  obtain ⟨W, hW⟩ : ∃ W, W = (((w.alloc (.cells #[.slice none 0 0] 24)).alloc (.cells #[.int .i64 0] 3)).alloc (.cells #[.nilIface] 27)).alloc (.cells #[.int .i64 0, .slice none 0 0, .int .i64 0] 57) := ⟨_, rfl⟩
  obtain ⟨b0, b1, b2, b3, bs, bb⟩ := four_new w _ _ _ _ W hW
  have hrb : RB W (w.heap.size + 4) (w.heap.size + 3) (.slice none 0 0) [] 0 := ⟨by omega, b3, World.ownsRow_nil _ _ _ _, (fun x hx => by cases hx), (fun x hx => by cases hx), .nil⟩
  have HEn : Hid (∀ W', Below (w.heap.size + 3) W W' → Mx W' ∧ Syn W' ∧ SeqAt W' ∧ Sents W' A) := hid0 (fun W' h => by
    have h2 := bb.trans (lowB h (by omega : w.heap.size ≤ w.heap.size + 3))
    exact ⟨hm.below h2, hs.below h2, hQ.later h2, he.below h2⟩)
  have HTA := hid0 (takeAll_any A l hl W (w.heap.size + 4) (w.heap.size + 3) 0 _ [] hrb (by omega) (by simp) (by simp [nEd, secsO]) (by omega) HEn)
  have e1 : parA (secsO []) 0 l = prsL l := rfl
  rw [e1] at HTA
  have HN : Hid (∀ W', Below (w.heap.size + 3) W W' → ∀ (n : Int) v m, W'.heap[w.heap.size + 3]? = some (.cells #[.int .i64 n, v, m] 57 (0, 0)) → Nm w W' w.heap.size (.slice none 0 0) (.int .i64 0) .nilIface n v m) := hid0 (fun W' h n v m hr => ⟨(h.block _ (by omega)).trans b0, (h.block _ (by omega)).trans b1, (h.block _ (by omega)).trans b2, hr, bb.trans (lowB h (by omega))⟩)
  rw [hW] at HTA
  rw [hW] at HN
  clear hm hs hQ he HEn hrb e1 b0 b1 b2 b3 bs bb
  generalize prsL l = o at *
  cases o with
  | stop n i =>
    unfold AllA Gives at HTA
    unfold GoPar
    simp only at HTA ⊢
    go_enter_defers Tryz.func9, Tryz.ntmps9
    go_wp2_with (go_at_call 23; refine HTA.out.mono ?_; rintro e w1 ⟨⟨rfl, v, m, hr1⟩, hb1⟩; have HN1 := hid0 (HN.out w1 hb1 _ v m hr1); clear hr1 hb1)
    refine leaves_cons (f := 21) (args := #[.pointer (some ⟨w.heap.size + 3, 0, none⟩), .pointer (some ⟨w.heap.size, 0, none⟩), .pointer (some ⟨w.heap.size + 1, 0, none⟩), .pointer (some ⟨w.heap.size + 2, 0, none⟩)]) (by simp) (by simp [go_sem]) ?_
    refine (catch_gave w w.heap.size _ _ _ _ v m _ _ w1 HN1.out).mono ?_
    rintro e u' w'' ⟨rfl, rfl, hN⟩
    obtain ⟨k0, k1, k2, _⟩ := hN.cells
    have hb := hN.bel
    simp [Leaves, settle, results, Tryz.results9, go_sem, k0, k1, k2, hb]
  | ok S =>
    unfold AllA at HTA
    simp only at HTA
    go_enter_defers Tryz.func9, Tryz.ntmps9
    go_wp2_with (go_at_call 23; refine HTA.out.mono ?_; rintro e w1 ⟨⟨rfl, v, T, ln, hT, hR⟩, hb1⟩; have HN1 := hid0 (HN.out w1 hb1 _ v _ hR.row); have HRB := hid0 hR; have HT := hid0 hT; obtain ⟨av, cv, hv, _⟩ := hR.form; subst hv; obtain ⟨c0, c1, c2, c3, c4, f0, f1, f2⟩ := HN1.out.cells; clear hR hT hb1)
    refine leaves_cons (f := 21) (args := #[.pointer (some ⟨w.heap.size + 3, 0, none⟩), .pointer (some ⟨w.heap.size, 0, none⟩), .pointer (some ⟨w.heap.size + 1, 0, none⟩), .pointer (some ⟨w.heap.size + 2, 0, none⟩)]) (by simp) (by simp [go_sem]) ?_
    refine (catch_idle _ _ _ _ _).mono ?_
    rintro e u' w'' ⟨rfl, rfl, rfl⟩
    have hF := ((HN1.out.setB (.slice av T.length cv)).setL (.int .i64 0)).setE .nilIface
    have hSB : SB (((w1.setCell ⟨w.heap.size, 0, none⟩ (.slice av T.length cv)).setCell ⟨w.heap.size + 1, 0, none⟩ (.int .i64 0)).setCell ⟨w.heap.size + 2, 0, none⟩ .nilIface) w.heap.size (.slice av T.length cv) T :=
      (HRB.out.sb.keep (fun k h1 _ => (Below.heap_setCell _ _ _ k (by simp only; omega)).trans ((Below.heap_setCell _ _ _ k (by simp only; omega)).trans (Below.heap_setCell _ _ _ k (by simp only; omega))))).lower (by omega)
    obtain ⟨k0, k1, k2, _⟩ := hF.cells
    have hb := hF.bel
    clear hF c0 c1 c2 c3 c4 f0 f1 f2 HRB HN1
    change Leaves _ _ _ _ _ _ (((w1.setCell ⟨w.heap.size, 0, none⟩ (.slice av T.length cv)).setCell ⟨w.heap.size + 1, 0, none⟩ (.int .i64 0)).setCell ⟨w.heap.size + 2, 0, none⟩ .nilIface)
    generalize ((w1.setCell ⟨w.heap.size, 0, none⟩ (.slice av T.length cv)).setCell ⟨w.heap.size + 1, 0, none⟩ (.int .i64 0)).setCell ⟨w.heap.size + 2, 0, none⟩ .nilIface = W5 at *
    have hG : GoPar A w W5 (.ok S) (.returned (.tuple #[.agg #[.slice av T.length cv], .int .i64 0, .nilIface])) := ⟨_, T, HT.out, hSB, rfl⟩
    simp [Leaves, settle, results, Tryz.results9, go_sem, k0, k1, k2, hb, hG]
theorem three_set (w W : World) (n : Nat) (a b c x y z : Value) (t0 t1 t2 : TypeId) (k0 : W.heap[n]? = some (.cells #[a] t0 (0, 0))) (k1 : W.heap[n + 1]? = some (.cells #[b] t1 (0, 0))) (k2 : W.heap[n + 2]? = some (.cells #[c] t2 (0, 0))) (hB : Below n w W) :
    ∀ V, V = ((W.setCell ⟨n, 0, none⟩ x).setCell ⟨n + 1, 0, none⟩ y).setCell ⟨n + 1 + 1, 0, none⟩ z → V.cell? ⟨n, 0, none⟩ = some x ∧ V.cell? ⟨n + 1, 0, none⟩ = some y ∧ V.cell? ⟨n + 1 + 1, 0, none⟩ = some z ∧ Below n w V := by
  rintro V rfl
  have o : ∀ (W : World) (p : Addr) (v : Value) (i : Nat), ¬ i = p.block → (W.setCell p v).heap[i]? = W.heap[i]? := fun W p v i h => Below.heap_setCell W p v i h
  have a1 := heap_setCell_same W n 0 _ _ x k0
  have b1 : (W.setCell ⟨n, 0, none⟩ x).heap[n + 1]? = _ := (o _ _ _ _ (by simp)).trans k1
  have b2 := heap_setCell_same _ (n + 1) 0 _ _ y b1
  have c1 : ((W.setCell ⟨n, 0, none⟩ x).setCell ⟨n + 1, 0, none⟩ y).heap[n + 1 + 1]? = _ := (o _ _ _ _ (by simp)).trans ((o _ _ _ _ (by simp; omega)).trans k2)
  have c2 := heap_setCell_same _ (n + 1 + 1) 0 _ _ z c1
  refine ⟨?_, ?_, ?_, ?_⟩
  · rw [cell_of_row _ _ _ _ _ _ ((o _ _ _ _ (by simp; omega)).trans ((o _ _ _ _ (by simp)).trans a1))]; rfl
  · rw [cell_of_row _ _ _ _ _ _ ((o _ _ _ _ (by simp)).trans b2)]; rfl
  · rw [cell_of_row _ _ _ _ _ _ c2]; rfl
  · exact ((hB.setCell (p := ⟨n, 0, none⟩) (Nat.le_refl _) _).setCell (p := ⟨n + 1, 0, none⟩) (by simp) _).setCell (p := ⟨n + 1 + 1, 0, none⟩) (by simp only; omega) _
set_option maxRecDepth 10000 in
set_option maxHeartbeats 1600000 in
theorem parse_long (A : Nat → Addr) (t : ByteArray) (ht : 1048576 < t.size) (w : World) (he : w.cell? ⟨0, 0, none⟩ = some (.iface 216 (.pointer (some (A 2))))) :
    Calls Tryz.prog 9 #[.string t] w fun e w' => e = .returned (.tuple #[.agg #[.slice none 0 0], .int .i64 0, .iface 216 (.pointer (some (A 2)))]) ∧ Below w.heap.size w w' := by
  have hsI : (1048576 : Int) < (t.size : Int) := by omega
  have hg : 0 < w.heap.size := World.block_lt_of_cell? w _ he
  obtain ⟨W, hW⟩ : ∃ W, W = (((w.alloc (.cells #[.slice none 0 0] 24)).alloc (.cells #[.int .i64 0] 3)).alloc (.cells #[.nilIface] 27)) := ⟨_, rfl⟩
  obtain ⟨b0, b1, b2, bb⟩ : W.heap[w.heap.size]? = some (.cells #[.slice none 0 0] 24 (0, 0)) ∧ W.heap[w.heap.size + 1]? = some (.cells #[.int .i64 0] 3 (0, 0)) ∧ W.heap[w.heap.size + 2]? = some (.cells #[.nilIface] 27 (0, 0)) ∧ Below w.heap.size w W := by
    obtain ⟨q0, q1, q2, _, qs, qb⟩ := four_new w (.cells #[.slice none 0 0] 24) (.cells #[.int .i64 0] 3) (.cells #[.nilIface] 27) (.cells #[.nilIface] 27) _ rfl
    rw [← hW] at q0 q1 q2 qs qb
    have hs : W.heap.size = w.heap.size + 3 := by rw [hW]; simp
    refine ⟨?_, ?_, ?_, ?_⟩
    · rw [Below.heap_alloc W _ _ (by omega)] at q0; exact q0
    · rw [Below.heap_alloc W _ _ (by omega)] at q1; exact q1
    · rw [Below.heap_alloc W _ _ (by omega)] at q2; exact q2
    · rw [hW]; exact ((((Below.refl _ w).alloc (Nat.le_refl _) _).alloc (by simp only [World.size_alloc]; omega) _).alloc (by simp only [World.size_alloc]; omega) _)
  have c0 : W.cell? ⟨w.heap.size, 0, none⟩ = some (.slice none 0 0) := by rw [cell_of_row W _ _ _ _ _ b0]; rfl
  have c1 : W.cell? ⟨w.heap.size + 1, 0, none⟩ = some (.int .i64 0) := by rw [cell_of_row W _ _ _ _ _ b1]; rfl
  have c2 : W.cell? ⟨w.heap.size + 1 + 1, 0, none⟩ = some .nilIface := by rw [cell_of_row W _ _ _ _ _ b2]; rfl
  have f0 : W.frozen? ⟨w.heap.size, 0, none⟩ = false := frozen_of_row W _ _ _ _ b0
  have f1 : W.frozen? ⟨w.heap.size + 1, 0, none⟩ = false := frozen_of_row W _ _ _ _ b1
  have f2 : W.frozen? ⟨w.heap.size + 1 + 1, 0, none⟩ = false := frozen_of_row W _ _ _ _ b2
  have e2 : W.cell? ⟨0, 0, none⟩ = some (.iface 216 (.pointer (some (A 2)))) := (bb.cell (p := ⟨0, 0, none⟩) hg).trans he
  have HW := hid0 hW.symm
  have HT := hid0 (three_set w W w.heap.size _ _ _ (.slice none 0 0) (.int .i64 0) (.iface 216 (.pointer (some (A 2)))) _ _ _ b0 b1 b2 bb)
  clear hW b0 b1 b2 bb he
  go_enter_defers Tryz.func9, Tryz.ntmps9
  go_wp2
  rw [HW.out]
  go_region
  go_wp2
  obtain ⟨k0, k1, k2, kb⟩ := HT.out _ rfl
  clear HT c0 c1 c2 f0 f1 f2 e2 HW
  generalize ((W.setCell ⟨w.heap.size, 0, none⟩ (.slice none 0 0)).setCell ⟨w.heap.size + 1, 0, none⟩ (.int .i64 0)).setCell ⟨w.heap.size + 1 + 1, 0, none⟩ (.iface 216 (.pointer (some (A 2)))) = V at *
  have kd := kb.drew
  simp [bodyPostD, Leaves, results, Tryz.results9, go_sem, k0, k1, k2, kd]
end Go.Proofs.YtlfeiadgahdgoaaGreatDoor
namespace Go.Proofs.YtlfeiadgahdgoaaGreatDoor
open Go.RowKit Go.Shelf Go.Lib
/-- Besides Sents: the refusal that Num passes by. -/
structure Sent6 (w : World) (A : Nat → Addr) : Prop where
  s : Sents w A
  c3 : w.cell? ⟨3, 0, none⟩ = some (.iface 216 (.pointer (some (A 3))))
  n3 : ∀ i, isSent i = true → A i ≠ A 3
  b3 : ∃ c t, w.heap[(A 3).block]? = some (.cells c t (0, 0))
theorem Sent6.below {w w' : World} {A : Nat → Addr} (h : Sent6 w A) (hb : Below w.heap.size w w') : Sent6 w' A :=
  ⟨h.s.below hb, (hb.cell (p := ⟨3, 0, none⟩) (World.block_lt_of_cell? w _ h.c3)).trans h.c3, h.n3, by
    obtain ⟨c, t, hc⟩ := h.b3
    exact ⟨c, t, (hb.block _ (Array.getElem?_eq_some_iff.1 hc).1).trans hc⟩⟩
theorem Sent6.eql3 {w : World} {A : Nat → Addr} (h : Sent6 w A) (i : Nat) (hi : isSent i = true) :
    (binOp .eql 27 (.iface 216 (.pointer (some (A i)))) (.iface 216 (.pointer (some (A 3))))).run Tryz.prog w = .ok (.bool false) w := by
  obtain ⟨ti, h1, h2⟩ := Option.map_eq_some_iff.1 compErr
  obtain ⟨tj, h3, h4⟩ := Option.map_eq_some_iff.1 sizeErr
  obtain ⟨ca, ta, ha⟩ := h.s.blk i hi
  obtain ⟨cb, tb, hb⟩ := h.b3
  rw [run_eql_iface_ptr_other w Tryz.underlying27 Tryz.underlying216 h1 h2 h3 (by rw [h4]; decide) (h.n3 i hi) ha hb]
set_option maxRecDepth 10000 in
set_option maxHeartbeats 800000 in
theorem num6_at (w : World) (A : Nat → Addr) (h : Sent6 w A) (i : Nat) (hi : isSent i = true) :
    Calls Tryz.prog 14 #[.iface 216 (.pointer (some (A i)))] w fun e w' => e = .returned (.int .i64 ((numS i : Nat) : Int)) ∧ w' = w := by
  have d0 := h.s.c0
  have d1 := h.s.c1
  have d2 := h.s.c2
  have d3 := h.c3
  have d4 := h.s.c4
  have d6 := h.s.c6
  have q3 := h.eql3 i hi
  have q0 := h.s.eql i 0 hi rfl
  have q1 := h.s.eql i 1 hi rfl
  have q2 := h.s.eql i 2 hi rfl
  have q4 := h.s.eql i 4 hi rfl
  have q6 := h.s.eql i 6 hi rfl
  have h5 : i = 0 ∨ i = 1 ∨ i = 2 ∨ i = 4 ∨ i = 6 := by
    simp only [isSent, Bool.or_eq_true, beq_iff_eq] at hi
    omega
  clear h hi
  rcases h5 with rfl | rfl | rfl | rfl | rfl
  all_goals
    simp (config := { decide := true }) only [] at q0 q1 q2 q4 q6
    go_enter Tryz.func14, Tryz.ntmps14
    go_wp2
    go_ret
    exact ⟨rfl, rfl⟩
theorem num6_nil (w : World) : Calls Tryz.prog 14 #[.nilIface] w fun e w' => e = .returned (.int .i64 0) ∧ w' = w := by
  go_enter Tryz.func14, Tryz.ntmps14
  go_wp2
  go_ret
  exact ⟨rfl, rfl⟩
end Go.Proofs.YtlfeiadgahdgoaaGreatDoor
